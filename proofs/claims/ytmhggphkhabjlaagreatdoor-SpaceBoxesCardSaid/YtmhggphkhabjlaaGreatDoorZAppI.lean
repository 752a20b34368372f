/- The common part of boxes, where there may be one. -/
import Derived.Test.YtmhggphkhabjlaaGreatDoorZBxI
import Derived.Test.YtmhggphkhabjlaaGreatDoorZSpI
import Derived.Test.YtmhggphkhabjlaaGreatDoorShelf
import Derived.Test.YtmhggphkhabjlaaGreatDoorZCol
import Derived.Maps.AppendAt

/- The common part of boxes, where there may be one. -/
section
namespace Go.Proofs.YtmhggphkhabjlaaGreatDoor
open Go Go.RowKit Go.Deep

def cntB (b : Bool) (n : Nat) : Nat := bif b then n else 0
set_option maxRecDepth 100000 in
set_option maxHeartbeats 4000000 in
theorem s_Inter_ok (w : World) (A1 A2 B1 B2 : Option Addr) (n c d e f : Nat) (al ah bl bh : Nat → Int) (ha1 : IntsAt w A1 n al) (ha2 : IntsAt w A2 n ah) (hb1 : IntsAt w B1 n bl) (hb2 : IntsAt w B2 n bh) (h1n : 1 ≤ n) (hn4 : n ≤ 4) :
    Calls Tryz.prog 23 #[BoxW A1 A2 n c n d, BoxW B1 B2 n e n f] w fun e' w' => ∃ P Q k, e' = .returned (.tuple #[BoxW P Q k k k k, .bool (intTo al ah bl bh n)]) ∧ k = cntB (intTo al ah bl bh n) n ∧ IntsAt w' P k (intLo al bl) ∧ IntsAt w' Q k (intHi ah bh) ∧ Below w.heap.size w w' := by
  obtain ⟨ve, hve⟩ : ∃ ve, intTo al ah bl bh n = ve := ⟨_, rfl⟩
  have HVE := Lib.hid hve
  rw [hve]
  clear hve
  have HT := Lib.hid (three w (.slice A1 n c) (.slice B1 n e) (.slice none 0 0) (.slice A2 n d) (.slice B2 n f) (.slice none 0 0))
  have hz0 : (((w.alloc (.cells #[.slice A1 n c, .slice A2 n d] 41)).alloc (.cells #[.slice B1 n e, .slice B2 n f] 41)).alloc (.cells #[.slice none 0 0, .slice none 0 0] 41)).heap.size = w.heap.size + 3 := by simp
  have HB : Hid (Below w.heap.size w (((w.alloc (.cells #[.slice A1 n c, .slice A2 n d] 41)).alloc (.cells #[.slice B1 n e, .slice B2 n f] 41)).alloc (.cells #[.slice none 0 0, .slice none 0 0] 41))) := (((Below.refl _ _).alloc (Nat.le_refl _) _).alloc (by simp) _).alloc (by simp; omega) _
  have HF1 := Lib.hid (fun W => s_formed W A1 A2 n c n d)
  have HF2 := Lib.hid (fun W => s_formed W B1 B2 n e n f)
  have hff : formB n n = true := by simp [formB, h1n, hn4]
  rw [hff] at HF1 HF2
  have HA1 := Lib.hid ha1
  have HA2 := Lib.hid ha2
  have HBB1 := Lib.hid hb1
  have HBB2 := Lib.hid hb2
  have HBe := Lib.hid s_below
  clear ha1 ha2 hb1 hb2 hff
  have hmk := fun W => run_make_row' (P := Tryz.prog) 32 3 (.int .i64 0) 8 Tryz.underlying32 info_int rfl .i64 .i64 n (by omega) (by omega) W
  go_enter Tryz.func23, Tryz.ntmps23
  obtain ⟨⟨m0, m1⟩, ⟨m2, m3⟩, -⟩ := HT.out (((w.alloc (.cells #[.slice A1 n c, .slice A2 n d] 41)).alloc (.cells #[.slice B1 n e, .slice B2 n f] 41)).alloc (.cells #[.slice none 0 0, .slice none 0 0] 41)) (Below.refl _ _)
  go_wp2_with fail
  clear m0 m1 m2 m3
  generalize ((w.alloc (.cells #[.slice A1 n c, .slice A2 n d] 41)).alloc (.cells #[.slice B1 n e, .slice B2 n f] 41)).alloc (.cells #[.slice none 0 0, .slice none 0 0] 41) = W0 at *
  refine (HF1.out _).mono ?_
  rintro e1 w1 ⟨rfl, hb1⟩
  rw [hz0] at hb1
  have HB1 : Hid (Below (w.heap.size + 3) W0 w1) := hb1
  have HBw1 : Hid (Below w.heap.size w w1) := Below.trans HB.out (hb1.mono (by omega))
  clear hb1
  obtain ⟨⟨m0, m1⟩, ⟨m2, m3⟩, -⟩ := HT.out w1 HB1.out
  go_wp2_with fail
  refine (HF2.out _).mono ?_
  rintro e2 w2 ⟨rfl, hb2⟩
  have HB2 : Hid (Below (w.heap.size + 3) W0 w2) := HB1.out.trans (hb2.mono (by rw [← hz0]; exact HB1.out.size))
  have HBw2 : Hid (Below w.heap.size w w2) := st HBw1.out hb2
  have hz2 : w.heap.size + 3 ≤ w2.heap.size := by rw [← hz0]; exact HB2.out.size
  clear hb2 m0 m1 m2 m3 HF1 HF2 HB1 HBw1
  obtain ⟨⟨m0, m1⟩, ⟨m2, m3⟩, -⟩ := HT.out w2 HB2.out
  go_wp2_with fail
  clear m0 m1 m2 m3
  rename_i K hK
  have key : ∀ (rl rh bb : Nat) (W2 : World), W2.rowIs rl 3 n (fun _ => .int .i64 0) → W2.rowIs rh 3 n (fun _ => .int .i64 0) → W2.heap[bb]? = some (.cells #[.slice (some ⟨rl, 0, none⟩) n n, .slice (some ⟨rh, 0, none⟩) n n] 41 (0, 0)) → Below w2.heap.size w2 W2 → (w2.heap.size ≤ rl ∧ w2.heap.size ≤ rh ∧ w2.heap.size ≤ bb ∧ rl ≠ rh ∧ rl ≠ bb ∧ rh ≠ bb) → K ⟨#[BoxW A1 A2 n c n d, BoxW B1 B2 n e n f, .pointer (some ⟨w.heap.size, 0, none⟩), .pointer (some ⟨w.heap.size + 1, 0, none⟩), .pointer (some ⟨w.heap.size + 1 + 1, 0, none⟩), .bool false, .pointer (some ⟨bb, 0, none⟩), undef, .agg #[.slice A1 n c, .slice A2 n d], .bool true, .bool false, .bool false, .agg #[.slice B1 n e, .slice B2 n f], .bool true, .bool false, .bool false, .bool false, .pointer (some ⟨w.heap.size, 0, none⟩), .slice A1 n c, .int .i64 n, .pointer (some ⟨w.heap.size + 1, 0, none⟩), .slice B1 n e, .int .i64 n, .bool false, .bool false, undef, .pointer (some ⟨w.heap.size, 0, none⟩), .slice A1 n c, .int .i64 n, .slice (some ⟨rl, 0, none⟩) n n, .pointer (some ⟨w.heap.size, 0, none⟩), .slice A1 n c, .int .i64 n, .slice (some ⟨rh, 0, none⟩) n n, .agg #[.slice (some ⟨rl, 0, none⟩) n n, .slice (some ⟨rh, 0, none⟩) n n], undef, undef, undef, undef, undef, undef, undef, undef, undef, undef, undef, undef, undef, undef, undef, undef, undef, undef, undef, undef, undef, undef, undef, undef, undef, undef, undef, undef, undef, undef, undef, undef, undef, undef, undef, undef, undef, undef, undef, undef, undef, undef, undef, undef, undef, undef, undef, undef, undef, undef, undef], []⟩ W2 := by
    intro rl rh bb W2 r1 r2 r3 hb2 hne
    refine hK _ _ ?_
    clear hK hmk
    have HNE := Lib.hid hne
    have HR3 : Hid (∀ W : World, W.heap[bb]? = W2.heap[bb]? → W.heap[bb]? = some (.cells #[.slice (some ⟨rl, 0, none⟩) n n, .slice (some ⟨rh, 0, none⟩) n n] 41 (0, 0))) := fun W h => h.trans r3
    have HW2 : Hid (Below w.heap.size w W2) := st HBw2.out hb2
    have HW02 : Hid (Below (w.heap.size + 3) W0 W2) := HB2.out.trans (hb2.mono hz2)
    clear r3 hb2 hne
    obtain ⟨⟨m0, m1⟩, ⟨m2, m3⟩, -⟩ := HT.out W2 HW02.out
    go_wp2
    clear m0 m1 m2 m3
    go_loopw [7, 38] (fun _ i wr => ∃ (k : Nat) (f g : Nat → Int), k ≤ n ∧ i = .int .i64 k ∧ wr.rowIs rl 3 n (fun j => .int .i64 (f j)) ∧ wr.rowIs rh 3 n (fun j => .int .i64 (g j)) ∧ Hid (∀ j, j < k → f j = intLo al bl j ∧ g j = intHi ah bh j) ∧ Hid (intTo al ah bl bh k = true) ∧ Hid (wr.heap[bb]? = W2.heap[bb]?) ∧ Hid (Below w.heap.size w wr) ∧ Hid (Below (w.heap.size + 3) W0 wr)) (fun _ i _ => n - (intOf i).toNat)
    case atStart => exact ⟨0, fun _ => 0, fun _ => 0, Nat.zero_le _, rfl, r1, r2, (fun j hj => absurd hj (by omega)), rfl, rfl, HW2.out, HW02.out⟩
    case round =>
      obtain ⟨k, ff, gg, hk, rfl, hf1, hg1, HV, HTo, HQ, HBw, HB0w⟩ := hrel
      have hrb := HR3.out wr HQ.out
      have b0 : wr.cell? ⟨bb, 0, none⟩ = some (.slice (some ⟨rl, 0, none⟩) n n) := by rw [cell_of_row _ _ _ _ _ _ hrb]; rfl
      have b1 : wr.cell? ⟨bb, 1, none⟩ = some (.slice (some ⟨rh, 0, none⟩) n n) := by rw [cell_of_row _ _ _ _ _ _ hrb]; rfl
      by_cases hlt : k < n
      · have HCC : Hid (∀ W, Below w.heap.size w W → ∃ a1 o1 a2 o2 a3 o3 a4 o4, (A1 = some ⟨a1, o1, none⟩ ∧ A2 = some ⟨a2, o2, none⟩ ∧ B1 = some ⟨a3, o3, none⟩ ∧ B2 = some ⟨a4, o4, none⟩) ∧ (a1 < w.heap.size ∧ a2 < w.heap.size ∧ a3 < w.heap.size ∧ a4 < w.heap.size) ∧ W.cell? ⟨a1, o1 + k, none⟩ = some (.int .i64 (al k)) ∧ W.cell? ⟨a2, o2 + k, none⟩ = some (.int .i64 (ah k)) ∧ W.cell? ⟨a3, o3 + k, none⟩ = some (.int .i64 (bl k)) ∧ W.cell? ⟨a4, o4 + k, none⟩ = some (.int .i64 (bh k))) := fun W hW => by
          obtain ⟨a1, o1, e1, u1, c1⟩ := HA1.out (by omega)
          obtain ⟨a2, o2, e2, u2, c2⟩ := HA2.out (by omega)
          obtain ⟨a3, o3, e3, u3, c3⟩ := HBB1.out (by omega)
          obtain ⟨a4, o4, e4, u4, c4⟩ := HBB2.out (by omega)
          exact ⟨a1, o1, a2, o2, a3, o3, a4, o4, ⟨e1, e2, e3, e4⟩, ⟨u1, u2, u3, u4⟩, (hW.cell (p := ⟨a1, o1 + k, none⟩) u1).trans (c1 k hlt), (hW.cell (p := ⟨a2, o2 + k, none⟩) u2).trans (c2 k hlt), (hW.cell (p := ⟨a3, o3 + k, none⟩) u3).trans (c3 k hlt), (hW.cell (p := ⟨a4, o4 + k, none⟩) u4).trans (c4 k hlt)⟩
        obtain ⟨a1, o1, a2, o2, a3, o3, a4, o4, ⟨rfl, rfl, rfl, rfl⟩, hus, c1, c2, c3, c4⟩ := HCC.out wr HBw.out
        obtain ⟨⟨m0, m1⟩, ⟨m2, m3⟩, -⟩ := HT.out wr HB0w.out
        have hS := hf1.cell (i := k) (by omega)
        have hZ := hf1.frozen k
        have HE1 : Hid (intLo al bl k = max (al k) (bl k)) := rfl
        have HE2 : Hid (intHi ah bh k = min (min (ah k) (bh k)) 1073741825) := rfl
        have HTn : Hid (intTo al ah bl bh (k + 1) = belB (intLo al bl k) (intHi ah bh k)) := by show _ = _; rw [intTo, HTo.out, Bool.true_and]
        go_wp2_with fail
        go_still_tail 15, (by kernel_rfl)
        change wpList _ _ _ _ _ wr.drew
        have hf2 : wr.drew.rowIs rl 3 n (fun j => .int .i64 (ff j)) := hf1
        have hg2 : wr.drew.rowIs rh 3 n (fun j => .int .i64 (gg j)) := hg1
        have hrb2 : wr.drew.heap[bb]? = some (.cells #[.slice (some ⟨rl, 0, none⟩) n n, .slice (some ⟨rh, 0, none⟩) n n] 41 (0, 0)) := hrb
        have HBd : Hid (Below w.heap.size w wr.drew) := Below.drew HBw.out
        have HB0d : Hid (Below (w.heap.size + 3) W0 wr.drew) := Below.drew HB0w.out
        have hS2 := hf2.cell (i := k) (by omega)
        have hZ2 := hf2.frozen k
        clear hf1 hg1 hrb hS hZ b0 b1 m0 m1 m2 m3 c1 c2 c3 c4
        generalize hw3 : wr.drew = w3 at *
        clear hw3
        go_wp2_with fail
        have hne := HNE.out
        have hf4 := set_int hf2 k (intLo al bl k) (.int .i64 (max (al k) (bl k))) rfl
        have hg4 := hg2.setOther (a := ⟨rl, k, none⟩) (by show rh ≠ rl; omega) (.int .i64 (max (al k) (bl k)))
        have hrb4 : (w3.setCell ⟨rl, k, none⟩ (.int .i64 (max (al k) (bl k)))).heap[bb]? = some (.cells #[.slice (some ⟨rl, 0, none⟩) n n, .slice (some ⟨rh, 0, none⟩) n n] 41 (0, 0)) := (blk_setCell_other _ _ _ _ (by show bb ≠ rl; omega)).trans hrb2
        have HB4 : Hid (Below w.heap.size w (w3.setCell ⟨rl, k, none⟩ (.int .i64 (max (al k) (bl k))))) := HBd.out.setCell (by show w.heap.size ≤ rl; omega) _
        have HB04 : Hid (Below (w.heap.size + 3) W0 (w3.setCell ⟨rl, k, none⟩ (.int .i64 (max (al k) (bl k))))) := HB0d.out.setCell (by show w.heap.size + 3 ≤ rl; omega) _
        clear hf2 hg2 hrb2 HBd HB0d hS2 hZ2
        generalize w3.setCell ⟨rl, k, none⟩ (.int .i64 (max (al k) (bl k))) = w4 at *
        have b0 : w4.cell? ⟨bb, 0, none⟩ = some (.slice (some ⟨rl, 0, none⟩) n n) := by rw [cell_of_row _ _ _ _ _ _ hrb4]; rfl
        have b1 : w4.cell? ⟨bb, 1, none⟩ = some (.slice (some ⟨rh, 0, none⟩) n n) := by rw [cell_of_row _ _ _ _ _ _ hrb4]; rfl
        have HCw : Hid (∀ W, Below w.heap.size w W → W.cell? ⟨a2, o2 + k, none⟩ = some (.int .i64 (ah k)) ∧ W.cell? ⟨a4, o4 + k, none⟩ = some (.int .i64 (bh k))) := fun W hW => by
          obtain ⟨a1', o1', a2', o2', a3', o3', a4', o4', ⟨e1, e2, e3, e4⟩, -, -, d2, -, d4⟩ := HCC.out W hW
          injection e2 with e2
          injection e2 with e2 e2'
          injection e4 with e4
          injection e4 with e4 e4'
          subst e2 e2' e4 e4'
          exact ⟨d2, d4⟩
        obtain ⟨c2, c4⟩ := HCw.out w4 HB4.out
        obtain ⟨⟨m0, m1⟩, ⟨m2, m3⟩, -⟩ := HT.out w4 HB04.out
        have hS := hg4.cell (i := k) (by omega)
        have hZ := hg4.frozen k
        go_wp2_with fail
        go_still_tail 15, (by kernel_rfl)
        change wpList _ _ _ _ _ w4.drew
        have hf5 : w4.drew.rowIs rl 3 n (fun j => .int .i64 (updZ ff k (intLo al bl k) j)) := hf4
        have hg5 : w4.drew.rowIs rh 3 n (fun j => .int .i64 (gg j)) := hg4
        have hrb5 : w4.drew.heap[bb]? = some (.cells #[.slice (some ⟨rl, 0, none⟩) n n, .slice (some ⟨rh, 0, none⟩) n n] 41 (0, 0)) := hrb4
        have HB5 : Hid (Below w.heap.size w w4.drew) := Below.drew HB4.out
        have HB05 : Hid (Below (w.heap.size + 3) W0 w4.drew) := Below.drew HB04.out
        have hS2 := hg5.cell (i := k) (by omega)
        have hZ2 := hg5.frozen k
        clear hf4 hg4 hrb4 hS hZ b0 b1 m0 m1 m2 m3 c2 c4 HB4 HB04
        generalize hw5 : w4.drew = w5 at *
        clear hw5
        go_wp2_with fail
        all_goals
          first
          | rw [show ah k = intHi ah bh k by rw [HE2.out]; omega]
          | rw [show bh k = intHi ah bh k by rw [HE2.out]; omega]
          | rw [show (1073741825 : Int) = intHi ah bh k by rw [HE2.out]; omega]
          have hf6 := hf5.setOther (a := ⟨rh, k, none⟩) (by show rl ≠ rh; omega) (.int .i64 (intHi ah bh k))
          have hg6 := set_int hg5 k (intHi ah bh k) (.int .i64 (intHi ah bh k)) rfl
          have hrb6 : (w5.setCell ⟨rh, k, none⟩ (.int .i64 (intHi ah bh k))).heap[bb]? = some (.cells #[.slice (some ⟨rl, 0, none⟩) n n, .slice (some ⟨rh, 0, none⟩) n n] 41 (0, 0)) := (blk_setCell_other _ _ _ _ (by show bb ≠ rh; omega)).trans hrb5
          have HB6 : Hid (Below w.heap.size w (w5.setCell ⟨rh, k, none⟩ (.int .i64 (intHi ah bh k)))) := HB5.out.setCell (by show w.heap.size ≤ rh; omega) _
          have HB06 : Hid (Below (w.heap.size + 3) W0 (w5.setCell ⟨rh, k, none⟩ (.int .i64 (intHi ah bh k)))) := HB05.out.setCell (by show w.heap.size + 3 ≤ rh; omega) _
          have HQ6 : Hid ((w5.setCell ⟨rh, k, none⟩ (.int .i64 (intHi ah bh k))).heap[bb]? = W2.heap[bb]?) := hrb6.trans (HR3.out W2 rfl).symm
          clear hf5 hg5 hrb5 HB5 HB05 hS2 hZ2
          generalize w5.setCell ⟨rh, k, none⟩ (.int .i64 (intHi ah bh k)) = w6 at *
          have HBk := Lib.hid (HBe.out (intLo al bl k) (intHi ah bh k))
          have b0 : w6.cell? ⟨bb, 0, none⟩ = some (.slice (some ⟨rl, 0, none⟩) n n) := by rw [cell_of_row _ _ _ _ _ _ hrb6]; rfl
          have b1 : w6.cell? ⟨bb, 1, none⟩ = some (.slice (some ⟨rh, 0, none⟩) n n) := by rw [cell_of_row _ _ _ _ _ _ hrb6]; rfl
          have x0 : w6.cell? ⟨rl, k, none⟩ = some (.int .i64 (intLo al bl k)) := by rw [hf6.cell (i := k) (by omega)]; simp [updZ]
          have y0 : w6.cell? ⟨rh, k, none⟩ = some (.int .i64 (intHi ah bh k)) := by rw [hg6.cell (i := k) (by omega)]; simp [updZ]
          have HCC6 : Hid (∀ W, W = w6 ∨ W = w6.drew → W.cell? ⟨bb, 0, none⟩ = some (.slice (some ⟨rl, 0, none⟩) n n) ∧ W.cell? ⟨bb, 1, none⟩ = some (.slice (some ⟨rh, 0, none⟩) n n) ∧ W.cell? ⟨rl, k, none⟩ = some (.int .i64 (intLo al bl k)) ∧ W.cell? ⟨rh, k, none⟩ = some (.int .i64 (intHi ah bh k))) := fun W hW => by
            rcases hW with rfl | rfl
            · exact ⟨b0, b1, x0, y0⟩
            · exact ⟨b0, b1, x0, y0⟩
          have HFk : Hid (∀ j, j < k + 1 → updZ ff k (intLo al bl k) j = intLo al bl j ∧ updZ gg k (intHi ah bh k) j = intHi ah bh j) := fun j hj => by
            by_cases e : j = k
            · subst e; exact ⟨by rw [updZ, if_pos rfl], by rw [updZ, if_pos rfl]⟩
            · rw [updZ, if_neg e, updZ, if_neg e]; exact HV.out j (by omega)
          have HF6 := Lib.hid hf6
          have HG6 := Lib.hid hg6
          clear hf6 hg6 hrb6 HCC HCw
          generalize intLo al bl k = X at *
          generalize intHi ah bh k = Y at *
          cases hbz : belB X Y
          · rw [hbz] at HBk HTn
            have HR : Hid (intTo al ah bl bh n = false) := intTo_le (k := k + 1) HTn.out (by omega)
            clear hbz
            go_region_held3 (fun W => W.cell? ⟨bb, 0, none⟩ = some (.slice (some ⟨rl, 0, none⟩) n n) ∧ W.cell? ⟨bb, 1, none⟩ = some (.slice (some ⟨rh, 0, none⟩) n n) ∧ W.cell? ⟨rl, k, none⟩ = some (.int .i64 X) ∧ W.cell? ⟨rh, k, none⟩ = some (.int .i64 Y))
              (first | exact HCC6.out _ (Or.inl rfl) | exact HCC6.out _ (Or.inr rfl))
              (first
                | (go_at_call 59; refine (HBk.out _).mono ?_; rintro e7 w7 ⟨rfl, rfl⟩))
            all_goals
              have hres := (HT.out w6 HB06.out).2.2
              obtain ⟨r0, r9, z0, z1⟩ := box_at hres
              go_wp2
              refine bodyPost_ret (v := .tuple #[BoxW none none 0 0 0 0, .bool false]) (res_cell_tmp Tryz.results23 _ _ (w.heap.size + 2) 41 _ (0, 0) _ rfl (put2 hres _ _) Tryz.underlying41 rfl (by rw [info_box]; rfl)) rfl ?_
              have hve : ve = false := HVE.out.symm.trans HR.out
              subst hve
              exact ⟨none, none, 0, rfl, rfl, fun h9 => absurd h9 (by omega), fun h9 => absurd h9 (by omega), (Below.drew HB6.out |>.setCell (p := ⟨w.heap.size + 2, 0, none⟩) (by show w.heap.size ≤ w.heap.size + 2; omega) _).setCell (p := ⟨w.heap.size + 2, 1, none⟩) (by show w.heap.size ≤ w.heap.size + 2; omega) _⟩
          · rw [hbz] at HBk HTn
            clear hbz
            go_region_held3 (fun W => W.cell? ⟨bb, 0, none⟩ = some (.slice (some ⟨rl, 0, none⟩) n n) ∧ W.cell? ⟨bb, 1, none⟩ = some (.slice (some ⟨rh, 0, none⟩) n n) ∧ W.cell? ⟨rl, k, none⟩ = some (.int .i64 X) ∧ W.cell? ⟨rh, k, none⟩ = some (.int .i64 Y))
              (first | exact HCC6.out _ (Or.inl rfl) | exact HCC6.out _ (Or.inr rfl))
              (first
                | (go_at_call 59; refine (HBk.out _).mono ?_; rintro e7 w7 ⟨rfl, rfl⟩))
            all_goals
              go_wp2
              go_roundw
              case rel => exact ⟨k + 1, _, _, by omega, by go_num, HF6.out, HG6.out, HFk.out, HTn.out, HQ6.out, Below.drew HB6.out, Below.drew HB06.out⟩
              case measure => simp [intOf]; omega
      · obtain rfl : k = n := by omega
        have HRl : Hid (wr.rowIs rl 3 k (fun j => .int .i64 (intLo al bl j))) := hf1.congr fun j hj => by rw [(HV.out j hj).1]
        have HRh : Hid (wr.rowIs rh 3 k (fun j => .int .i64 (intHi ah bh j))) := hg1.congr fun j hj => by rw [(HV.out j hj).2]
        obtain ⟨-, -, hres⟩ := HT.out wr HB0w.out
        obtain ⟨r0, r9, z0, z1⟩ := box_at hres
        have hne := HNE.out
        go_wp2
        refine bodyPost_ret (v := .tuple #[BoxW (some ⟨rl, 0, none⟩) (some ⟨rh, 0, none⟩) k k k k, .bool true]) (res_cell_tmp Tryz.results23 _ _ (w.heap.size + 2) 41 _ (0, 0) _ rfl (put2 hres _ _) Tryz.underlying41 rfl (by rw [info_box]; rfl)) rfl ?_
        have hve : ve = true := HVE.out.symm.trans HTo.out
        subst hve
        exact ⟨_, _, k, rfl, rfl, ints_row ((HRl.out.setOther (by show rl ≠ w.heap.size + 2; omega) _).setOther (by show rl ≠ w.heap.size + 2; omega) _), ints_row ((HRh.out.setOther (by show rh ≠ w.heap.size + 2; omega) _).setOther (by show rh ≠ w.heap.size + 2; omega) _), (HBw.out.setCell (p := ⟨w.heap.size + 2, 0, none⟩) (by show w.heap.size ≤ w.heap.size + 2; omega) _).setCell (p := ⟨w.heap.size + 2, 1, none⟩) (by show w.heap.size ≤ w.heap.size + 2; omega) _⟩
  have KEY := Lib.hid key
  clear key
  have KS : Hid (∀ W, Below w2.heap.size w2 W → W.cell? ⟨w.heap.size, 0, none⟩ = some (.slice A1 n c)) := fun W hW => (HT.out W (HB2.out.trans (hW.mono hz2))).1.1
  go_region_held3 (fun W => W.cell? ⟨w.heap.size, 0, none⟩ = some (.slice A1 n c))
    (first
      | exact KS.out _ (Below.refl _ _)
      | exact KS.out _ (Below.drew (Below.refl _ _))
      | exact KS.out _ ((Below.refl _ _).alloc (Nat.le_refl _) _)
      | exact KS.out _ (((Below.refl _ _).alloc (Nat.le_refl _) _).alloc (by simp) _)
      | exact KS.out _ ((((Below.refl _ _).alloc (Nat.le_refl _) _).alloc (by simp) _).alloc (by simp; omega) _)
      | exact KS.out _ (Below.drew ((Below.refl _ _).alloc (Nat.le_refl _) _))
      | exact KS.out _ (Below.drew (((Below.refl _ _).alloc (Nat.le_refl _) _).alloc (by simp) _))
      | exact KS.out _ (Below.drew ((((Below.refl _ _).alloc (Nat.le_refl _) _).alloc (by simp) _).alloc (by simp; omega) _)))
    (first | fail)
  all_goals
    obtain ⟨q0, q1, q2, q3⟩ := al3 w2 _ _ _
    first
    | exact KEY.out _ _ _ _ (row_made q0) (row_made q1) q2 q3 (by omega)
    | exact KEY.out _ _ _ _ (row_made q1) (row_made q0) q2 q3 (by omega)
    | exact KEY.out _ _ _ _ (row_made q0) (row_made q2) q1 q3 (by omega)
    | exact KEY.out _ _ _ _ (row_made q2) (row_made q0) q1 q3 (by omega)
    | exact KEY.out _ _ _ _ (row_made q1) (row_made q2) q0 q3 (by omega)
    | exact KEY.out _ _ _ _ (row_made q2) (row_made q1) q0 q3 (by omega)
end Go.Proofs.YtmhggphkhabjlaaGreatDoor
end

/- A list of integers that grows by append: where it lies. -/
section
namespace Go.Proofs.YtmhggphkhabjlaaGreatDoor
open Go Go.RowKit Go.Deep

/-- The slice v is the walk's own, from block B on, and holds n numbers. -/
def OwnI (w : World) (B : Nat) (v : Value) (n : Nat) (f : Nat → Int) : Prop := ∃ xs, w.ownsRow B 3 1 v n xs ∧ ∀ k, k < n → xs[k]? = some (.int .i64 (f k))
theorem OwnI.ints {w : World} {B n : Nat} {v : Value} {f : Nat → Int} (h : OwnI w B v n f) : ∃ P c, v = .slice P n c ∧ IntsAt w P n f := by
  obtain ⟨xs, ⟨hl, h1⟩, h2⟩ := h
  rcases h1 with ⟨rfl, rfl⟩ | ⟨g, cap, cur, rfl, _, hh, hcap, _, hs, ht⟩
  · exact ⟨none, 0, rfl, fun h => absurd h (by omega)⟩
  · refine ⟨_, _, rfl, fun hn => ⟨g, 0, rfl, (Array.getElem?_eq_some_iff.1 hh).1, fun k hk => ?_⟩⟩
    rw [Nat.mul_one] at ht
    have h3 : cur.toList[k]? = some (.int .i64 (f k)) := by
      rw [← List.getElem?_take_of_lt hk, ht]
      exact h2 k hk
    rw [Array.getElem?_toList] at h3
    rw [Nat.zero_add]
    simp [World.cell?, hh, h3]
theorem OwnI.nil (w : World) (B : Nat) (f : Nat → Int) : OwnI w B (.slice none 0 0) 0 f := ⟨[], ⟨rfl, .inl ⟨rfl, rfl⟩⟩, fun k hk => absurd hk (by omega)⟩
theorem OwnI.kept {w w' : World} {B n : Nat} {v : Value} {f : Nat → Int} {row : Option Nat} (h : OwnI w B v n f) (hg : w.grownBy w' row) (hne : v.ownBlock = none ∨ v.ownBlock ≠ row) : OwnI w' B v n f := by
  obtain ⟨xs, h1, h2⟩ := h
  exact ⟨xs, h1.kept hg hne, h2⟩
theorem OwnI.block {w : World} {B n : Nat} {v : Value} {f : Nat → Int} (h : OwnI w B v n f) {g : Nat} (hg : v.ownBlock = some g) : B ≤ g ∧ g < w.heap.size := by
  obtain ⟨xs, h1, _⟩ := h
  obtain ⟨a, cs, b⟩ := own_lt h1 g hg
  exact ⟨a, (Array.getElem?_eq_some_iff.1 b).1⟩
/-- One number more, behind a literal of one number: the list lies where it lay, or in a new block. -/
theorem wpList_appI {ops : Array Oper} {rest : List Oper} {o : Oper} {a : Act} {Q : Exit → Act → World → Prop} (hgd : o.guard = none) (s x : Operand)
    (ho : o.op = .call { callee := .builtin .append, args := #[s, x], argTypes := #[32, 32] })
    (W : World) (d : Int) (B : Nat) (v : Value) (n : Nat) (f : Nat → Int) (hs : a.eval s = v) (b : Nat) (hx : a.eval x = .slice (some ⟨b, 0, none⟩) 1 1) (hbW : b = W.heap.size)
    (hown : OwnI W B v n f) (hn : n ≤ 1000000) (hB : B ≤ W.heap.size)
    (h : ∀ v' w', OwnI w' B v' (n + 1) (updZ f n d) → W.grownBy w' v.ownBlock → (v'.ownBlock = v.ownBlock ∨ ∃ g, v'.ownBlock = some g ∧ W.heap.size ≤ g) → wpList Tryz.prog ops Q rest (a.put o.dst v') w') : wpList Tryz.prog ops Q (o :: rest) a (W.alloc (.cells #[.int .i64 d] 3)) := by
  subst hbW
  obtain ⟨xs, h1, h2⟩ := hown
  have h1' : (W.alloc (.cells #[.int .i64 d] 3)).ownsRow B 3 1 v n xs := h1.alloc _
  obtain ⟨i0, hi0, hz0, hz1, hz2⟩ := info_parts info_int
  have hnew : ∀ j u, [Value.int .i64 d][j]? = some u → (W.alloc (.cells #[.int .i64 d] 3)).cell? ((⟨W.heap.size, 0, none⟩ : Addr).add j) = some u := by
    intro j u hu
    have hj : j = 0 := by
      rcases j with _ | j
      · rfl
      · simp at hu
    subst hj
    have hu' : u = .int .i64 d := by simpa using hu.symm
    subst hu'
    exact (World.rowIs_alloc W #[.int .i64 d] 3 (fun _ => .int .i64 d) (fun i hi => by
      have h9 : i = 0 := by simpa using hi
      subst h9
      rfl)).cell (i := 0) (by simp)
  refine wpList_append_own_at _ hgd s x 32 ho B 3 i0 (.int .i64 0) 1 8 Tryz.underlying32 hi0 hz0 hz1 hz2 rfl Nat.zero_lt_one v n xs hs h1' ⟨W.heap.size, 0, none⟩ 1 1 [.int .i64 d] hx rfl hnew
    (fun u hu => by have h9 : u = .int .i64 d := by simpa using hu
                    subst h9; rfl) (by unfold maxLen; omega) (by omega) (by simp; omega) ?_
  intro v' w' g1 g2 _ g4
  refine h v' w' ⟨xs ++ [.int .i64 d], g1, fun k hk => ?_⟩ ((World.grownBy_alloc W _ _).trans g2) (g4.imp id fun h9 => ⟨_, h9, by simp⟩)
  have hl : xs.length = n := by rw [h1.1, Nat.mul_one]
  unfold updZ
  by_cases e : k = n
  · subst e
    rw [if_pos rfl, List.getElem?_append_right (by omega), hl, Nat.sub_self]
    rfl
  · rw [if_neg e, List.getElem?_append_left (by omega)]
    exact h2 k (by omega)
end Go.Proofs.YtmhggphkhabjlaaGreatDoor
end

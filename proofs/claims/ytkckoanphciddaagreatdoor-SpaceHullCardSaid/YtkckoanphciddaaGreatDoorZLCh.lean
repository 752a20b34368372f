/- The common part of boxes, where there may be one. -/
import Derived.Test.YtkckoanphciddaaGreatDoorZHuL
import Derived.Test.YtkckoanphciddaaGreatDoorZSpI
import Derived.Test.YtkckoanphciddaaGreatDoorShelf
import Derived.Test.YtkckoanphciddaaGreatDoorZSpJ
import Derived.Test.YtkckoanphciddaaGreatDoorZCmpS

/- The common part of boxes, where there may be one. -/
section
namespace Go.Proofs.YtkckoanphciddaaGreatDoor
open Go Go.RowKit Go.Deep

def cntB (b : Bool) (n : Nat) : Nat := bif b then n else 0
set_option maxRecDepth 100000 in
set_option maxHeartbeats 4000000 in
theorem s_Inter_ok (w : World) (A1 A2 B1 B2 : Option Addr) (n c d e f : Nat) (al ah bl bh : Nat → Int) (ha1 : IntsAt w A1 n al) (ha2 : IntsAt w A2 n ah) (hb1 : IntsAt w B1 n bl) (hb2 : IntsAt w B2 n bh) (h1n : 1 ≤ n) (hn4 : n ≤ 4) :
    Calls Tryz.prog 44 #[BoxW A1 A2 n c n d, BoxW B1 B2 n e n f] w fun e' w' => ∃ P Q k, e' = .returned (.tuple #[BoxW P Q k k k k, .bool (intTo al ah bl bh n)]) ∧ k = cntB (intTo al ah bl bh n) n ∧ IntsAt w' P k (intLo al bl) ∧ IntsAt w' Q k (intHi ah bh) ∧ Below w.heap.size w w' := by
  obtain ⟨ve, hve⟩ : ∃ ve, intTo al ah bl bh n = ve := ⟨_, rfl⟩
  have HVE := Lib.hid hve
  rw [hve]
  clear hve
  have HT := Lib.hid (three w (.slice A1 n c) (.slice B1 n e) (.slice none 0 0) (.slice A2 n d) (.slice B2 n f) (.slice none 0 0))
  have hz0 : (((w.alloc (.cells #[.slice A1 n c, .slice A2 n d] 66)).alloc (.cells #[.slice B1 n e, .slice B2 n f] 66)).alloc (.cells #[.slice none 0 0, .slice none 0 0] 66)).heap.size = w.heap.size + 3 := by simp
  have HB : Hid (Below w.heap.size w (((w.alloc (.cells #[.slice A1 n c, .slice A2 n d] 66)).alloc (.cells #[.slice B1 n e, .slice B2 n f] 66)).alloc (.cells #[.slice none 0 0, .slice none 0 0] 66))) := (((Below.refl _ _).alloc (Nat.le_refl _) _).alloc (by simp) _).alloc (by simp; omega) _
  have HF1 := Lib.hid (fun W => s_formed W A1 A2 n c n d)
  have HF2 := Lib.hid (fun W => s_formed W B1 B2 n e n f)
  have hff : formB n n = true := by simp [formB, h1n, hn4]
  rw [hff] at HF1 HF2
  have HA1 := Lib.hid ha1
  have HA2 := Lib.hid ha2
  have HBB1 := Lib.hid hb1
  have HBB2 := Lib.hid hb2
  have HBe := Lib.hid s_below
  clear ha1 ha2 hb1 hb2 hff
  have hmk := fun W => run_make_row' (P := Tryz.prog) 35 3 (.int .i64 0) 8 Tryz.underlying35 info_int rfl .i64 .i64 n (by omega) (by omega) W
  go_enter Tryz.func44, Tryz.ntmps44
  obtain ⟨⟨m0, m1⟩, ⟨m2, m3⟩, -⟩ := HT.out (((w.alloc (.cells #[.slice A1 n c, .slice A2 n d] 66)).alloc (.cells #[.slice B1 n e, .slice B2 n f] 66)).alloc (.cells #[.slice none 0 0, .slice none 0 0] 66)) (Below.refl _ _)
  go_wp2_with fail
  clear m0 m1 m2 m3
  generalize ((w.alloc (.cells #[.slice A1 n c, .slice A2 n d] 66)).alloc (.cells #[.slice B1 n e, .slice B2 n f] 66)).alloc (.cells #[.slice none 0 0, .slice none 0 0] 66) = W0 at *
  refine (HF1.out _).mono ?_
  rintro e1 w1 ⟨rfl, hb1⟩
  rw [hz0] at hb1
  have HB1 : Hid (Below (w.heap.size + 3) W0 w1) := hb1
  have HBw1 : Hid (Below w.heap.size w w1) := Below.trans HB.out (hb1.mono (by omega))
  clear hb1
  obtain ⟨⟨m0, m1⟩, ⟨m2, m3⟩, -⟩ := HT.out w1 HB1.out
  go_wp2_with fail
  refine (HF2.out _).mono ?_
  rintro e2 w2 ⟨rfl, hb2⟩
  have HB2 : Hid (Below (w.heap.size + 3) W0 w2) := HB1.out.trans (hb2.mono (by rw [← hz0]; exact HB1.out.size))
  have HBw2 : Hid (Below w.heap.size w w2) := st HBw1.out hb2
  have hz2 : w.heap.size + 3 ≤ w2.heap.size := by rw [← hz0]; exact HB2.out.size
  clear hb2 m0 m1 m2 m3 HF1 HF2 HB1 HBw1
  obtain ⟨⟨m0, m1⟩, ⟨m2, m3⟩, -⟩ := HT.out w2 HB2.out
  go_wp2_with fail
  clear m0 m1 m2 m3
  rename_i K hK
  have key : ∀ (rl rh bb : Nat) (W2 : World), W2.rowIs rl 3 n (fun _ => .int .i64 0) → W2.rowIs rh 3 n (fun _ => .int .i64 0) → W2.heap[bb]? = some (.cells #[.slice (some ⟨rl, 0, none⟩) n n, .slice (some ⟨rh, 0, none⟩) n n] 66 (0, 0)) → Below w2.heap.size w2 W2 → (w2.heap.size ≤ rl ∧ w2.heap.size ≤ rh ∧ w2.heap.size ≤ bb ∧ rl ≠ rh ∧ rl ≠ bb ∧ rh ≠ bb) → K ⟨#[BoxW A1 A2 n c n d, BoxW B1 B2 n e n f, .pointer (some ⟨w.heap.size, 0, none⟩), .pointer (some ⟨w.heap.size + 1, 0, none⟩), .pointer (some ⟨w.heap.size + 1 + 1, 0, none⟩), .bool false, .pointer (some ⟨bb, 0, none⟩), undef, .agg #[.slice A1 n c, .slice A2 n d], .bool true, .bool false, .bool false, .agg #[.slice B1 n e, .slice B2 n f], .bool true, .bool false, .bool false, .bool false, .pointer (some ⟨w.heap.size, 0, none⟩), .slice A1 n c, .int .i64 n, .pointer (some ⟨w.heap.size + 1, 0, none⟩), .slice B1 n e, .int .i64 n, .bool false, .bool false, undef, .pointer (some ⟨w.heap.size, 0, none⟩), .slice A1 n c, .int .i64 n, .slice (some ⟨rl, 0, none⟩) n n, .pointer (some ⟨w.heap.size, 0, none⟩), .slice A1 n c, .int .i64 n, .slice (some ⟨rh, 0, none⟩) n n, .agg #[.slice (some ⟨rl, 0, none⟩) n n, .slice (some ⟨rh, 0, none⟩) n n], undef, undef, undef, undef, undef, undef, undef, undef, undef, undef, undef, undef, undef, undef, undef, undef, undef, undef, undef, undef, undef, undef, undef, undef, undef, undef, undef, undef, undef, undef, undef, undef, undef, undef, undef, undef, undef, undef, undef, undef, undef, undef, undef, undef, undef, undef, undef, undef, undef, undef, undef], []⟩ W2 := by
    intro rl rh bb W2 r1 r2 r3 hb2 hne
    refine hK _ _ ?_
    clear hK hmk
    have HNE := Lib.hid hne
    have HR3 : Hid (∀ W : World, W.heap[bb]? = W2.heap[bb]? → W.heap[bb]? = some (.cells #[.slice (some ⟨rl, 0, none⟩) n n, .slice (some ⟨rh, 0, none⟩) n n] 66 (0, 0))) := fun W h => h.trans r3
    have HW2 : Hid (Below w.heap.size w W2) := st HBw2.out hb2
    have HW02 : Hid (Below (w.heap.size + 3) W0 W2) := HB2.out.trans (hb2.mono hz2)
    clear r3 hb2 hne
    obtain ⟨⟨m0, m1⟩, ⟨m2, m3⟩, -⟩ := HT.out W2 HW02.out
    go_wp2
    clear m0 m1 m2 m3
    go_loopw [7, 38] (fun _ i wr => ∃ (k : Nat) (f g : Nat → Int), k ≤ n ∧ i = .int .i64 k ∧ wr.rowIs rl 3 n (fun j => .int .i64 (f j)) ∧ wr.rowIs rh 3 n (fun j => .int .i64 (g j)) ∧ Hid (∀ j, j < k → f j = intLo al bl j ∧ g j = intHi ah bh j) ∧ Hid (intTo al ah bl bh k = true) ∧ Hid (wr.heap[bb]? = W2.heap[bb]?) ∧ Hid (Below w.heap.size w wr) ∧ Hid (Below (w.heap.size + 3) W0 wr)) (fun _ i _ => n - (intOf i).toNat)
    case atStart => exact ⟨0, fun _ => 0, fun _ => 0, Nat.zero_le _, rfl, r1, r2, (fun j hj => absurd hj (by omega)), rfl, rfl, HW2.out, HW02.out⟩
    case round =>
      obtain ⟨k, ff, gg, hk, rfl, hf1, hg1, HV, HTo, HQ, HBw, HB0w⟩ := hrel
      have hrb := HR3.out wr HQ.out
      have b0 : wr.cell? ⟨bb, 0, none⟩ = some (.slice (some ⟨rl, 0, none⟩) n n) := by rw [cell_of_row _ _ _ _ _ _ hrb]; rfl
      have b1 : wr.cell? ⟨bb, 1, none⟩ = some (.slice (some ⟨rh, 0, none⟩) n n) := by rw [cell_of_row _ _ _ _ _ _ hrb]; rfl
      by_cases hlt : k < n
      · have HCC : Hid (∀ W, Below w.heap.size w W → ∃ a1 o1 a2 o2 a3 o3 a4 o4, (A1 = some ⟨a1, o1, none⟩ ∧ A2 = some ⟨a2, o2, none⟩ ∧ B1 = some ⟨a3, o3, none⟩ ∧ B2 = some ⟨a4, o4, none⟩) ∧ (a1 < w.heap.size ∧ a2 < w.heap.size ∧ a3 < w.heap.size ∧ a4 < w.heap.size) ∧ W.cell? ⟨a1, o1 + k, none⟩ = some (.int .i64 (al k)) ∧ W.cell? ⟨a2, o2 + k, none⟩ = some (.int .i64 (ah k)) ∧ W.cell? ⟨a3, o3 + k, none⟩ = some (.int .i64 (bl k)) ∧ W.cell? ⟨a4, o4 + k, none⟩ = some (.int .i64 (bh k))) := fun W hW => by
          obtain ⟨a1, o1, e1, u1, c1⟩ := HA1.out (by omega)
          obtain ⟨a2, o2, e2, u2, c2⟩ := HA2.out (by omega)
          obtain ⟨a3, o3, e3, u3, c3⟩ := HBB1.out (by omega)
          obtain ⟨a4, o4, e4, u4, c4⟩ := HBB2.out (by omega)
          exact ⟨a1, o1, a2, o2, a3, o3, a4, o4, ⟨e1, e2, e3, e4⟩, ⟨u1, u2, u3, u4⟩, (hW.cell (p := ⟨a1, o1 + k, none⟩) u1).trans (c1 k hlt), (hW.cell (p := ⟨a2, o2 + k, none⟩) u2).trans (c2 k hlt), (hW.cell (p := ⟨a3, o3 + k, none⟩) u3).trans (c3 k hlt), (hW.cell (p := ⟨a4, o4 + k, none⟩) u4).trans (c4 k hlt)⟩
        obtain ⟨a1, o1, a2, o2, a3, o3, a4, o4, ⟨rfl, rfl, rfl, rfl⟩, hus, c1, c2, c3, c4⟩ := HCC.out wr HBw.out
        obtain ⟨⟨m0, m1⟩, ⟨m2, m3⟩, -⟩ := HT.out wr HB0w.out
        have hS := hf1.cell (i := k) (by omega)
        have hZ := hf1.frozen k
        have HE1 : Hid (intLo al bl k = max (al k) (bl k)) := rfl
        have HE2 : Hid (intHi ah bh k = min (min (ah k) (bh k)) 1073741825) := rfl
        have HTn : Hid (intTo al ah bl bh (k + 1) = belB (intLo al bl k) (intHi ah bh k)) := by show _ = _; rw [intTo, HTo.out, Bool.true_and]
        go_wp2_with fail
        go_still_tail 15, (by kernel_rfl)
        change wpList _ _ _ _ _ wr.drew
        have hf2 : wr.drew.rowIs rl 3 n (fun j => .int .i64 (ff j)) := hf1
        have hg2 : wr.drew.rowIs rh 3 n (fun j => .int .i64 (gg j)) := hg1
        have hrb2 : wr.drew.heap[bb]? = some (.cells #[.slice (some ⟨rl, 0, none⟩) n n, .slice (some ⟨rh, 0, none⟩) n n] 66 (0, 0)) := hrb
        have HBd : Hid (Below w.heap.size w wr.drew) := Below.drew HBw.out
        have HB0d : Hid (Below (w.heap.size + 3) W0 wr.drew) := Below.drew HB0w.out
        have hS2 := hf2.cell (i := k) (by omega)
        have hZ2 := hf2.frozen k
        clear hf1 hg1 hrb hS hZ b0 b1 m0 m1 m2 m3 c1 c2 c3 c4
        generalize hw3 : wr.drew = w3 at *
        clear hw3
        go_wp2_with fail
        have hne := HNE.out
        have hf4 := set_int hf2 k (intLo al bl k) (.int .i64 (max (al k) (bl k))) rfl
        have hg4 := hg2.setOther (a := ⟨rl, k, none⟩) (by show rh ≠ rl; omega) (.int .i64 (max (al k) (bl k)))
        have hrb4 : (w3.setCell ⟨rl, k, none⟩ (.int .i64 (max (al k) (bl k)))).heap[bb]? = some (.cells #[.slice (some ⟨rl, 0, none⟩) n n, .slice (some ⟨rh, 0, none⟩) n n] 66 (0, 0)) := (blk_setCell_other _ _ _ _ (by show bb ≠ rl; omega)).trans hrb2
        have HB4 : Hid (Below w.heap.size w (w3.setCell ⟨rl, k, none⟩ (.int .i64 (max (al k) (bl k))))) := HBd.out.setCell (by show w.heap.size ≤ rl; omega) _
        have HB04 : Hid (Below (w.heap.size + 3) W0 (w3.setCell ⟨rl, k, none⟩ (.int .i64 (max (al k) (bl k))))) := HB0d.out.setCell (by show w.heap.size + 3 ≤ rl; omega) _
        clear hf2 hg2 hrb2 HBd HB0d hS2 hZ2
        generalize w3.setCell ⟨rl, k, none⟩ (.int .i64 (max (al k) (bl k))) = w4 at *
        have b0 : w4.cell? ⟨bb, 0, none⟩ = some (.slice (some ⟨rl, 0, none⟩) n n) := by rw [cell_of_row _ _ _ _ _ _ hrb4]; rfl
        have b1 : w4.cell? ⟨bb, 1, none⟩ = some (.slice (some ⟨rh, 0, none⟩) n n) := by rw [cell_of_row _ _ _ _ _ _ hrb4]; rfl
        have HCw : Hid (∀ W, Below w.heap.size w W → W.cell? ⟨a2, o2 + k, none⟩ = some (.int .i64 (ah k)) ∧ W.cell? ⟨a4, o4 + k, none⟩ = some (.int .i64 (bh k))) := fun W hW => by
          obtain ⟨a1', o1', a2', o2', a3', o3', a4', o4', ⟨e1, e2, e3, e4⟩, -, -, d2, -, d4⟩ := HCC.out W hW
          injection e2 with e2
          injection e2 with e2 e2'
          injection e4 with e4
          injection e4 with e4 e4'
          subst e2 e2' e4 e4'
          exact ⟨d2, d4⟩
        obtain ⟨c2, c4⟩ := HCw.out w4 HB4.out
        obtain ⟨⟨m0, m1⟩, ⟨m2, m3⟩, -⟩ := HT.out w4 HB04.out
        have hS := hg4.cell (i := k) (by omega)
        have hZ := hg4.frozen k
        go_wp2_with fail
        go_still_tail 15, (by kernel_rfl)
        change wpList _ _ _ _ _ w4.drew
        have hf5 : w4.drew.rowIs rl 3 n (fun j => .int .i64 (updZ ff k (intLo al bl k) j)) := hf4
        have hg5 : w4.drew.rowIs rh 3 n (fun j => .int .i64 (gg j)) := hg4
        have hrb5 : w4.drew.heap[bb]? = some (.cells #[.slice (some ⟨rl, 0, none⟩) n n, .slice (some ⟨rh, 0, none⟩) n n] 66 (0, 0)) := hrb4
        have HB5 : Hid (Below w.heap.size w w4.drew) := Below.drew HB4.out
        have HB05 : Hid (Below (w.heap.size + 3) W0 w4.drew) := Below.drew HB04.out
        have hS2 := hg5.cell (i := k) (by omega)
        have hZ2 := hg5.frozen k
        clear hf4 hg4 hrb4 hS hZ b0 b1 m0 m1 m2 m3 c2 c4 HB4 HB04
        generalize hw5 : w4.drew = w5 at *
        clear hw5
        go_wp2_with fail
        all_goals
          first
          | rw [show ah k = intHi ah bh k by rw [HE2.out]; omega]
          | rw [show bh k = intHi ah bh k by rw [HE2.out]; omega]
          | rw [show (1073741825 : Int) = intHi ah bh k by rw [HE2.out]; omega]
          have hf6 := hf5.setOther (a := ⟨rh, k, none⟩) (by show rl ≠ rh; omega) (.int .i64 (intHi ah bh k))
          have hg6 := set_int hg5 k (intHi ah bh k) (.int .i64 (intHi ah bh k)) rfl
          have hrb6 : (w5.setCell ⟨rh, k, none⟩ (.int .i64 (intHi ah bh k))).heap[bb]? = some (.cells #[.slice (some ⟨rl, 0, none⟩) n n, .slice (some ⟨rh, 0, none⟩) n n] 66 (0, 0)) := (blk_setCell_other _ _ _ _ (by show bb ≠ rh; omega)).trans hrb5
          have HB6 : Hid (Below w.heap.size w (w5.setCell ⟨rh, k, none⟩ (.int .i64 (intHi ah bh k)))) := HB5.out.setCell (by show w.heap.size ≤ rh; omega) _
          have HB06 : Hid (Below (w.heap.size + 3) W0 (w5.setCell ⟨rh, k, none⟩ (.int .i64 (intHi ah bh k)))) := HB05.out.setCell (by show w.heap.size + 3 ≤ rh; omega) _
          have HQ6 : Hid ((w5.setCell ⟨rh, k, none⟩ (.int .i64 (intHi ah bh k))).heap[bb]? = W2.heap[bb]?) := hrb6.trans (HR3.out W2 rfl).symm
          clear hf5 hg5 hrb5 HB5 HB05 hS2 hZ2
          generalize w5.setCell ⟨rh, k, none⟩ (.int .i64 (intHi ah bh k)) = w6 at *
          have HBk := Lib.hid (HBe.out (intLo al bl k) (intHi ah bh k))
          have b0 : w6.cell? ⟨bb, 0, none⟩ = some (.slice (some ⟨rl, 0, none⟩) n n) := by rw [cell_of_row _ _ _ _ _ _ hrb6]; rfl
          have b1 : w6.cell? ⟨bb, 1, none⟩ = some (.slice (some ⟨rh, 0, none⟩) n n) := by rw [cell_of_row _ _ _ _ _ _ hrb6]; rfl
          have x0 : w6.cell? ⟨rl, k, none⟩ = some (.int .i64 (intLo al bl k)) := by rw [hf6.cell (i := k) (by omega)]; simp [updZ]
          have y0 : w6.cell? ⟨rh, k, none⟩ = some (.int .i64 (intHi ah bh k)) := by rw [hg6.cell (i := k) (by omega)]; simp [updZ]
          have HCC6 : Hid (∀ W, W = w6 ∨ W = w6.drew → W.cell? ⟨bb, 0, none⟩ = some (.slice (some ⟨rl, 0, none⟩) n n) ∧ W.cell? ⟨bb, 1, none⟩ = some (.slice (some ⟨rh, 0, none⟩) n n) ∧ W.cell? ⟨rl, k, none⟩ = some (.int .i64 (intLo al bl k)) ∧ W.cell? ⟨rh, k, none⟩ = some (.int .i64 (intHi ah bh k))) := fun W hW => by
            rcases hW with rfl | rfl
            · exact ⟨b0, b1, x0, y0⟩
            · exact ⟨b0, b1, x0, y0⟩
          have HFk : Hid (∀ j, j < k + 1 → updZ ff k (intLo al bl k) j = intLo al bl j ∧ updZ gg k (intHi ah bh k) j = intHi ah bh j) := fun j hj => by
            by_cases e : j = k
            · subst e; exact ⟨by rw [updZ, if_pos rfl], by rw [updZ, if_pos rfl]⟩
            · rw [updZ, if_neg e, updZ, if_neg e]; exact HV.out j (by omega)
          have HF6 := Lib.hid hf6
          have HG6 := Lib.hid hg6
          clear hf6 hg6 hrb6 HCC HCw
          generalize intLo al bl k = X at *
          generalize intHi ah bh k = Y at *
          cases hbz : belB X Y
          · rw [hbz] at HBk HTn
            have HR : Hid (intTo al ah bl bh n = false) := intTo_le (k := k + 1) HTn.out (by omega)
            clear hbz
            go_region_held3 (fun W => W.cell? ⟨bb, 0, none⟩ = some (.slice (some ⟨rl, 0, none⟩) n n) ∧ W.cell? ⟨bb, 1, none⟩ = some (.slice (some ⟨rh, 0, none⟩) n n) ∧ W.cell? ⟨rl, k, none⟩ = some (.int .i64 X) ∧ W.cell? ⟨rh, k, none⟩ = some (.int .i64 Y))
              (first | exact HCC6.out _ (Or.inl rfl) | exact HCC6.out _ (Or.inr rfl))
              (first
                | (go_at_call 96; refine (HBk.out _).mono ?_; rintro e7 w7 ⟨rfl, rfl⟩))
            all_goals
              have hres := (HT.out w6 HB06.out).2.2
              obtain ⟨r0, r9, z0, z1⟩ := box_at hres
              go_wp2
              refine bodyPost_ret (v := .tuple #[BoxW none none 0 0 0 0, .bool false]) (res_cell_tmp Tryz.results44 _ _ (w.heap.size + 2) 66 _ (0, 0) _ rfl (put2 hres _ _) Tryz.underlying66 rfl (by rw [info_box]; rfl)) rfl ?_
              have hve : ve = false := HVE.out.symm.trans HR.out
              subst hve
              exact ⟨none, none, 0, rfl, rfl, fun h9 => absurd h9 (by omega), fun h9 => absurd h9 (by omega), (Below.drew HB6.out |>.setCell (p := ⟨w.heap.size + 2, 0, none⟩) (by show w.heap.size ≤ w.heap.size + 2; omega) _).setCell (p := ⟨w.heap.size + 2, 1, none⟩) (by show w.heap.size ≤ w.heap.size + 2; omega) _⟩
          · rw [hbz] at HBk HTn
            clear hbz
            go_region_held3 (fun W => W.cell? ⟨bb, 0, none⟩ = some (.slice (some ⟨rl, 0, none⟩) n n) ∧ W.cell? ⟨bb, 1, none⟩ = some (.slice (some ⟨rh, 0, none⟩) n n) ∧ W.cell? ⟨rl, k, none⟩ = some (.int .i64 X) ∧ W.cell? ⟨rh, k, none⟩ = some (.int .i64 Y))
              (first | exact HCC6.out _ (Or.inl rfl) | exact HCC6.out _ (Or.inr rfl))
              (first
                | (go_at_call 96; refine (HBk.out _).mono ?_; rintro e7 w7 ⟨rfl, rfl⟩))
            all_goals
              go_wp2
              go_roundw
              case rel => exact ⟨k + 1, _, _, by omega, by go_num, HF6.out, HG6.out, HFk.out, HTn.out, HQ6.out, Below.drew HB6.out, Below.drew HB06.out⟩
              case measure => simp [intOf]; omega
      · obtain rfl : k = n := by omega
        have HRl : Hid (wr.rowIs rl 3 k (fun j => .int .i64 (intLo al bl j))) := hf1.congr fun j hj => by rw [(HV.out j hj).1]
        have HRh : Hid (wr.rowIs rh 3 k (fun j => .int .i64 (intHi ah bh j))) := hg1.congr fun j hj => by rw [(HV.out j hj).2]
        obtain ⟨-, -, hres⟩ := HT.out wr HB0w.out
        obtain ⟨r0, r9, z0, z1⟩ := box_at hres
        have hne := HNE.out
        go_wp2
        refine bodyPost_ret (v := .tuple #[BoxW (some ⟨rl, 0, none⟩) (some ⟨rh, 0, none⟩) k k k k, .bool true]) (res_cell_tmp Tryz.results44 _ _ (w.heap.size + 2) 66 _ (0, 0) _ rfl (put2 hres _ _) Tryz.underlying66 rfl (by rw [info_box]; rfl)) rfl ?_
        have hve : ve = true := HVE.out.symm.trans HTo.out
        subst hve
        exact ⟨_, _, k, rfl, rfl, ints_row ((HRl.out.setOther (by show rl ≠ w.heap.size + 2; omega) _).setOther (by show rl ≠ w.heap.size + 2; omega) _), ints_row ((HRh.out.setOther (by show rh ≠ w.heap.size + 2; omega) _).setOther (by show rh ≠ w.heap.size + 2; omega) _), (HBw.out.setCell (p := ⟨w.heap.size + 2, 0, none⟩) (by show w.heap.size ≤ w.heap.size + 2; omega) _).setCell (p := ⟨w.heap.size + 2, 1, none⟩) (by show w.heap.size ≤ w.heap.size + 2; omega) _⟩
  have KEY := Lib.hid key
  clear key
  have KS : Hid (∀ W, Below w2.heap.size w2 W → W.cell? ⟨w.heap.size, 0, none⟩ = some (.slice A1 n c)) := fun W hW => (HT.out W (HB2.out.trans (hW.mono hz2))).1.1
  go_region_held3 (fun W => W.cell? ⟨w.heap.size, 0, none⟩ = some (.slice A1 n c))
    (first
      | exact KS.out _ (Below.refl _ _)
      | exact KS.out _ (Below.drew (Below.refl _ _))
      | exact KS.out _ ((Below.refl _ _).alloc (Nat.le_refl _) _)
      | exact KS.out _ (((Below.refl _ _).alloc (Nat.le_refl _) _).alloc (by simp) _)
      | exact KS.out _ ((((Below.refl _ _).alloc (Nat.le_refl _) _).alloc (by simp) _).alloc (by simp; omega) _)
      | exact KS.out _ (Below.drew ((Below.refl _ _).alloc (Nat.le_refl _) _))
      | exact KS.out _ (Below.drew (((Below.refl _ _).alloc (Nat.le_refl _) _).alloc (by simp) _))
      | exact KS.out _ (Below.drew ((((Below.refl _ _).alloc (Nat.le_refl _) _).alloc (by simp) _).alloc (by simp; omega) _)))
    (first | fail)
  all_goals
    obtain ⟨q0, q1, q2, q3⟩ := al3 w2 _ _ _
    first
    | exact KEY.out _ _ _ _ (row_made q0) (row_made q1) q2 q3 (by omega)
    | exact KEY.out _ _ _ _ (row_made q1) (row_made q0) q2 q3 (by omega)
    | exact KEY.out _ _ _ _ (row_made q0) (row_made q2) q1 q3 (by omega)
    | exact KEY.out _ _ _ _ (row_made q2) (row_made q0) q1 q3 (by omega)
    | exact KEY.out _ _ _ _ (row_made q1) (row_made q2) q0 q3 (by omega)
    | exact KEY.out _ _ _ _ (row_made q2) (row_made q1) q0 q3 (by omega)
end Go.Proofs.YtkckoanphciddaaGreatDoor
end

/- Chunks and their neighbours: arithmetic. -/
section
namespace Go.Proofs.YtkckoanphciddaaGreatDoor
open Go Go.RowKit Go.Deep

/-- The number whose digits are d, from place k on, m of them. -/
def valC (e d : Nat → Nat) : Nat → Nat → Nat
  | _, 0 => 0
  | k, m + 1 => d k * cntC e (k + 1) m + valC e d (k + 1) m
theorem valC_lt {e d : Nat → Nat} : ∀ m k, (∀ j, k ≤ j → j < k + m → d j < e j) → valC e d k m < cntC e k m
  | 0, k, _ => by unfold valC cntC; omega
  | m + 1, k, h => by
    have h1 := valC_lt m (k + 1) fun j h1 h2 => h j (by omega) (by omega)
    have h2 := h k (Nat.le_refl _) (by omega)
    rw [valC, cntC]
    generalize cntC e (k + 1) m = V at *
    generalize valC e d (k + 1) m = r at *
    have h3 : (d k + 1) * V ≤ e k * V := Nat.mul_le_mul_right _ h2
    rw [Nat.add_mul, Nat.one_mul] at h3
    omega
theorem valC_dig {e d : Nat → Nat} {n : Nat} : ∀ m k, k + m = n → (∀ j, k ≤ j → j < n → d j < e j) → ∀ q j, k ≤ j → j < n → digC e n (valC e d k m + q * volC e n k) j = d j
  | 0, k, hk, _, q, j, h1, h2 => by omega
  | m + 1, k, hk, h, q, j, h1, h2 => by
    have hv : volC e n k = e k * volC e n (k + 1) := volC_step (by omega)
    have hc : cntC e (k + 1) m = volC e n (k + 1) := by unfold volC; rw [show n - (k + 1) = m by omega]
    have hr : valC e d (k + 1) m < volC e n (k + 1) := by
      rw [← hc]
      exact valC_lt m (k + 1) fun j h3 h4 => h j (by omega) (by omega)
    have e1 : valC e d k (m + 1) + q * volC e n k = valC e d (k + 1) m + (d k + q * e k) * volC e n (k + 1) := by
      rw [valC, hv, hc, Nat.add_mul, Nat.mul_assoc]
      omega
    rw [e1]
    by_cases hj : j = k
    · subst hj
      have hd := h j (Nat.le_refl _) h2
      unfold digC
      rw [Nat.add_mul_div_right _ _ (by omega), Nat.div_eq_of_lt hr, Nat.zero_add, Nat.add_mul_mod_self_right, Nat.mod_eq_of_lt hd]
    · exact valC_dig m (k + 1) (by omega) (fun j h3 h4 => h j (by omega) h4) _ j (by omega) h2
/-- Each list of digits is that of a number. -/
theorem dig_onto {e d : Nat → Nat} {n : Nat} (h : ∀ j, j < n → d j < e j) : ∃ t, t < volC e n 0 ∧ ∀ j, j < n → digC e n t j = d j := by
  refine ⟨valC e d 0 n, ?_, fun j hj => ?_⟩
  · unfold volC
    rw [Nat.sub_zero]
    exact valC_lt n 0 fun j _ h2 => h j (by omega)
  · have := valC_dig n 0 (by omega) (fun j _ h2 => h j h2) 0 j (Nat.zero_le _) hj
    rwa [Nat.zero_mul, Nat.add_zero] at this
/-- Where the carry ends. -/
theorem carry_at {e : Nat → Nat} {n t : Nat} (he : ∀ k, k < n → 1 ≤ e k) (ht : t + 1 < volC e n 0) : ∃ k, k < n ∧ volC e n (k + 1) ∣ t + 1 ∧ digC e n t k ≠ e k - 1 := by
  have key : ∀ m k, k + m = n → (volC e n k ∣ t + 1) ∨ ∃ j, k ≤ j ∧ j < n ∧ volC e n (j + 1) ∣ t + 1 ∧ digC e n t j ≠ e j - 1 := by
    intro m
    induction m with
    | zero => intro k hk; obtain rfl : k = n := by omega
              exact .inl (by rw [volC_end]; exact Nat.one_dvd _)
    | succ m ih =>
      intro k hk
      rcases ih (k + 1) (by omega) with h | ⟨j, h1, h2⟩
      · by_cases h3 : digC e n t k = e k - 1
        · exact .inl (carry_on he (by omega) h h3)
        · exact .inr ⟨k, Nat.le_refl _, by omega, h, h3⟩
      · exact .inr ⟨j, by omega, h2⟩
  rcases key n 0 (by omega) with h | ⟨j, _, h⟩
  · exact absurd (Nat.le_of_dvd (by omega) h) (by omega)
  · exact ⟨j, h⟩
theorem cmpTo_alike {f g : Nat → Int} {m n : Nat} (h : ∀ k, k < n → f k = g k) (hm : n ≤ m) : ∀ k, k ≤ n → cmpTo f g m k = 0
  | 0, _ => rfl
  | k + 1, hk => by
    rw [cmpTo, cmpTo_alike h hm k (by omega), if_pos rfl, if_neg (by omega), h k (by omega)]
    unfold Lib.compareInt
    rw [if_neg (by omega), if_neg (by omega)]
/-- Coordinates in their order: each is less than the next. -/
theorem crd_less {lo : Nat → Int} {e : Nat → Nat} {n t : Nat} (he : ∀ k, k < n → 1 ≤ e k) (ht : t + 1 < volC e n 0) : cmpS n n (crdZ lo e n t) (crdZ lo e n (t + 1)) = -1 := by
  obtain ⟨k, hk, h1, h2⟩ := carry_at he ht
  obtain ⟨h3, h4, _⟩ := carry_end he hk h1 h2
  have e0 : cmpTo (crdZ lo e n t) (crdZ lo e n (t + 1)) n k = 0 := cmpTo_alike (n := k) (fun j hj => by unfold crdZ; rw [h4 j hj]) (by omega) k (Nat.le_refl _)
  have e1 : cmpTo (crdZ lo e n t) (crdZ lo e n (t + 1)) n (k + 1) = -1 := by
    rw [cmpTo, e0, if_pos rfl, if_neg (by omega)]
    unfold Lib.compareInt crdZ
    rw [h3, if_pos (by omega)]
  have e2 := cmpTo_le (n := n) (show cmpTo (crdZ lo e n t) (crdZ lo e n (t + 1)) n (k + 1) ≠ 0 by rw [e1]; decide) (by omega)
  unfold cmpS
  rw [e2, e1]
  rfl
/-- Coordinates of a box are among those that are yielded, and no others. -/
theorem crd_onto {lo hi : Nat → Int} {n : Nat} {e : Nat → Nat} (he : ∀ k, k < n → hi k = lo k + e k - 1) {v : Nat → Int} (hv : ∀ k, k < n → lo k ≤ v k ∧ v k ≤ hi k) : ∃ t, t < volC e n 0 ∧ ∀ k, k < n → crdZ lo e n t k = v k := by
  obtain ⟨t, ht, h⟩ := dig_onto (e := e) (d := fun k => (v k - lo k).toNat) (n := n) (fun j hj => by have := he j hj; have := hv j hj; omega)
  refine ⟨t, ht, fun k hk => ?_⟩
  unfold crdZ
  rw [h k hk]
  have := hv k hk
  show lo k + ((v k - lo k).toNat : Int) = v k
  omega
theorem crd_in {lo hi : Nat → Int} {n : Nat} {e : Nat → Nat} (he : ∀ k, k < n → 1 ≤ e k ∧ hi k = lo k + e k - 1) (t : Nat) {k : Nat} (hk : k < n) : lo k ≤ crdZ lo e n t k ∧ crdZ lo e n t k ≤ hi k := by
  have h := digC_lt (e := e) (n := n) (t := t) (fun k hk => (he k hk).1) hk
  have := (he k hk).2
  unfold crdZ
  omega

/-- Along one dimension: a chunk is a home exactly if the coordinate is in its wide part. -/
theorem home_wide {y L s o c : Int} (h1 : 0 ≤ y) (h2 : y ≤ L) (h3 : 1 ≤ s) (h4 : 0 ≤ o) (h6 : 0 ≤ c) (h7 : c ≤ L / s) :
    (max (y - o) 0 / s ≤ c ∧ c ≤ min ((y + o) / s) (L / s)) ↔ (max (c * s - o) 0 ≤ y ∧ y ≤ min (min (c * s + s - 1) L + o) L) := by
  have a1 : max (y - o) 0 / s ≤ c ↔ max (y - o) 0 < (c + 1) * s := by
    rw [show max (y - o) 0 / s ≤ c ↔ max (y - o) 0 / s < c + 1 by omega]
    exact Int.ediv_lt_iff_lt_mul (by omega)
  have a2 : c ≤ (y + o) / s ↔ c * s ≤ y + o := Int.le_ediv_iff_mul_le (by omega)
  have a3 : 0 ≤ c * s := Int.mul_nonneg h6 (by omega)
  rw [Int.add_mul, Int.one_mul] at a1
  omega
/-- The chunk of a coordinate, along one dimension. -/
theorem chunk_in {y L s : Int} (h1 : 0 ≤ y) (h2 : y ≤ L) (h3 : 1 ≤ s) : 0 ≤ y / s ∧ y / s ≤ L / s ∧ y / s * s ≤ y ∧ y ≤ y / s * s + s - 1 := by
  have a1 : 0 ≤ y / s := Int.ediv_nonneg h1 (by omega)
  have a2 : y / s ≤ L / s := Int.ediv_le_ediv (by omega) h2
  have a3 := Int.ediv_mul_le y (by omega : s ≠ 0)
  have a4 := Int.lt_ediv_add_one_mul_self y (by omega : 0 < s)
  rw [Int.add_mul, Int.one_mul] at a4
  omega
/-- Behind the last chunk nothing comes; another one begins where its core ends. -/
theorem chunk_next {L s c : Int} (h3 : 1 ≤ s) : (L / s < c + 1 ↔ L < c * s + s) ∧ (c + 1 ≤ L / s ↔ c * s + s ≤ L) := by
  have a1 : L / s < c + 1 ↔ L < (c + 1) * s := Int.ediv_lt_iff_lt_mul (by omega)
  have a2 : c + 1 ≤ L / s ↔ (c + 1) * s ≤ L := Int.le_ediv_iff_mul_le (by omega)
  rw [Int.add_mul, Int.one_mul] at a1 a2
  exact ⟨a1, a2⟩
end Go.Proofs.YtkckoanphciddaaGreatDoor
end

/- What the law of chunks asks: lists that are equal, lists among others, coordinates in a box. -/
section
namespace Go.Proofs.YtkckoanphciddaaGreatDoor
open Go Go.RowKit Go.Deep

set_option maxRecDepth 100000 in
set_option maxHeartbeats 2000000 in
theorem l_equal2 (w : World) (A B : Option Addr) (n c m d : Nat) (f g : Nat → Int) (ha : IntsAt w A n f) (hb : IntsAt w B m g) (hn : n ≤ 1000000) (hm : m ≤ 1000000) :
    Calls Tryz.prog 43 #[.slice A n c, .slice B m d] w fun e w' => e = .returned (.bool (sameZ n m f g)) ∧ Below w.heap.size w w' := by
  have HA := Lib.hid ha
  have HB := Lib.hid hb
  obtain ⟨ve, hve⟩ : ∃ ve, sameZ n m f g = ve := ⟨_, rfl⟩
  rw [hve]
  have HV := Lib.hid hve
  clear ha hb hve
  by_cases h0 : n = m
  · subst h0
    have HE : Hid (ve = eqTo f g n) := by show _ = _; rw [← HV.out, sameZ, beq_self_eq_true, Bool.true_and]
    go_enter Tryz.func43, Tryz.ntmps43
    go_wp2
    go_loopw [5] (fun i wr => ∃ k : Nat, k ≤ n ∧ i = .int .i64 k ∧ Hid (eqTo f g k = true) ∧ Hid (Below w.heap.size w wr)) (fun i _ => n - (intOf i).toNat)
    case atStart => exact ⟨0, Nat.zero_le _, rfl, rfl, Below.refl _ _⟩
    case round =>
      obtain ⟨k, hk, rfl, HK, HBw⟩ := hrel
      by_cases hlt : k < n
      · obtain ⟨b1, o1, rfl, _, hc1⟩ := (HA.out.below HBw.out) (by omega)
        have x0 := hc1 k hlt
        obtain ⟨b2, o2, rfl, _, hc2⟩ := (HB.out.below HBw.out) (by omega)
        have y0 := hc2 k hlt
        clear hc1 hc2
        have HS : Hid (eqTo f g (k + 1) = (f k == g k)) := by show _ = _; rw [eqTo, HK.out, Bool.true_and]
        by_cases he : f k = g k
        · rw [he, beq_self_eq_true] at HS
          rw [he] at x0
          clear he
          generalize g k = y at *
          go_wp2
          go_quiet (fail)
          go_wp2
          go_roundw
          case rel => exact ⟨k + 1, by omega, by go_num, HS, drewB HBw.out _⟩
          case measure => simp [intOf]; omega
        · have h1 : (f k != g k) = true := by rw [bne_iff_ne]; exact he
          have HF : Hid (ve = false) := by
            show _ = _
            rw [HE.out]
            exact eqTo_le (k := k + 1) (by rw [HS.out, beq_eq_false_iff_ne]; exact he) (by omega)
          clear he HS
          generalize f k = x at *
          generalize g k = y at *
          go_wp2
          go_quiet (fail)
          go_wp2
          go_ret
          exact ⟨by rw [HF.out]; rfl, drewB HBw.out _⟩
      · obtain rfl : k = n := by omega
        go_wp2
        go_ret
        exact ⟨by rw [HE.out, HK.out]; rfl, HBw.out⟩
  · have HE : Hid (ve = false) := by show _ = _; rw [← HV.out, sameZ, beq_false_of_ne h0, Bool.false_and]
    have h1 : ((n : Int) != (m : Int)) = true := by rw [bne_iff_ne]; omega
    go_enter Tryz.func43, Tryz.ntmps43
    go_wp2
    go_ret
    exact ⟨by rw [HE.out]; rfl, Below.refl _ _⟩


/-- Are the first k coordinates within the bounds? -/
def insTo (l h v : Nat → Int) : Nat → Bool
  | 0 => true
  | k + 1 => insTo l h v k && (decide (l k ≤ v k) && decide (v k ≤ h k))
theorem insTo_le {l h v : Nat → Int} {k n : Nat} (hf : insTo l h v k = false) (hn : k ≤ n) : insTo l h v n = false := by
  induction n with
  | zero => obtain rfl : k = 0 := by omega
            exact hf
  | succ n ih =>
    by_cases e : k = n + 1
    · rw [← e]; exact hf
    · rw [insTo, ih (by omega)]; rfl
theorem insTo_iff {l h v : Nat → Int} : ∀ {n : Nat}, insTo l h v n = true ↔ ∀ k, k < n → l k ≤ v k ∧ v k ≤ h k
  | 0 => ⟨fun _ k hk => absurd hk (by omega), fun _ => rfl⟩
  | n + 1 => by
    rw [insTo, Bool.and_eq_true, Bool.and_eq_true, decide_eq_true_eq, decide_eq_true_eq, insTo_iff]
    constructor
    · rintro ⟨h1, h2⟩ k hk
      by_cases e : k = n
      · rw [e]; exact h2
      · exact h1 k (by omega)
    · exact fun h1 => ⟨fun k hk => h1 k (by omega), h1 n (by omega)⟩
set_option maxRecDepth 100000 in
set_option maxHeartbeats 2000000 in
/-- inside, of a box whose bounds are as many as the coordinates. -/
theorem l_inside (w : World) (L H X : Option Addr) (n c d e : Nat) (l h v : Nat → Int) (hl : IntsAt w L n l) (hh : IntsAt w H n h) (hx : IntsAt w X n v) (hn : n ≤ 1000000) :
    Calls Tryz.prog 39 #[BoxW L H n c n d, .slice X n e] w fun e w' => e = .returned (.bool (insTo l h v n)) ∧ Below w.heap.size w w' := by
  have KB := Lib.hid (box_two w (.slice L n c) (.slice H n d) 66)
  have HB : Hid (Below w.heap.size w (w.alloc (.cells #[.slice L n c, .slice H n d] 66))) := (Below.refl _ _).alloc (Nat.le_refl _) _
  have HL := Lib.hid hl
  have HH := Lib.hid hh
  have HX := Lib.hid hx
  have hz0 : (w.alloc (.cells #[.slice L n c, .slice H n d] 66)).heap.size = w.heap.size + 1 := by simp
  obtain ⟨ve, hve⟩ : ∃ ve, insTo l h v n = ve := ⟨_, rfl⟩
  rw [hve]
  have HV := Lib.hid hve
  clear hl hh hx hve
  go_enter Tryz.func39, Tryz.ntmps39
  obtain ⟨m0, m1⟩ := KB.out _ (Below.refl _ _)
  go_wp2
  clear m0 m1
  generalize w.alloc (.cells #[.slice L n c, .slice H n d] 66) = W0 at *
  go_loopw [5] (fun i wr => ∃ k : Nat, k ≤ n ∧ i = .int .i64 k ∧ Hid (insTo l h v k = true) ∧ Hid (Below W0.heap.size W0 wr)) (fun i _ => n - (intOf i).toNat)
  case atStart => exact ⟨0, Nat.zero_le _, rfl, rfl, Below.refl _ _⟩
  case round =>
    obtain ⟨k, hk, rfl, HK, HBw⟩ := hrel
    by_cases hlt : k < n
    · obtain ⟨m0, m1⟩ := KB.out wr HBw.out
      have HBB : Hid (Below w.heap.size w wr) := st HB.out HBw.out
      obtain ⟨b1, o1, rfl, _, hc1⟩ := (HL.out.below HBB.out) (by omega)
      have x0 := hc1 k hlt
      obtain ⟨b2, o2, rfl, _, hc2⟩ := (HH.out.below HBB.out) (by omega)
      have y0 := hc2 k hlt
      obtain ⟨b3, o3, rfl, _, hc3⟩ := (HX.out.below HBB.out) (by omega)
      have z0 := hc3 k hlt
      clear hc1 hc2 hc3
      have HS : Hid (insTo l h v (k + 1) = (decide (l k ≤ v k) && decide (v k ≤ h k))) := by show _ = _; rw [insTo, HK.out, Bool.true_and]
      have HF : Hid ((decide (l k ≤ v k) && decide (v k ≤ h k)) = false → ve = false) := fun h9 => by rw [← HV.out]; exact insTo_le (k := k + 1) (by rw [HS.out, h9]) (by omega)
      generalize l k = x at *
      generalize h k = y at *
      generalize v k = z at *
      by_cases g1 : z < x
      · have HR := Lib.hid (HF.out (by rw [decide_eq_false (by omega)]; rfl))
        go_wp2
        go_quiet (fail)
        go_wp2
        go_ret
        exact ⟨by rw [HR.out]; rfl, drewB HBB.out _⟩
      · by_cases g2 : z > y
        · have HR := Lib.hid (HF.out (by rw [decide_eq_false (by omega : ¬ z ≤ y), Bool.and_false]))
          go_wp2
          go_quiet (fail)
          go_wp2
          go_ret
          exact ⟨by rw [HR.out]; rfl, drewB HBB.out _⟩
        · have HR : Hid (insTo l h v (k + 1) = true) := by show _ = _; rw [HS.out, decide_eq_true (by omega : x ≤ z), decide_eq_true (by omega : z ≤ y)]; rfl
          go_wp2
          go_quiet (fail)
          go_wp2
          go_roundw
          case rel => exact ⟨k + 1, by omega, by go_num, HR.out, drewB HBw.out _⟩
          case measure => simp [intOf]; omega
    · obtain rfl : k = n := by omega
      go_wp2
      go_ret
      exact ⟨by rw [← HV.out, HK.out]; rfl, st HB.out HBw.out⟩

theorem l_layout (S O : Option Addr) (s sc o oc : Nat) (ord tile form codec : Int) (w : World) :
    Calls Tryz.prog 19 #[LayV S s sc O o oc ord tile form codec] w fun e w' => e = .returned (.bool (decide (s ≤ 10) && decide (o ≤ 10))) ∧ Below w.heap.size w w' := by
  have hb : Below w.heap.size w (w.alloc (.cells #[.slice S s sc, .slice O o oc, .int .i64 ord, .int .i64 tile, .int .i64 form, .int .i64 codec] 54)) := (Below.refl _ _).alloc (Nat.le_refl _) _
  have e1 : decide (s ≤ 10) = decide ((s : Int) ≤ 10) := by rw [decide_eq_decide]; omega
  have e2 : decide (o ≤ 10) = decide ((o : Int) ≤ 10) := by rw [decide_eq_decide]; omega
  rw [e1, e2]
  obtain ⟨l0, l1, l2, l3, l4, l5⟩ := lay_box w S O s sc o oc ord tile form codec _ (Below.refl _ _)
  go_enter Tryz.func19, Tryz.ntmps19
  by_cases g1 : (s : Int) ≤ 10
  · rw [decide_eq_true g1]
    go_wp2
    go_ret
    exact ⟨rfl, hb⟩
  · rw [decide_eq_false g1]
    go_wp2
    go_ret
    exact ⟨rfl, hb⟩
end Go.Proofs.YtkckoanphciddaaGreatDoor
end

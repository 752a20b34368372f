/- Chunks that are none: the errors. -/
import Derived.Test.YthmnmologmmeaaaGreatDoorZSpI
import Derived.Test.YthmnmologmmeaaaGreatDoorZCmpS
namespace Go.Proofs.YthmnmologmmeaaaGreatDoor
open Go Go.RowKit Go.Deep

set_option maxRecDepth 100000 in
set_option maxHeartbeats 4000000 in
theorem s_Core_far (w : World) (A S O X : Option Addr) (n cap s sc o oc m mc : Nat) (nm : Nat → ByteArray) (lo hi sd ov c : Nat → Int) (ord tile form codec : Int) (hd : DimsAt w A n nm lo hi) (hs : IntsAt w S s sd) (ho : IntsAt w O o ov) (hx : IntsAt w X m c) (hs1 : s ≤ 1000) (ho1 : o ≤ 1000) (hn1 : n ≤ 1000) (hm1 : m ≤ 1000)
    (h0 : layE nm lo hi n sd ov s o ord tile form codec = 0) (hmn : m = n) (h2 : cinTo lo hi sd c n = false) :
    Calls Tryz.prog 26 #[.slice A n cap, LayV S s sc O o oc ord tile form codec, .slice X m mc] w fun e w' => e = .returned (.tuple #[BoxV none none 0 0 0 0, .int .i64 3]) ∧ Below w.heap.size w w' := by
  have KB := Lib.hid (lay_box w S O s sc o oc ord tile form codec)
  have HB : Hid (Below w.heap.size w (w.alloc (.cells #[.slice S s sc, .slice O o oc, .int .i64 ord, .int .i64 tile, .int .i64 form, .int .i64 codec] 54))) := (Below.refl _ _).alloc (Nat.le_refl _) _
  have HL := Lib.hid (fun W => s_Layout W A S O n cap s sc o oc nm lo hi sd ov ord tile form codec)
  have HLC := Lib.hid s_lastChunk
  have HLL := Lib.hid s_last
  obtain rfl := hmn
  obtain ⟨rfl, rfl, _, hn4, hf⟩ := lay_facts h0
  have HF := Lib.hid hf
  have HI := Lib.hid h2
  rw [h0] at HL
  have HD := Lib.hid hd
  have HS := Lib.hid hs
  have HO := Lib.hid ho
  have HX := Lib.hid hx
  clear hd hs ho hx h0 h2 hf
  have hmk := fun W => run_make_row' (P := Tryz.prog) 35 3 (.int .i64 0) 8 Tryz.underlying35 info_int rfl .i64 .i64 o (by omega) (by omega) W
  go_enter Tryz.func26, Tryz.ntmps26
  go_wp2_with fail
  have hz0 : ((w.alloc (.cells #[.slice S o sc, .slice O o oc, .int .i64 ord, .int .i64 tile, .int .i64 form, .int .i64 codec] 54)).alloc (.cells #[.slice none 0 0, .slice none 0 0] 66)).heap.size = w.heap.size + 2 := by simp
  have KB2 : Hid (∀ W, Below (w.heap.size + 2) ((w.alloc (.cells #[.slice S o sc, .slice O o oc, .int .i64 ord, .int .i64 tile, .int .i64 form, .int .i64 codec] 54)).alloc (.cells #[.slice none 0 0, .slice none 0 0] 66)) W → W.cell? ⟨w.heap.size, 0, none⟩ = some (.slice S o sc) ∧ W.heap[w.heap.size + 1]? = some (.cells #[.slice none 0 0, .slice none 0 0] 66 (0, 0))) := fun W hW => by
    refine ⟨(KB.out W (Below.trans ((Below.refl _ _).alloc (Nat.le_refl _) _) (hW.mono (by simp)))).1, ?_⟩
    have h9 := heap_alloc_new (w.alloc (.cells #[.slice S o sc, .slice O o oc, .int .i64 ord, .int .i64 tile, .int .i64 form, .int .i64 codec] 54)) (.cells #[.slice none 0 0, .slice none 0 0] 66)
    rw [World.size_alloc] at h9
    exact (hW.block _ (by omega)).trans h9
  have HB2 : Hid (Below w.heap.size w ((w.alloc (.cells #[.slice S o sc, .slice O o oc, .int .i64 ord, .int .i64 tile, .int .i64 form, .int .i64 codec] 54)).alloc (.cells #[.slice none 0 0, .slice none 0 0] 66))) := HB.out.alloc (by simp) _
  clear KB HB
  generalize (w.alloc (.cells #[.slice S o sc, .slice O o oc, .int .i64 ord, .int .i64 tile, .int .i64 form, .int .i64 codec] 54)).alloc (.cells #[.slice none 0 0, .slice none 0 0] 66) = W0 at *
  refine (HL.out _ (HD.out.below HB2.out) (HS.out.below HB2.out) (HO.out.below HB2.out) hn1 hn1 hn1).mono ?_
  rintro e w1 ⟨rfl, hb1⟩
  have HB1 : Hid (Below w.heap.size w w1) := st HB2.out hb1
  have HB01 : Hid (Below (w.heap.size + 2) W0 w1) := by show Below _ _ _; rw [← hz0]; exact hb1
  have hz1 : w.heap.size + 2 ≤ w1.heap.size := by rw [← hz0]; exact hb1.size
  clear hb1 HL
  obtain ⟨l0, -⟩ := KB2.out w1 HB01.out
  have l1 := (KB2.out ((w1.alloc (.cells (madeCells #[.int .i64 0] o) 3)).alloc (.cells (madeCells #[.int .i64 0] o) 3)) ((HB01.out.alloc hz1 _).alloc (by simp; omega) _)).1
  go_wp2_with fail
  clear l0 l1
  rename_i K hK
  have key : ∀ (bl bh bb : Nat) (W2 : World), W2.rowIs bl 3 o (fun _ => .int .i64 0) → W2.rowIs bh 3 o (fun _ => .int .i64 0) → W2.heap[bb]? = some (.cells #[.slice (some ⟨bl, 0, none⟩) o o, .slice (some ⟨bh, 0, none⟩) o o] 66 (0, 0)) → Below w1.heap.size w1 W2 → (w1.heap.size ≤ bl ∧ w1.heap.size ≤ bh ∧ w1.heap.size ≤ bb ∧ bl ≠ bh ∧ bl ≠ bb ∧ bh ≠ bb) → K ⟨#[.slice A o cap, LayV S o sc O o oc ord tile form codec, .slice X o mc, undef, .pointer (some ⟨w.heap.size, 0, none⟩), undef, .pointer (some ⟨w.heap.size + 1, 0, none⟩), .int .i64 0, .int .i64 0, .pointer (some ⟨bb, 0, none⟩), undef, undef, .slice A o cap, .agg #[.slice S o sc, .slice O o oc, .int .i64 ord, .int .i64 tile, .int .i64 form, .int .i64 codec], .int .i64 0, .int .i64 0, .bool false, undef, undef, .slice X o mc, .int .i64 o, .slice A o cap, .int .i64 o, .bool false, undef, .slice A o cap, .int .i64 o, .slice (some ⟨bl, 0, none⟩) o o, .slice A o cap, .int .i64 o, .slice (some ⟨bh, 0, none⟩) o o, .agg #[.slice (some ⟨bl, 0, none⟩) o o, .slice (some ⟨bh, 0, none⟩) o o], undef, undef, undef, undef, undef, undef, undef, undef, undef, undef, undef, undef, undef, undef, undef, undef, undef, undef, undef, undef, undef, undef, undef, undef, undef, undef, undef, undef, undef, undef, undef, undef, undef, undef, undef, undef, undef, undef, undef, undef, undef, undef, undef, undef, undef, undef, undef, undef, undef, undef, undef, undef, undef, undef, undef, undef, undef, undef, undef, undef, undef, undef, undef], []⟩ W2 := by
    intro bl bh bb W2 r1 r2 r3 hb2 hne
    refine hK _ _ ?_
    clear hK hmk
    have HR3 : Hid (∀ W : World, W.heap[bb]? = W2.heap[bb]? → W.heap[bb]? = some (.cells #[.slice (some ⟨bl, 0, none⟩) o o, .slice (some ⟨bh, 0, none⟩) o o] 66 (0, 0))) := fun W h => h.trans r3
    have HNE := Lib.hid hne
    have HRB2 := Lib.hid r3
    have HW2 : Hid (Below w.heap.size w W2) := st HB1.out hb2
    have HW02 : Hid (Below (w.heap.size + 2) W0 W2) := HB01.out.trans (hb2.mono hz1)
    have s2 := hb2.size
    have hbbl : bb < W2.heap.size := (Array.getElem?_eq_some_iff.1 r3).1
    clear r3 hb2 hne
    obtain ⟨l0, -⟩ := KB2.out W2 HW02.out
    go_wp2
    go_loopw [10, 11, 35] (fun _ _ i wr => ∃ (k : Nat) (f g : Nat → Int), k ≤ o ∧ i = .int .i64 k ∧ Hid (cinTo lo hi sd c k = true) ∧ wr.rowIs bl 3 o (fun j => .int .i64 (f j)) ∧ wr.rowIs bh 3 o (fun j => .int .i64 (g j)) ∧ Hid (∀ j, j < k → f j = coreLo lo sd c j ∧ g j = coreHi lo hi sd c j) ∧ Hid (wr.heap[bb]? = W2.heap[bb]?) ∧ Hid (Below w.heap.size w wr) ∧ Hid (Below (w.heap.size + 2) W0 wr)) (fun _ _ i _ => o - (intOf i).toNat)
    case atStart => exact ⟨0, fun _ => 0, fun _ => 0, Nat.zero_le _, rfl, rfl, r1, r2, fun j hj => absurd hj (by omega), rfl, HW2.out, HW02.out⟩
    case round =>
      obtain ⟨k, f, g, hk, rfl, HT, hf1, hg1, HV, HQ, HBw, HB0w⟩ := hrel
      have hrb := HR3.out wr HQ.out
      have b0 : wr.cell? ⟨bb, 0, none⟩ = some (.slice (some ⟨bl, 0, none⟩) o o) := by rw [cell_of_row _ _ _ _ _ _ hrb]; rfl
      have b1 : wr.cell? ⟨bb, 1, none⟩ = some (.slice (some ⟨bh, 0, none⟩) o o) := by rw [cell_of_row _ _ _ _ _ _ hrb]; rfl
      by_cases hlt : k < o
      · obtain ⟨bd, od, rfl, hbd, hc⟩ := HD.out (by omega)
        obtain ⟨d0, d1, d2⟩ := hc k hlt
        clear hc
        obtain ⟨bs, os, rfl, _, hcs⟩ := (HS.out.below HBw.out) (by omega)
        have x0 := hcs k hlt
        obtain ⟨bx, ox, rfl, hbx, hcx⟩ := HX.out (by omega)
        have e0 := hcx k hlt
        clear hcs hcx
        have HCC : Hid (∀ W, Below w.heap.size w W → W.cell? ⟨bx, ox + k, none⟩ = some (.int .i64 (c k)) ∧ W.cell? ⟨bd, od + k * 3, none⟩ = some (.string (nm k)) ∧ W.cell? ⟨bd, od + k * 3 + 1, none⟩ = some (.int .i64 (lo k)) ∧ W.cell? ⟨bd, od + k * 3 + 2, none⟩ = some (.int .i64 (hi k))) := fun W hW =>
          ⟨(hW.cell (p := ⟨bx, ox + k, none⟩) hbx).trans e0, (hW.cell (p := ⟨bd, od + k * 3, none⟩) hbd).trans d0, (hW.cell (p := ⟨bd, od + k * 3 + 1, none⟩) hbd).trans d1, (hW.cell (p := ⟨bd, od + k * 3 + 2, none⟩) hbd).trans d2⟩
        obtain ⟨y0, c0, c1, c2⟩ := HCC.out wr HBw.out
        clear e0 d0 d1 d2 hbd hbx
        have hfk := HF.out k hlt
        by_cases hik : 0 ≤ c k ∧ c k ≤ lcZ (lo k) (hi k) (sd k)
        · have HTn : Hid (cinTo lo hi sd c (k + 1) = true) := by show _ = _; rw [cinTo, HT.out, decide_eq_true hik]; rfl
          have hmc := mul_chunk (c := c k) (s := sd k) (L := lastZ (hi k) - lo k) hik.1 hik.2 hfk.2.2.2.2.2.1
          have HLk := Lib.hid (fun W => HLC.out (nm k) (lo k) (hi k) (sd k) W hfk.1 hfk.2.2.1 hfk.2.1 hfk.2.2.2.2.2.1 hfk.2.2.2.2.2.2.1)
          have HLLk := Lib.hid (fun W => HLL.out (nm k) (lo k) (hi k) W)
          have HE1 : Hid (coreLo lo sd c k = lo k + c k * sd k) := rfl
          have HE2 : Hid (coreHi lo hi sd c k = min (lo k + c k * sd k + sd k - 1) (lastZ (hi k))) := rfl
          generalize lcZ (lo k) (hi k) (sd k) = LC at *
          generalize lastZ (hi k) = hl at *
          generalize nm k = s0 at *
          generalize lo k = l9 at *
          generalize hi k = h9 at *
          generalize c k = z at *
          generalize sd k = q at *
          obtain ⟨f1, f2, f3, f4, f5, f6, f7, f8, f9, f10⟩ := hfk
          obtain ⟨i1, i2⟩ := hik
          have r1 : decide (z < 0) = ltC z 0 := rfl
          have a1 : ltC z 0 = false := decide_eq_false (by omega)
          go_wp2_with fail
          have B0d : Below wr.heap.size wr wr.drew := Below.drew (Below.refl _ _)
          go_region_held3 (fun W => W.cell? ⟨bx, ox + k, none⟩ = some (.int .i64 z) ∧ W.cell? ⟨bd, od + k * 3, none⟩ = some (.string s0) ∧ W.cell? ⟨bd, od + k * 3 + 1, none⟩ = some (.int .i64 l9) ∧ W.cell? ⟨bd, od + k * 3 + 2, none⟩ = some (.int .i64 h9))
            (first | exact HCC.out _ (st HBw.out B1) | exact HCC.out _ (st HBw.out B0d) | exact HCC.out _ HBw.out)
            (first
              | (go_at_call 67; refine (HLk.out _).mono ?_; rintro e w3 ⟨rfl, hb3⟩; have B1 : Below wr.heap.size wr w3 := st B0d hb3))
          all_goals
            have hbbr : bb < wr.heap.size := (Array.getElem?_eq_some_iff.1 hrb).1
            have hf3 : w3.rowIs bl 3 o (fun j => .int .i64 (f j)) := hf1.of_block (B1.block bl hf1.lt)
            have hg3 : w3.rowIs bh 3 o (fun j => .int .i64 (g j)) := hg1.of_block (B1.block bh hg1.lt)
            have hrb3 : w3.heap[bb]? = some (.cells #[.slice (some ⟨bl, 0, none⟩) o o, .slice (some ⟨bh, 0, none⟩) o o] 66 (0, 0)) := (B1.block bb hbbr).trans hrb
            have HB3 := Lib.hid B1
            have hf1lt := hf1.lt
            clear hf1 hg1 hrb b0 b1 c0 c1 c2 y0 x0 B0d
            obtain ⟨y0, c0, c1, c2⟩ := HCC.out w3 (st HBw.out B1)
            have b0 : w3.cell? ⟨bb, 0, none⟩ = some (.slice (some ⟨bl, 0, none⟩) o o) := by rw [cell_of_row _ _ _ _ _ _ hrb3]; rfl
            have b1 : w3.cell? ⟨bb, 1, none⟩ = some (.slice (some ⟨bh, 0, none⟩) o o) := by rw [cell_of_row _ _ _ _ _ _ hrb3]; rfl
            have hS := hf3.cell (i := k) (by omega)
            have hZ := hf3.frozen k
            clear B1
            go_wp2_with fail
            go_still_tail 16, (by kernel_rfl)
            change wpList _ _ _ _ _ w3.drew
            have hf4 : w3.drew.rowIs bl 3 o (fun j => .int .i64 (f j)) := hf3
            have hg4 : w3.drew.rowIs bh 3 o (fun j => .int .i64 (g j)) := hg3
            have hrb4 : w3.drew.heap[bb]? = some (.cells #[.slice (some ⟨bl, 0, none⟩) o o, .slice (some ⟨bh, 0, none⟩) o o] 66 (0, 0)) := hrb3
            have HB4 : Hid (Below wr.heap.size wr w3.drew) := Below.drew HB3.out
            clear hf3 hg3 hrb3 b0 b1 c0 c1 c2 y0 hS hZ
            generalize hw4 : w3.drew = w4 at *
            obtain ⟨y0, c0, c1, c2⟩ := HCC.out w4 (st HBw.out HB4.out)
            have hS := hf4.cell (i := k) (by omega)
            have hZ := hf4.frozen k
            clear hw4
            have hne := HNE.out
            go_wp2_with fail
            have hf5 := set_int hf4 k (l9 + z * q) _ rfl
            have hg5 := hg4.setOther (a := ⟨bl, k, none⟩) (by show bh ≠ bl; omega) (.int .i64 (l9 + z * q))
            have hrb5 : (w4.setCell ⟨bl, k, none⟩ (.int .i64 (l9 + z * q))).heap[bb]? = some (.cells #[.slice (some ⟨bl, 0, none⟩) o o, .slice (some ⟨bh, 0, none⟩) o o] 66 (0, 0)) := (blk_setCell_other _ _ _ _ (by show bb ≠ bl; omega)).trans hrb4
            have HB5 : Hid (Below w.heap.size w (w4.setCell ⟨bl, k, none⟩ (.int .i64 (l9 + z * q)))) := (st HBw.out HB4.out).setCell (by show w.heap.size ≤ bl; omega) _
            have HB05 : Hid (Below (w.heap.size + 2) W0 (w4.setCell ⟨bl, k, none⟩ (.int .i64 (l9 + z * q)))) := (HB0w.out.trans (HB4.out.mono (by have := HBw.out.size; have := HNE.out; have := hf1lt; omega))).setCell (by show w.heap.size + 2 ≤ bl; omega) _
            have HQ5 : Hid ((w4.setCell ⟨bl, k, none⟩ (.int .i64 (l9 + z * q))).heap[bb]? = W2.heap[bb]?) := hrb5.trans HRB2.out.symm
            clear hf4 hg4 hrb4 y0 c0 c1 c2 hS hZ HB4 HB3
            generalize w4.setCell ⟨bl, k, none⟩ (.int .i64 (l9 + z * q)) = w5 at *
            have hvk : updZ f k (l9 + z * q) k = l9 + z * q := if_pos rfl
            have HKK : Hid (∀ W, Below w5.heap.size w5 W → (W.cell? ⟨bb, 0, none⟩ = some (.slice (some ⟨bl, 0, none⟩) o o) ∧ W.cell? ⟨bb, 1, none⟩ = some (.slice (some ⟨bh, 0, none⟩) o o) ∧ W.cell? ⟨bl, k, none⟩ = some (.int .i64 (l9 + z * q))) ∧ W.cell? ⟨bd, od + k * 3, none⟩ = some (.string s0) ∧ W.cell? ⟨bd, od + k * 3 + 1, none⟩ = some (.int .i64 l9) ∧ W.cell? ⟨bd, od + k * 3 + 2, none⟩ = some (.int .i64 h9)) := fun W hW => by
              obtain ⟨-, g2, g3, g4⟩ := HCC.out W (st HB5.out hW)
              have g5 := (hW.block bb (Array.getElem?_eq_some_iff.1 hrb5).1).trans hrb5
              refine ⟨⟨?_, ?_, ?_⟩, g2, g3, g4⟩
              · rw [cell_of_row _ _ _ _ _ _ g5]; rfl
              · rw [cell_of_row _ _ _ _ _ _ g5]; rfl
              · rw [(hf5.of_block (hW.block bl hf5.lt)).cell (i := k) (by omega), hvk]
            have hbdb : bd ≠ bh := by
              have h1 := cell_lt' (HCC.out w (Below.refl _ _)).2.1
              omega
            have HKS : Hid (∀ W u, Below w5.heap.size w5 W → ((W.setCell ⟨bh, k, none⟩ u).cell? ⟨bb, 0, none⟩ = some (.slice (some ⟨bl, 0, none⟩) o o) ∧ (W.setCell ⟨bh, k, none⟩ u).cell? ⟨bb, 1, none⟩ = some (.slice (some ⟨bh, 0, none⟩) o o) ∧ (W.setCell ⟨bh, k, none⟩ u).cell? ⟨bl, k, none⟩ = some (.int .i64 (l9 + z * q))) ∧ (W.setCell ⟨bh, k, none⟩ u).cell? ⟨bd, od + k * 3, none⟩ = some (.string s0) ∧ (W.setCell ⟨bh, k, none⟩ u).cell? ⟨bd, od + k * 3 + 1, none⟩ = some (.int .i64 l9) ∧ (W.setCell ⟨bh, k, none⟩ u).cell? ⟨bd, od + k * 3 + 2, none⟩ = some (.int .i64 h9)) := fun W u hW => by
              have hs := fun b (hb : b ≠ bh) => blk_setCell_other W ⟨bh, k, none⟩ u b hb
              rw [cell_blk (hs bb (by omega)), cell_blk (hs bb (by omega)), cell_blk (hs bl (by omega)), cell_blk (hs bd hbdb), cell_blk (hs bd hbdb), cell_blk (hs bd hbdb)]
              exact HKK.out W hW
            have HG5 : Hid (∀ W, Below w5.heap.size w5 W → W.rowIs bh 3 o (fun j => .int .i64 (g j))) := fun W hW => hg5.of_block (hW.block bh hg5.lt)
            have HF5 : Hid (∀ W, Below w5.heap.size w5 W → W.rowIs bl 3 o (fun j => .int .i64 (updZ f k (l9 + z * q) j))) := fun W hW => hf5.of_block (hW.block bl hf5.lt)
            have HQW : Hid (∀ W, Below w5.heap.size w5 W → W.heap[bb]? = W2.heap[bb]?) := fun W hW => (hW.block bb (Array.getElem?_eq_some_iff.1 hrb5).1).trans HQ5.out
            have hz5 : w.heap.size + 2 ≤ w5.heap.size := by have := hf5.lt; omega
            clear hf5 hg5 hrb5
            have B5d : Below w5.heap.size w5 w5.drew := Below.drew (Below.refl _ _)
            go_region_held3 (fun W => (W.cell? ⟨bb, 0, none⟩ = some (.slice (some ⟨bl, 0, none⟩) o o) ∧ W.cell? ⟨bb, 1, none⟩ = some (.slice (some ⟨bh, 0, none⟩) o o) ∧ W.cell? ⟨bl, k, none⟩ = some (.int .i64 (l9 + z * q))) ∧ W.cell? ⟨bd, od + k * 3, none⟩ = some (.string s0) ∧ W.cell? ⟨bd, od + k * 3 + 1, none⟩ = some (.int .i64 l9) ∧ W.cell? ⟨bd, od + k * 3 + 2, none⟩ = some (.int .i64 h9))
              (first | exact HKS.out _ _ B6 | exact HKK.out _ B6 | exact HKK.out _ B5d | exact HKK.out _ (Below.refl _ _))
              (first
                | (go_at_call 72; refine (HLLk.out _).mono ?_; rintro e w6 ⟨rfl, hb6⟩; have B6 : Below w5.heap.size w5 w6 := st B5d hb6; have hS6 := (HG5.out _ B6).cell (i := k) (by omega); have hZ6 := (HG5.out _ B6).frozen k))
            all_goals
              go_wp2_with fail
              have hX : (if hl < l9 + z * q + q - 1 then hl else l9 + z * q + q - 1) = coreHi lo hi sd c k := by
                rw [HE2.out]
                split <;> omega
              first | rw [hX] | rw [← HE2.out]
              refine ⟨⟨k + 1, updZ f k (l9 + z * q), updZ g k (coreHi lo hi sd c k), by omega, by go_num, HTn.out, (HF5.out _ B6).setOther (by show bl ≠ bh; omega) _, set_int (HG5.out _ B6) k _ _ rfl, fun j hj => ?_, (blk_setCell_other _ _ _ _ (by show bb ≠ bh; omega)).trans (HQW.out _ B6), (st HB5.out B6).setCell (by show w.heap.size ≤ bh; omega) _, (HB05.out.trans (B6.mono hz5)).setCell (by show w.heap.size + 2 ≤ bh; omega) _⟩, by simp [intOf]; omega⟩
              by_cases e : j = k
              · subst e
                exact ⟨by rw [updZ, if_pos rfl, HE1.out], by rw [updZ, if_pos rfl]⟩
              · rw [updZ, if_neg e, updZ, if_neg e]
                exact HV.out j (by omega)
        · by_cases hneg : c k < 0
          · generalize lcZ (lo k) (hi k) (sd k) = LC at *
            generalize lastZ (hi k) = hl at *
            generalize nm k = s0 at *
            generalize lo k = l9 at *
            generalize hi k = h9 at *
            generalize c k = z at *
            generalize sd k = q at *
            obtain ⟨f1, f2, f3, f4, f5, f6, f7, f8, f9, f10⟩ := hfk
            have r1 : decide (z < 0) = true := decide_eq_true hneg
            go_wp2_with fail
            go_quiet (fail)
            have HBq : Hid (Below w.heap.size w (wr.drewN nq)) := drewB HBw.out _
            have HB0q : Hid (Below (w.heap.size + 2) W0 (wr.drewN nq)) := drewB HB0w.out _
            generalize wr.drewN nq = wq at *
            have hres := (KB2.out wq HB0q.out).2
            obtain ⟨r0, r9, z0, z1⟩ := box_at hres
            have HBX : Hid (Below w.heap.size w wq) := HBq.out
            clear y0 c0 c1 c2 b0 b1
            go_wp2
            refine bodyPost_ret (v := .tuple #[BoxV none none 0 0 0 0, .int .i64 3]) (res_cell_tmp Tryz.results26 _ _ (w.heap.size + 1) 66 _ (0, 0) _ rfl (put2 hres _ _) Tryz.underlying66 rfl (by rw [info_box]; rfl)) rfl ?_
            exact ⟨rfl, (HBX.out.setCell (p := ⟨w.heap.size + 1, 0, none⟩) (by show w.heap.size ≤ w.heap.size + 1; omega) _).setCell (p := ⟨w.heap.size + 1, 1, none⟩) (by show w.heap.size ≤ w.heap.size + 1; omega) _⟩
          · have hfar : lcZ (lo k) (hi k) (sd k) < c k := by omega
            have HLk := Lib.hid (fun W => HLC.out (nm k) (lo k) (hi k) (sd k) W hfk.1 hfk.2.2.1 hfk.2.1 hfk.2.2.2.2.2.1 hfk.2.2.2.2.2.2.1)
            generalize lcZ (lo k) (hi k) (sd k) = LC at *
            generalize lastZ (hi k) = hl at *
            generalize nm k = s0 at *
            generalize lo k = l9 at *
            generalize hi k = h9 at *
            generalize c k = z at *
            generalize sd k = q at *
            obtain ⟨f1, f2, f3, f4, f5, f6, f7, f8, f9, f10⟩ := hfk
            have r1 : decide (z < 0) = ltC z 0 := rfl
            have a1 : ltC z 0 = false := decide_eq_false (by omega)
            have r2 : decide (LC < z) = true := decide_eq_true hfar
            go_wp2_with fail
            have B0d : Below wr.heap.size wr wr.drew := Below.drew (Below.refl _ _)
            go_region_held3 (fun W => W.cell? ⟨bx, ox + k, none⟩ = some (.int .i64 z) ∧ W.cell? ⟨bd, od + k * 3, none⟩ = some (.string s0) ∧ W.cell? ⟨bd, od + k * 3 + 1, none⟩ = some (.int .i64 l9) ∧ W.cell? ⟨bd, od + k * 3 + 2, none⟩ = some (.int .i64 h9))
              (first | exact HCC.out _ (st HBw.out B1) | exact HCC.out _ (st HBw.out B0d) | exact HCC.out _ HBw.out)
              (first
                | (go_at_call 67; refine (HLk.out _).mono ?_; rintro e w3 ⟨rfl, hb3⟩; have B1 : Below wr.heap.size wr w3 := st B0d hb3))
            all_goals
              have HB3q : Hid (Below w.heap.size w w3) := st HBw.out B1
              have HB03 : Hid (Below (w.heap.size + 2) W0 w3) := HB0w.out.trans (B1.mono (by have := hf1.lt; have := HNE.out; omega))
              have hres := (KB2.out w3 HB03.out).2
              obtain ⟨r0, r9, z0, z1⟩ := box_at hres
              have HBX : Hid (Below w.heap.size w w3) := HB3q.out
              clear y0 c0 c1 c2 b0 b1
              go_wp2
              refine bodyPost_ret (v := .tuple #[BoxV none none 0 0 0 0, .int .i64 3]) (res_cell_tmp Tryz.results26 _ _ (w.heap.size + 1) 66 _ (0, 0) _ rfl (put2 hres _ _) Tryz.underlying66 rfl (by rw [info_box]; rfl)) rfl ?_
              exact ⟨rfl, (HBX.out.setCell (p := ⟨w.heap.size + 1, 0, none⟩) (by show w.heap.size ≤ w.heap.size + 1; omega) _).setCell (p := ⟨w.heap.size + 1, 1, none⟩) (by show w.heap.size ≤ w.heap.size + 1; omega) _⟩
      · obtain rfl : k = o := by omega
        exact absurd (HT.out.symm.trans HI.out) (by decide)
  have KEY := Lib.hid key
  clear key
  go_region_held3 (fun W => True)
    (first | exact trivial)
    (first | fail)
  all_goals
    obtain ⟨q0, q1, q2, q3⟩ := al3 w1 _ _ _
    first
    | exact KEY.out _ _ _ _ (row_made q0) (row_made q1) q2 q3 (by omega)
    | exact KEY.out _ _ _ _ (row_made q1) (row_made q0) q2 q3 (by omega)
    | exact KEY.out _ _ _ _ (row_made q0) (row_made q2) q1 q3 (by omega)
    | exact KEY.out _ _ _ _ (row_made q2) (row_made q0) q1 q3 (by omega)
    | exact KEY.out _ _ _ _ (row_made q1) (row_made q2) q0 q3 (by omega)
    | exact KEY.out _ _ _ _ (row_made q2) (row_made q1) q0 q3 (by omega)
end Go.Proofs.YthmnmologmmeaaaGreatDoor

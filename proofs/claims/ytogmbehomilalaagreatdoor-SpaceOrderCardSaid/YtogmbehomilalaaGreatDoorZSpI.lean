/- The box of a chunk with its overlap. -/
import Derived.Test.YtogmbehomilalaaGreatDoorZSpH
import Derived.Test.YtogmbehomilalaaGreatDoorZSplit
namespace Go.Proofs.YtogmbehomilalaaGreatDoor
open Go Go.RowKit Go.Deep

def wideLo (lo sd ov c : Nat → Int) (k : Nat) : Int := max (lo k + c k * sd k - ov k) (lo k)
def wideHi (lo hi sd ov c : Nat → Int) (k : Nat) : Int := min (coreHi lo hi sd c k + ov k) (lastZ (hi k))

set_option maxRecDepth 100000 in
set_option maxHeartbeats 4000000 in
theorem s_Wide (w : World) (A S O X : Option Addr) (n cap s sc o oc m mc : Nat) (nm : Nat → ByteArray) (lo hi sd ov c : Nat → Int) (ord tile form codec : Int) (hd : DimsAt w A n nm lo hi) (hs : IntsAt w S s sd) (ho : IntsAt w O o ov) (hx : IntsAt w X m c) (hs1 : s ≤ 1000) (ho1 : o ≤ 1000) (hn1 : n ≤ 1000) (hm1 : m ≤ 1000)
    (he : coreE nm lo hi n sd ov s o ord tile form codec c m = 0) :
    Calls Tryz.prog 23 #[.slice A n cap, LayV S s sc O o oc ord tile form codec, .slice X m mc] w fun e w' => ∃ b b2, e = .returned (.tuple #[BoxV (some ⟨b, 0, none⟩) (some ⟨b2, 0, none⟩) n n n n, .int .i64 0]) ∧ w.heap.size ≤ b ∧ w.heap.size ≤ b2 ∧ b ≠ b2 ∧ w'.rowIs b 3 n (fun k => .int .i64 (wideLo lo sd ov c k)) ∧ w'.rowIs b2 3 n (fun k => .int .i64 (wideHi lo hi sd ov c k)) ∧ Below w.heap.size w w' := by
  have KB := Lib.hid (lay_box w S O s sc o oc ord tile form codec)
  have HB : Hid (Below w.heap.size w (w.alloc (.cells #[.slice S s sc, .slice O o oc, .int .i64 ord, .int .i64 tile, .int .i64 form, .int .i64 codec] 43))) := (Below.refl _ _).alloc (Nat.le_refl _) _
  have HC := Lib.hid (fun W h1 h2 h3 h4 => s_Core W A S O X n cap s sc o oc m mc nm lo hi sd ov c ord tile form codec h1 h2 h3 h4 hs1 ho1 hn1 hm1 he)
  have HLL := Lib.hid s_last
  obtain ⟨h0, rfl, h2⟩ := core_zero he
  obtain ⟨rfl, rfl, _, hn4, hf⟩ := lay_facts h0
  have HF := Lib.hid hf
  have HI := Lib.hid (cinTo_ok h2)
  have HD := Lib.hid hd
  have HS := Lib.hid hs
  have HO := Lib.hid ho
  have HX := Lib.hid hx
  clear hd hs ho hx he h0 h2 hf
  go_enter Tryz.func23, Tryz.ntmps23
  go_wp2_with fail
  have hz0 : ((w.alloc (.cells #[.slice S o sc, .slice O o oc, .int .i64 ord, .int .i64 tile, .int .i64 form, .int .i64 codec] 43)).alloc (.cells #[.slice none 0 0, .slice none 0 0] 45)).heap.size = w.heap.size + 2 := by simp
  have KB2 : Hid (∀ W, Below (w.heap.size + 2) ((w.alloc (.cells #[.slice S o sc, .slice O o oc, .int .i64 ord, .int .i64 tile, .int .i64 form, .int .i64 codec] 43)).alloc (.cells #[.slice none 0 0, .slice none 0 0] 45)) W → (W.cell? ⟨w.heap.size, 0, none⟩ = some (.slice S o sc) ∧ W.cell? ⟨w.heap.size, 1, none⟩ = some (.slice O o oc)) ∧ W.heap[w.heap.size + 1]? = some (.cells #[.slice none 0 0, .slice none 0 0] 45 (0, 0))) := fun W hW => by
    have k1 := KB.out W (Below.trans ((Below.refl _ _).alloc (Nat.le_refl _) _) (hW.mono (by simp)))
    refine ⟨⟨k1.1, k1.2.1⟩, ?_⟩
    have h9 := heap_alloc_new (w.alloc (.cells #[.slice S o sc, .slice O o oc, .int .i64 ord, .int .i64 tile, .int .i64 form, .int .i64 codec] 43)) (.cells #[.slice none 0 0, .slice none 0 0] 45)
    rw [World.size_alloc] at h9
    exact (hW.block _ (by omega)).trans h9
  have HB2 : Hid (Below w.heap.size w ((w.alloc (.cells #[.slice S o sc, .slice O o oc, .int .i64 ord, .int .i64 tile, .int .i64 form, .int .i64 codec] 43)).alloc (.cells #[.slice none 0 0, .slice none 0 0] 45))) := HB.out.alloc (by simp) _
  clear KB HB
  generalize (w.alloc (.cells #[.slice S o sc, .slice O o oc, .int .i64 ord, .int .i64 tile, .int .i64 form, .int .i64 codec] 43)).alloc (.cells #[.slice none 0 0, .slice none 0 0] 45) = W0 at *
  refine (HC.out _ (HD.out.below HB2.out) (HS.out.below HB2.out) (HO.out.below HB2.out) (HX.out.below HB2.out)).mono ?_
  rintro e w1 ⟨bl, bh, rfl, g1, g2, gne, r1, r2, hb1⟩
  rw [hz0] at g1 g2
  have HB1 : Hid (Below w.heap.size w w1) := st HB2.out hb1
  have HB01 : Hid (Below (w.heap.size + 2) W0 w1) := by show Below _ _ _; rw [← hz0]; exact hb1
  have hz1 : w.heap.size + 2 ≤ w1.heap.size := by rw [← hz0]; exact hb1.size
  clear hb1 HC
  have KB3 := Lib.hid (KB2.out)
  have HB21 : Hid (Below (w.heap.size + 2) W0 (w1.alloc (.cells #[.slice (some ⟨bl, 0, none⟩) o o, .slice (some ⟨bh, 0, none⟩) o o] 45))) := HB01.out.alloc hz1 _
  have HBX : Hid (Below w.heap.size w (w1.alloc (.cells #[.slice (some ⟨bl, 0, none⟩) o o, .slice (some ⟨bh, 0, none⟩) o o] 45))) := HB1.out.alloc (by omega) _
  have hbb : (w1.alloc (.cells #[.slice (some ⟨bl, 0, none⟩) o o, .slice (some ⟨bh, 0, none⟩) o o] 45)).heap[w1.heap.size]? = some (.cells #[.slice (some ⟨bl, 0, none⟩) o o, .slice (some ⟨bh, 0, none⟩) o o] 45 (0, 0)) := heap_alloc_new _ _
  have q1 : (w1.alloc (.cells #[.slice (some ⟨bl, 0, none⟩) o o, .slice (some ⟨bh, 0, none⟩) o o] 45)).rowIs bl 3 o (fun k => .int .i64 (coreLo lo sd c k)) := r1.of_block (Below.heap_alloc _ _ _ r1.lt)
  have q2 : (w1.alloc (.cells #[.slice (some ⟨bl, 0, none⟩) o o, .slice (some ⟨bh, 0, none⟩) o o] 45)).rowIs bh 3 o (fun k => .int .i64 (coreHi lo hi sd c k)) := r2.of_block (Below.heap_alloc _ _ _ r2.lt)
  have n1 := r1.lt
  have n2 := r2.lt
  have l1 := (KB2.out (w1.alloc (.cells #[.slice (some ⟨bl, 0, none⟩) o o, .slice (some ⟨bh, 0, none⟩) o o] 45)) HB21.out).1.2
  clear r1 r2 HB01 HB1
  generalize hbe : w1.heap.size = bb at *
  go_wp2_with fail
  rw [hbe] at *
  generalize (w1.alloc (.cells #[.slice (some ⟨bl, 0, none⟩) o o, .slice (some ⟨bh, 0, none⟩) o o] 45)) = W2 at *
  have HRB2 := Lib.hid hbb
  have HHD := Lib.hid (HD.out.below HBX.out)
  have hbbl : bb < W2.heap.size := (Array.getElem?_eq_some_iff.1 hbb).1
  go_loopw [10, 11, 26] (fun _ _ i wr => ∃ (k : Nat) (f g : Nat → Int), k ≤ o ∧ i = .int .i64 k ∧ wr.rowIs bl 3 o (fun j => .int .i64 (f j)) ∧ wr.rowIs bh 3 o (fun j => .int .i64 (g j)) ∧ Hid (∀ j, j < o → (j < k → f j = wideLo lo sd ov c j ∧ g j = wideHi lo hi sd ov c j) ∧ (k ≤ j → f j = coreLo lo sd c j ∧ g j = coreHi lo hi sd c j)) ∧ Hid (wr.heap[bb]? = W2.heap[bb]?) ∧ Hid (Below w.heap.size w wr) ∧ Hid (Below (w.heap.size + 2) W0 wr)) (fun _ _ i _ => o - (intOf i).toNat)
  case atStart => exact ⟨0, coreLo lo sd c, coreHi lo hi sd c, Nat.zero_le _, rfl, q1, q2, fun j hj => ⟨fun h => absurd h (by omega), fun _ => ⟨rfl, rfl⟩⟩, rfl, HBX.out, HB21.out⟩
  case round =>
    obtain ⟨k, f, g, hk, rfl, hf1, hg1, HV, HQ, HBw, HB0w⟩ := hrel
    have hrb := HQ.out.trans HRB2.out
    have b0 : wr.cell? ⟨bb, 0, none⟩ = some (.slice (some ⟨bl, 0, none⟩) o o) := by rw [cell_of_row _ _ _ _ _ _ hrb]; rfl
    have b1 : wr.cell? ⟨bb, 1, none⟩ = some (.slice (some ⟨bh, 0, none⟩) o o) := by rw [cell_of_row _ _ _ _ _ _ hrb]; rfl
    by_cases hlt : k < o
    · obtain ⟨bd, od, rfl, hbd, hc⟩ := HD.out (by omega)
      obtain ⟨d0, d1, d2⟩ := hc k hlt
      clear hc
      obtain ⟨bs, os, rfl, hbs, hcs⟩ := HO.out (by omega)
      have x0 := hcs k hlt
      clear hcs
      have HCC : Hid (∀ W, Below w.heap.size w W → W.cell? ⟨bs, os + k, none⟩ = some (.int .i64 (ov k)) ∧ W.cell? ⟨bd, od + k * 3, none⟩ = some (.string (nm k)) ∧ W.cell? ⟨bd, od + k * 3 + 1, none⟩ = some (.int .i64 (lo k)) ∧ W.cell? ⟨bd, od + k * 3 + 2, none⟩ = some (.int .i64 (hi k))) := fun W hW =>
        ⟨(hW.cell (p := ⟨bs, os + k, none⟩) hbs).trans x0, (hW.cell (p := ⟨bd, od + k * 3, none⟩) hbd).trans d0, (hW.cell (p := ⟨bd, od + k * 3 + 1, none⟩) hbd).trans d1, (hW.cell (p := ⟨bd, od + k * 3 + 2, none⟩) hbd).trans d2⟩
      obtain ⟨y0, c0, c1, c2⟩ := HCC.out wr HBw.out
      clear x0 d0 d1 d2 hbs
      have hfk := HF.out k hlt
      have hik := HI.out k hlt
      have hmc := mul_chunk (c := c k) (s := sd k) (L := lastZ (hi k) - lo k) hik.1 hik.2 hfk.2.2.2.2.2.1
      have HLLk := Lib.hid (fun W => HLL.out (nm k) (lo k) (hi k) W)
      obtain ⟨hfc, hgc⟩ := (HV.out k hlt).2 (Nat.le_refl _)
      have hp : coreLo lo sd c k = lo k + c k * sd k := rfl
      have hr : coreHi lo hi sd c k = min (lo k + c k * sd k + sd k - 1) (lastZ (hi k)) := rfl
      have HE1 : Hid (wideLo lo sd ov c k = max (coreLo lo sd c k - ov k) (lo k)) := rfl
      have HE2 : Hid (wideHi lo hi sd ov c k = min (coreHi lo hi sd c k + ov k) (lastZ (hi k))) := rfl
      have bp : lo k ≤ coreLo lo sd c k ∧ coreLo lo sd c k ≤ lastZ (hi k) ∧ lo k ≤ coreHi lo hi sd c k ∧ coreHi lo hi sd c k ≤ lastZ (hi k) := by rw [hp, hr]; omega
      clear hmc hp hr hik
      generalize lastZ (hi k) = hl at *
      generalize coreLo lo sd c k = p at *
      generalize coreHi lo hi sd c k = r at *
      generalize nm k = s0 at *
      generalize lo k = l9 at *
      generalize hi k = h9 at *
      generalize ov k = y at *
      obtain ⟨f1, f2, f3, f4, f5, f6, f7, f8, f9, f10⟩ := hfk
      obtain ⟨p1, p2, p3, p4⟩ := bp
      have hS := hf1.cell (i := k) (by omega)
      rw [hfc] at hS
      have hZ := hf1.frozen k
      have hne : bh ≠ bl := fun h => gne h.symm
      go_wp2_with fail
      go_still_tail 17, (by kernel_rfl)
      change wpList _ _ _ _ _ wr.drew
      have hf4 : wr.drew.rowIs bl 3 o (fun j => .int .i64 (f j)) := hf1
      have hg4 : wr.drew.rowIs bh 3 o (fun j => .int .i64 (g j)) := hg1
      have hrb4 : wr.drew.heap[bb]? = some (.cells #[.slice (some ⟨bl, 0, none⟩) o o, .slice (some ⟨bh, 0, none⟩) o o] 45 (0, 0)) := hrb
      have HB4 : Hid (Below wr.heap.size wr wr.drew) := Below.drew (Below.refl _ _)
      clear hf1 hg1 hrb b0 b1 c0 c1 c2 y0 hS hZ
      generalize hw4 : wr.drew = w4 at *
      obtain ⟨y0, c0, c1, c2⟩ := HCC.out w4 (st HBw.out HB4.out)
      have hS := hf4.cell (i := k) (by omega)
      rw [hfc] at hS
      have hZ := hf4.frozen k
      clear hw4
      have b0 : w4.cell? ⟨bb, 0, none⟩ = some (.slice (some ⟨bl, 0, none⟩) o o) := by rw [cell_of_row _ _ _ _ _ _ hrb4]; rfl
      have hX : (if p - y < l9 then l9 else p - y) = wideLo lo sd ov c k := by
        rw [HE1.out]
        split <;> omega
      have hSZ : w.heap.size + 2 ≤ wr.heap.size := by have := HB0w.out.size; have := HB21.out.size; omega
      by_cases g0 : p - y < l9
      · have hw : IntKind.i64.wrap (p - y) = p - y := w64 (by omega) (by omega)
        go_wp2_with fail
        clear hw
        have hf5 := set_int hf4 k (l9) _ rfl
        have hg5 := hg4.setOther (a := ⟨bl, k, none⟩) (by show bh ≠ bl; exact hne) (.int .i64 (l9))
        have hrb5 : (w4.setCell ⟨bl, k, none⟩ (.int .i64 (l9))).heap[bb]? = some (.cells #[.slice (some ⟨bl, 0, none⟩) o o, .slice (some ⟨bh, 0, none⟩) o o] 45 (0, 0)) := (blk_setCell_other _ _ _ _ (by show bb ≠ bl; omega)).trans hrb4
        have HB5 : Hid (Below w.heap.size w (w4.setCell ⟨bl, k, none⟩ (.int .i64 (l9)))) := (st HBw.out HB4.out).setCell (by show w.heap.size ≤ bl; omega) _
        have HB05 : Hid (Below (w.heap.size + 2) W0 (w4.setCell ⟨bl, k, none⟩ (.int .i64 (l9)))) := (HB0w.out.trans (HB4.out.mono (by have := HBw.out.size; have := (Array.getElem?_eq_some_iff.1 hrb4).1; have := hSZ; omega))).setCell (by show w.heap.size + 2 ≤ bl; omega) _
        have HQ5 : Hid ((w4.setCell ⟨bl, k, none⟩ (.int .i64 (l9))).heap[bb]? = W2.heap[bb]?) := hrb5.trans HRB2.out.symm
        clear hf4 hg4 hrb4 y0 c0 c1 c2 hS hZ HB4 b0
        generalize w4.setCell ⟨bl, k, none⟩ (.int .i64 (l9)) = w5 at *
        have hvk : l9 = wideLo lo sd ov c k := by rw [← hX]; exact (if_pos g0).symm
        rw [hvk] at hf5
        clear hvk hX
        have HG : Hid (∀ W, Below w5.heap.size w5 W → (W.cell? ⟨bb, 0, none⟩ = some (.slice (some ⟨bl, 0, none⟩) o o) ∧ W.cell? ⟨bb, 1, none⟩ = some (.slice (some ⟨bh, 0, none⟩) o o) ∧ W.cell? ⟨bh, k, none⟩ = some (.int .i64 r)) ∧ W.cell? ⟨bd, od + k * 3, none⟩ = some (.string s0) ∧ W.cell? ⟨bd, od + k * 3 + 1, none⟩ = some (.int .i64 l9) ∧ W.cell? ⟨bd, od + k * 3 + 2, none⟩ = some (.int .i64 h9)) := fun W hW => by
          obtain ⟨-, g2, g3, g4⟩ := HCC.out W (st HB5.out hW)
          have g5 := (hW.block bb (Array.getElem?_eq_some_iff.1 hrb5).1).trans hrb5
          refine ⟨⟨?_, ?_, ?_⟩, g2, g3, g4⟩
          · rw [cell_of_row _ _ _ _ _ _ g5]; rfl
          · rw [cell_of_row _ _ _ _ _ _ g5]; rfl
          · rw [(hg5.of_block (hW.block bh hg5.lt)).cell (i := k) (by omega), hgc]
        have hbdb : bd ≠ bh := by
          have h1 := cell_lt' (HCC.out w (Below.refl _ _)).2.1
          omega
        have HKS : Hid (∀ W u, Below w5.heap.size w5 W → ((W.setCell ⟨bh, k, none⟩ u).cell? ⟨bb, 0, none⟩ = some (.slice (some ⟨bl, 0, none⟩) o o) ∧ (W.setCell ⟨bh, k, none⟩ u).cell? ⟨bb, 1, none⟩ = some (.slice (some ⟨bh, 0, none⟩) o o)) ∧ (W.setCell ⟨bh, k, none⟩ u).cell? ⟨bd, od + k * 3, none⟩ = some (.string s0) ∧ (W.setCell ⟨bh, k, none⟩ u).cell? ⟨bd, od + k * 3 + 1, none⟩ = some (.int .i64 l9) ∧ (W.setCell ⟨bh, k, none⟩ u).cell? ⟨bd, od + k * 3 + 2, none⟩ = some (.int .i64 h9)) := fun W u hW => by
          have hs := fun b (hb : b ≠ bh) => blk_setCell_other W ⟨bh, k, none⟩ u b hb
          rw [cell_blk (hs bb (by omega)), cell_blk (hs bb (by omega)), cell_blk (hs bd hbdb), cell_blk (hs bd hbdb), cell_blk (hs bd hbdb)]
          exact ⟨⟨(HG.out W hW).1.1, (HG.out W hW).1.2.1⟩, (HG.out W hW).2⟩
        have HG5 : Hid (∀ W, Below w5.heap.size w5 W → W.rowIs bh 3 o (fun j => .int .i64 (g j))) := fun W hW => hg5.of_block (hW.block bh hg5.lt)
        have HF5 : Hid (∀ W, Below w5.heap.size w5 W → W.rowIs bl 3 o (fun j => .int .i64 (updZ f k (wideLo lo sd ov c k) j))) := fun W hW => hf5.of_block (hW.block bl hf5.lt)
        have HQW : Hid (∀ W, Below w5.heap.size w5 W → W.heap[bb]? = W2.heap[bb]?) := fun W hW => (hW.block bb (Array.getElem?_eq_some_iff.1 hrb5).1).trans HQ5.out
        have hz5 : w.heap.size + 2 ≤ w5.heap.size := by have := (Array.getElem?_eq_some_iff.1 hrb5).1; omega
        clear hf5 hg5 hrb5
        have B5d : Below w5.heap.size w5 w5.drew := Below.drew (Below.refl _ _)
        have hq0 := (HG.out _ B5d).1.2.2
        have hHeld := HG.out _ B5d
        refine RW.wp_region_last (n1 := 17) (fun W : World => (W.cell? ⟨bb, 0, none⟩ = some (.slice (some ⟨bl, 0, none⟩) o o) ∧ W.cell? ⟨bb, 1, none⟩ = some (.slice (some ⟨bh, 0, none⟩) o o) ∧ W.cell? ⟨bh, k, none⟩ = some (.int .i64 r)) ∧ W.cell? ⟨bd, od + k * 3, none⟩ = some (.string s0) ∧ W.cell? ⟨bd, od + k * 3 + 1, none⟩ = some (.int .i64 l9) ∧ W.cell? ⟨bd, od + k * 3 + 2, none⟩ = some (.int .i64 h9)) (by kernel_rfl) rfl rfl rfl (by kernel_rfl) (by kernel_rfl) (by kernel_rfl) ?_
        simp only [List.extract_toArray, List.extract_eq_take_drop, List.drop_zero, Nat.sub_zero, List.take_succ_cons, List.take_zero]
        refine RW.take_slot (i := 0) (d := 48) (v := ?_) rfl rfl (by kernel_rfl) (by kernel_rfl) (by kernel_rfl) (fun _ _ _ h => h) (by rfl) ?_ hHeld ?_
        rotate_left
        · intro w hSw; try dsimp only at hSw
          go_simp; try with_reducible rfl
        simp only [List.setIfInBounds_toArray, List.set_cons_zero, List.set_cons_succ]
        refine RW.take_slot (i := 1) (d := 49) (v := ?_) rfl rfl (by kernel_rfl) (by kernel_rfl) (by kernel_rfl) (fun _ _ _ h => h) (by rfl) ?_ hHeld ?_
        rotate_left
        · intro w hSw; try dsimp only at hSw
          go_simp; try with_reducible rfl
        simp only [List.setIfInBounds_toArray, List.set_cons_zero, List.set_cons_succ]
        refine RW.take_slot (i := 2) (d := 50) (v := ?_) rfl rfl (by kernel_rfl) (by kernel_rfl) (by kernel_rfl) (fun _ _ _ h => h) (by rfl) ?_ hHeld ?_
        rotate_left
        · intro w hSw; try dsimp only at hSw
          go_simp; try with_reducible rfl
        simp only [List.setIfInBounds_toArray, List.set_cons_zero, List.set_cons_succ]
        refine RW.take_slot (i := 3) (d := 51) (v := ?_) rfl rfl (by kernel_rfl) (by kernel_rfl) (by kernel_rfl) (fun _ _ _ h => h) (by rfl) ?_ hHeld ?_
        rotate_left
        · intro w hSw; try dsimp only at hSw
          go_simp; try with_reducible rfl
        simp only [List.setIfInBounds_toArray, List.set_cons_zero, List.set_cons_succ]
        refine RW.take_slot (i := 4) (d := 52) (v := ?_) rfl rfl (by kernel_rfl) (by kernel_rfl) (by kernel_rfl) (fun _ _ _ h => h) (by rfl) ?_ hHeld ?_
        rotate_left
        · intro w hSw; try dsimp only at hSw
          go_simp; try with_reducible rfl
        simp only [List.setIfInBounds_toArray, List.set_cons_zero, List.set_cons_succ]
        refine RW.take_slot (i := 5) (d := 53) (v := ?_) rfl rfl (by kernel_rfl) (by kernel_rfl) (by kernel_rfl) (fun _ _ _ h => h) (by rfl) ?_ hHeld ?_
        rotate_left
        · intro w hSw; try dsimp only at hSw
          go_simp; try with_reducible rfl
        simp only [List.setIfInBounds_toArray, List.set_cons_zero, List.set_cons_succ]
        refine RW.take_slot (i := 6) (d := 54) (v := ?_) rfl rfl (by kernel_rfl) (by kernel_rfl) (by kernel_rfl) (fun _ _ _ h => h) (by rfl) ?_ hHeld ?_
        rotate_left
        · intro w hSw; try dsimp only at hSw
          go_simp; try with_reducible rfl
        simp only [List.setIfInBounds_toArray, List.set_cons_zero, List.set_cons_succ]
        refine RW.take_slot (i := 7) (d := 55) (v := ?_) rfl rfl (by kernel_rfl) (by kernel_rfl) (by kernel_rfl) (fun _ _ _ h => h) (by rfl) ?_ hHeld ?_
        rotate_left
        · intro w hSw; try dsimp only at hSw
          go_simp; try with_reducible rfl
        simp only [List.setIfInBounds_toArray, List.set_cons_zero, List.set_cons_succ]
        refine RW.take_slot (i := 8) (d := 56) (v := ?_) rfl rfl (by kernel_rfl) (by kernel_rfl) (by kernel_rfl) (fun _ _ _ h => h) (by rfl) ?_ hHeld ?_
        rotate_left
        · intro w hSw; try dsimp only at hSw
          go_simp; try with_reducible rfl
        simp only [List.setIfInBounds_toArray, List.set_cons_zero, List.set_cons_succ]
        refine RW.take_slot (i := 9) (d := 57) (v := ?_) rfl rfl (by kernel_rfl) (by kernel_rfl) (by kernel_rfl) (fun _ _ _ h => h) (by rfl) ?_ hHeld ?_
        rotate_left
        · intro w hSw; try dsimp only at hSw
          go_simp; try with_reducible rfl
        simp only [List.setIfInBounds_toArray, List.set_cons_zero, List.set_cons_succ]
        refine RW.take_slot (i := 10) (d := 58) (v := ?_) rfl rfl (by kernel_rfl) (by kernel_rfl) (by kernel_rfl) (fun _ _ _ h => h) (by rfl) ?_ hHeld ?_
        rotate_left
        · intro w hSw; try dsimp only at hSw
          go_simp; try with_reducible rfl
        simp only [List.setIfInBounds_toArray, List.set_cons_zero, List.set_cons_succ]
        refine RW.take_slot (i := 11) (d := 59) (v := ?_) rfl rfl (by kernel_rfl) (by kernel_rfl) (by kernel_rfl) (fun _ _ _ h => h) (by rfl) ?_ hHeld ?_
        rotate_left
        · intro w hSw; try dsimp only at hSw
          go_simp; try with_reducible rfl
        simp only [List.setIfInBounds_toArray, List.set_cons_zero, List.set_cons_succ]
        refine RW.take_slot (i := 12) (d := 60) (v := ?_) rfl rfl (by kernel_rfl) (by kernel_rfl) (by kernel_rfl) (fun _ _ _ h => h) (by rfl) ?_ hHeld ?_
        rotate_left
        · intro w hSw; try dsimp only at hSw
          go_simp; try with_reducible rfl
        simp only [List.setIfInBounds_toArray, List.set_cons_zero, List.set_cons_succ]
        refine RW.take_slot (i := 13) (d := 61) (v := ?_) rfl rfl (by kernel_rfl) (by kernel_rfl) (by kernel_rfl) (fun _ _ _ h => h) (by rfl) ?_ hHeld ?_
        rotate_left
        · intro w hSw; try dsimp only at hSw
          go_simp; try with_reducible rfl
        simp only [List.setIfInBounds_toArray, List.set_cons_zero, List.set_cons_succ]
        refine wpAnyH_ready (rs := [14]) (by kernel_rfl) (by simp) (AllReadyH.cons rfl (fun K hK => ?_) AllReadyH.nil)
        rw [if_pos (by rfl)]
        go_simp
        go_at_call 62
        refine (HLLk.out _).mono ?_
        rintro e w6 ⟨rfl, hb6⟩
        have B6 : Below w5.heap.size w5 w6 := st B5d hb6
        have hS6 := (HG5.out _ B6).cell (i := k) (by omega)
        have hZ6 := (HG5.out _ B6).frozen k
        have hq6 := (HG.out _ B6).1.2.2
        refine hK.out _ _ (HG.out _ B6) (fun hHeld => ?_)
        try simp only [Act.put, List.setIfInBounds_toArray, List.set_cons_zero, List.set_cons_succ]
        have hX2 : (if hl < IntKind.i64.wrap (r + y) then hl else IntKind.i64.wrap (r + y)) = wideHi lo hi sd ov c k := by
          rw [w64 (n := r + y) (by omega) (by omega), HE2.out]
          split <;> omega
        refine wpAnyH_ready (rs := [15]) (by kernel_rfl) (by simp) (AllReadyH.cons rfl (fun K hK => ?_) AllReadyH.nil)
        rw [if_pos (by rfl)]
        go_simp
        refine hK.out _ _ (HG.out _ B6) (fun hHeld => ?_)
        try simp only [Act.put, List.setIfInBounds_toArray, List.set_cons_zero, List.set_cons_succ]
        refine RW.take_slot (i := 16) (d := 64) (v := ?_) rfl rfl (by kernel_rfl) (by kernel_rfl) (by kernel_rfl) (fun _ _ _ h => h) (by rfl) ?_ hHeld ?_
        rotate_left
        · intro w hSw; try dsimp only at hSw
          go_simp; try with_reducible rfl
        simp only [List.setIfInBounds_toArray, List.set_cons_zero, List.set_cons_succ]
        refine wpAnyH_done (by kernel_rfl) ?_ _
        intro K hK
        go_simp
        refine hK _ _ ?_
        clear hK K hHeld
        go_wp2_with fail
        have hX3 : (if hl < r + y then hl else r + y) = wideHi lo hi sd ov c k := by
          rw [HE2.out]
          split <;> omega
        refine ⟨⟨k + 1, updZ f k (wideLo lo sd ov c k), updZ g k (wideHi lo hi sd ov c k), by omega, by go_num, (HF5.out _ B6).setOther (by show bl ≠ bh; exact gne) _, set_int (HG5.out _ B6) k _ _ rfl, fun j hj => ⟨fun h9 => ?_, fun h9 => ?_⟩, (blk_setCell_other _ _ _ _ (by show bb ≠ bh; omega)).trans (HQW.out _ B6), (st HB5.out B6).setCell (by show w.heap.size ≤ bh; omega) _, (HB05.out.trans (B6.mono hz5)).setCell (by show w.heap.size + 2 ≤ bh; omega) _⟩, by simp [intOf]; omega⟩
        · by_cases e : j = k
          · subst e
            exact ⟨by rw [updZ, if_pos rfl], by rw [updZ, if_pos rfl]⟩
          · rw [updZ, if_neg e, updZ, if_neg e]
            exact (HV.out j hj).1 (by omega)
        · rw [updZ, if_neg (by omega), updZ, if_neg (by omega)]
          exact (HV.out j hj).2 (by omega)
      · have hw : IntKind.i64.wrap (p - y) = p - y := w64 (by omega) (by omega)
        go_wp2_with fail
        have hf5 := set_int hf4 k (p - y) _ rfl
        have hg5 := hg4.setOther (a := ⟨bl, k, none⟩) (by show bh ≠ bl; exact hne) (.int .i64 (p - y))
        have hrb5 : (w4.setCell ⟨bl, k, none⟩ (.int .i64 (p - y))).heap[bb]? = some (.cells #[.slice (some ⟨bl, 0, none⟩) o o, .slice (some ⟨bh, 0, none⟩) o o] 45 (0, 0)) := (blk_setCell_other _ _ _ _ (by show bb ≠ bl; omega)).trans hrb4
        have HB5 : Hid (Below w.heap.size w (w4.setCell ⟨bl, k, none⟩ (.int .i64 (p - y)))) := (st HBw.out HB4.out).setCell (by show w.heap.size ≤ bl; omega) _
        have HB05 : Hid (Below (w.heap.size + 2) W0 (w4.setCell ⟨bl, k, none⟩ (.int .i64 (p - y)))) := (HB0w.out.trans (HB4.out.mono (by have := HBw.out.size; have := (Array.getElem?_eq_some_iff.1 hrb4).1; have := hSZ; omega))).setCell (by show w.heap.size + 2 ≤ bl; omega) _
        have HQ5 : Hid ((w4.setCell ⟨bl, k, none⟩ (.int .i64 (p - y))).heap[bb]? = W2.heap[bb]?) := hrb5.trans HRB2.out.symm
        clear hf4 hg4 hrb4 y0 c0 c1 c2 hS hZ HB4 b0
        generalize w4.setCell ⟨bl, k, none⟩ (.int .i64 (p - y)) = w5 at *
        have hvk : p - y = wideLo lo sd ov c k := by rw [← hX]; rw [if_neg (by omega)]
        rw [hvk] at hf5
        clear hvk hX hw
        have HG : Hid (∀ W, Below w5.heap.size w5 W → (W.cell? ⟨bb, 0, none⟩ = some (.slice (some ⟨bl, 0, none⟩) o o) ∧ W.cell? ⟨bb, 1, none⟩ = some (.slice (some ⟨bh, 0, none⟩) o o) ∧ W.cell? ⟨bh, k, none⟩ = some (.int .i64 r)) ∧ W.cell? ⟨bd, od + k * 3, none⟩ = some (.string s0) ∧ W.cell? ⟨bd, od + k * 3 + 1, none⟩ = some (.int .i64 l9) ∧ W.cell? ⟨bd, od + k * 3 + 2, none⟩ = some (.int .i64 h9)) := fun W hW => by
          obtain ⟨-, g2, g3, g4⟩ := HCC.out W (st HB5.out hW)
          have g5 := (hW.block bb (Array.getElem?_eq_some_iff.1 hrb5).1).trans hrb5
          refine ⟨⟨?_, ?_, ?_⟩, g2, g3, g4⟩
          · rw [cell_of_row _ _ _ _ _ _ g5]; rfl
          · rw [cell_of_row _ _ _ _ _ _ g5]; rfl
          · rw [(hg5.of_block (hW.block bh hg5.lt)).cell (i := k) (by omega), hgc]
        have hbdb : bd ≠ bh := by
          have h1 := cell_lt' (HCC.out w (Below.refl _ _)).2.1
          omega
        have HKS : Hid (∀ W u, Below w5.heap.size w5 W → ((W.setCell ⟨bh, k, none⟩ u).cell? ⟨bb, 0, none⟩ = some (.slice (some ⟨bl, 0, none⟩) o o) ∧ (W.setCell ⟨bh, k, none⟩ u).cell? ⟨bb, 1, none⟩ = some (.slice (some ⟨bh, 0, none⟩) o o)) ∧ (W.setCell ⟨bh, k, none⟩ u).cell? ⟨bd, od + k * 3, none⟩ = some (.string s0) ∧ (W.setCell ⟨bh, k, none⟩ u).cell? ⟨bd, od + k * 3 + 1, none⟩ = some (.int .i64 l9) ∧ (W.setCell ⟨bh, k, none⟩ u).cell? ⟨bd, od + k * 3 + 2, none⟩ = some (.int .i64 h9)) := fun W u hW => by
          have hs := fun b (hb : b ≠ bh) => blk_setCell_other W ⟨bh, k, none⟩ u b hb
          rw [cell_blk (hs bb (by omega)), cell_blk (hs bb (by omega)), cell_blk (hs bd hbdb), cell_blk (hs bd hbdb), cell_blk (hs bd hbdb)]
          exact ⟨⟨(HG.out W hW).1.1, (HG.out W hW).1.2.1⟩, (HG.out W hW).2⟩
        have HG5 : Hid (∀ W, Below w5.heap.size w5 W → W.rowIs bh 3 o (fun j => .int .i64 (g j))) := fun W hW => hg5.of_block (hW.block bh hg5.lt)
        have HF5 : Hid (∀ W, Below w5.heap.size w5 W → W.rowIs bl 3 o (fun j => .int .i64 (updZ f k (wideLo lo sd ov c k) j))) := fun W hW => hf5.of_block (hW.block bl hf5.lt)
        have HQW : Hid (∀ W, Below w5.heap.size w5 W → W.heap[bb]? = W2.heap[bb]?) := fun W hW => (hW.block bb (Array.getElem?_eq_some_iff.1 hrb5).1).trans HQ5.out
        have hz5 : w.heap.size + 2 ≤ w5.heap.size := by have := (Array.getElem?_eq_some_iff.1 hrb5).1; omega
        clear hf5 hg5 hrb5
        have B5d : Below w5.heap.size w5 w5.drew := Below.drew (Below.refl _ _)
        have hq0 := (HG.out _ B5d).1.2.2
        have hHeld := HG.out _ B5d
        refine RW.wp_region_last (n1 := 17) (fun W : World => (W.cell? ⟨bb, 0, none⟩ = some (.slice (some ⟨bl, 0, none⟩) o o) ∧ W.cell? ⟨bb, 1, none⟩ = some (.slice (some ⟨bh, 0, none⟩) o o) ∧ W.cell? ⟨bh, k, none⟩ = some (.int .i64 r)) ∧ W.cell? ⟨bd, od + k * 3, none⟩ = some (.string s0) ∧ W.cell? ⟨bd, od + k * 3 + 1, none⟩ = some (.int .i64 l9) ∧ W.cell? ⟨bd, od + k * 3 + 2, none⟩ = some (.int .i64 h9)) (by kernel_rfl) rfl rfl rfl (by kernel_rfl) (by kernel_rfl) (by kernel_rfl) ?_
        simp only [List.extract_toArray, List.extract_eq_take_drop, List.drop_zero, Nat.sub_zero, List.take_succ_cons, List.take_zero]
        refine RW.take_slot (i := 0) (d := 48) (v := ?_) rfl rfl (by kernel_rfl) (by kernel_rfl) (by kernel_rfl) (fun _ _ _ h => h) (by rfl) ?_ hHeld ?_
        rotate_left
        · intro w hSw; try dsimp only at hSw
          go_simp; try with_reducible rfl
        simp only [List.setIfInBounds_toArray, List.set_cons_zero, List.set_cons_succ]
        refine RW.take_slot (i := 1) (d := 49) (v := ?_) rfl rfl (by kernel_rfl) (by kernel_rfl) (by kernel_rfl) (fun _ _ _ h => h) (by rfl) ?_ hHeld ?_
        rotate_left
        · intro w hSw; try dsimp only at hSw
          go_simp; try with_reducible rfl
        simp only [List.setIfInBounds_toArray, List.set_cons_zero, List.set_cons_succ]
        refine RW.take_slot (i := 2) (d := 50) (v := ?_) rfl rfl (by kernel_rfl) (by kernel_rfl) (by kernel_rfl) (fun _ _ _ h => h) (by rfl) ?_ hHeld ?_
        rotate_left
        · intro w hSw; try dsimp only at hSw
          go_simp; try with_reducible rfl
        simp only [List.setIfInBounds_toArray, List.set_cons_zero, List.set_cons_succ]
        refine RW.take_slot (i := 3) (d := 51) (v := ?_) rfl rfl (by kernel_rfl) (by kernel_rfl) (by kernel_rfl) (fun _ _ _ h => h) (by rfl) ?_ hHeld ?_
        rotate_left
        · intro w hSw; try dsimp only at hSw
          go_simp; try with_reducible rfl
        simp only [List.setIfInBounds_toArray, List.set_cons_zero, List.set_cons_succ]
        refine RW.take_slot (i := 4) (d := 52) (v := ?_) rfl rfl (by kernel_rfl) (by kernel_rfl) (by kernel_rfl) (fun _ _ _ h => h) (by rfl) ?_ hHeld ?_
        rotate_left
        · intro w hSw; try dsimp only at hSw
          go_simp; try with_reducible rfl
        simp only [List.setIfInBounds_toArray, List.set_cons_zero, List.set_cons_succ]
        refine RW.take_slot (i := 5) (d := 53) (v := ?_) rfl rfl (by kernel_rfl) (by kernel_rfl) (by kernel_rfl) (fun _ _ _ h => h) (by rfl) ?_ hHeld ?_
        rotate_left
        · intro w hSw; try dsimp only at hSw
          go_simp; try with_reducible rfl
        simp only [List.setIfInBounds_toArray, List.set_cons_zero, List.set_cons_succ]
        refine RW.take_slot (i := 6) (d := 54) (v := ?_) rfl rfl (by kernel_rfl) (by kernel_rfl) (by kernel_rfl) (fun _ _ _ h => h) (by rfl) ?_ hHeld ?_
        rotate_left
        · intro w hSw; try dsimp only at hSw
          go_simp; try with_reducible rfl
        simp only [List.setIfInBounds_toArray, List.set_cons_zero, List.set_cons_succ]
        refine RW.take_slot (i := 7) (d := 55) (v := ?_) rfl rfl (by kernel_rfl) (by kernel_rfl) (by kernel_rfl) (fun _ _ _ h => h) (by rfl) ?_ hHeld ?_
        rotate_left
        · intro w hSw; try dsimp only at hSw
          go_simp; try with_reducible rfl
        simp only [List.setIfInBounds_toArray, List.set_cons_zero, List.set_cons_succ]
        refine RW.take_slot (i := 8) (d := 56) (v := ?_) rfl rfl (by kernel_rfl) (by kernel_rfl) (by kernel_rfl) (fun _ _ _ h => h) (by rfl) ?_ hHeld ?_
        rotate_left
        · intro w hSw; try dsimp only at hSw
          go_simp; try with_reducible rfl
        simp only [List.setIfInBounds_toArray, List.set_cons_zero, List.set_cons_succ]
        refine RW.take_slot (i := 9) (d := 57) (v := ?_) rfl rfl (by kernel_rfl) (by kernel_rfl) (by kernel_rfl) (fun _ _ _ h => h) (by rfl) ?_ hHeld ?_
        rotate_left
        · intro w hSw; try dsimp only at hSw
          go_simp; try with_reducible rfl
        simp only [List.setIfInBounds_toArray, List.set_cons_zero, List.set_cons_succ]
        refine RW.take_slot (i := 10) (d := 58) (v := ?_) rfl rfl (by kernel_rfl) (by kernel_rfl) (by kernel_rfl) (fun _ _ _ h => h) (by rfl) ?_ hHeld ?_
        rotate_left
        · intro w hSw; try dsimp only at hSw
          go_simp; try with_reducible rfl
        simp only [List.setIfInBounds_toArray, List.set_cons_zero, List.set_cons_succ]
        refine RW.take_slot (i := 11) (d := 59) (v := ?_) rfl rfl (by kernel_rfl) (by kernel_rfl) (by kernel_rfl) (fun _ _ _ h => h) (by rfl) ?_ hHeld ?_
        rotate_left
        · intro w hSw; try dsimp only at hSw
          go_simp; try with_reducible rfl
        simp only [List.setIfInBounds_toArray, List.set_cons_zero, List.set_cons_succ]
        refine RW.take_slot (i := 12) (d := 60) (v := ?_) rfl rfl (by kernel_rfl) (by kernel_rfl) (by kernel_rfl) (fun _ _ _ h => h) (by rfl) ?_ hHeld ?_
        rotate_left
        · intro w hSw; try dsimp only at hSw
          go_simp; try with_reducible rfl
        simp only [List.setIfInBounds_toArray, List.set_cons_zero, List.set_cons_succ]
        refine RW.take_slot (i := 13) (d := 61) (v := ?_) rfl rfl (by kernel_rfl) (by kernel_rfl) (by kernel_rfl) (fun _ _ _ h => h) (by rfl) ?_ hHeld ?_
        rotate_left
        · intro w hSw; try dsimp only at hSw
          go_simp; try with_reducible rfl
        simp only [List.setIfInBounds_toArray, List.set_cons_zero, List.set_cons_succ]
        refine wpAnyH_ready (rs := [14]) (by kernel_rfl) (by simp) (AllReadyH.cons rfl (fun K hK => ?_) AllReadyH.nil)
        rw [if_pos (by rfl)]
        go_simp
        go_at_call 62
        refine (HLLk.out _).mono ?_
        rintro e w6 ⟨rfl, hb6⟩
        have B6 : Below w5.heap.size w5 w6 := st B5d hb6
        have hS6 := (HG5.out _ B6).cell (i := k) (by omega)
        have hZ6 := (HG5.out _ B6).frozen k
        have hq6 := (HG.out _ B6).1.2.2
        refine hK.out _ _ (HG.out _ B6) (fun hHeld => ?_)
        try simp only [Act.put, List.setIfInBounds_toArray, List.set_cons_zero, List.set_cons_succ]
        have hX2 : (if hl < IntKind.i64.wrap (r + y) then hl else IntKind.i64.wrap (r + y)) = wideHi lo hi sd ov c k := by
          rw [w64 (n := r + y) (by omega) (by omega), HE2.out]
          split <;> omega
        refine wpAnyH_ready (rs := [15]) (by kernel_rfl) (by simp) (AllReadyH.cons rfl (fun K hK => ?_) AllReadyH.nil)
        rw [if_pos (by rfl)]
        go_simp
        refine hK.out _ _ (HG.out _ B6) (fun hHeld => ?_)
        try simp only [Act.put, List.setIfInBounds_toArray, List.set_cons_zero, List.set_cons_succ]
        refine RW.take_slot (i := 16) (d := 64) (v := ?_) rfl rfl (by kernel_rfl) (by kernel_rfl) (by kernel_rfl) (fun _ _ _ h => h) (by rfl) ?_ hHeld ?_
        rotate_left
        · intro w hSw; try dsimp only at hSw
          go_simp; try with_reducible rfl
        simp only [List.setIfInBounds_toArray, List.set_cons_zero, List.set_cons_succ]
        refine wpAnyH_done (by kernel_rfl) ?_ _
        intro K hK
        go_simp
        refine hK _ _ ?_
        clear hK K hHeld
        go_wp2_with fail
        have hX3 : (if hl < r + y then hl else r + y) = wideHi lo hi sd ov c k := by
          rw [HE2.out]
          split <;> omega
        refine ⟨⟨k + 1, updZ f k (wideLo lo sd ov c k), updZ g k (wideHi lo hi sd ov c k), by omega, by go_num, (HF5.out _ B6).setOther (by show bl ≠ bh; exact gne) _, set_int (HG5.out _ B6) k _ _ rfl, fun j hj => ⟨fun h9 => ?_, fun h9 => ?_⟩, (blk_setCell_other _ _ _ _ (by show bb ≠ bh; omega)).trans (HQW.out _ B6), (st HB5.out B6).setCell (by show w.heap.size ≤ bh; omega) _, (HB05.out.trans (B6.mono hz5)).setCell (by show w.heap.size + 2 ≤ bh; omega) _⟩, by simp [intOf]; omega⟩
        · by_cases e : j = k
          · subst e
            exact ⟨by rw [updZ, if_pos rfl], by rw [updZ, if_pos rfl]⟩
          · rw [updZ, if_neg e, updZ, if_neg e]
            exact (HV.out j hj).1 (by omega)
        · rw [updZ, if_neg (by omega), updZ, if_neg (by omega)]
          exact (HV.out j hj).2 (by omega)
    · obtain rfl : k = o := by omega
      have HRl : Hid (wr.rowIs bl 3 k (fun j => .int .i64 (wideLo lo sd ov c j))) := hf1.congr fun j hj => by rw [((HV.out j hj).1 hj).1]
      have HRh : Hid (wr.rowIs bh 3 k (fun j => .int .i64 (wideHi lo hi sd ov c j))) := hg1.congr fun j hj => by rw [((HV.out j hj).1 hj).2]
      have hres := (KB3.out wr HB0w.out).2
      obtain ⟨r0, r1, z0, z1⟩ := box_at hres
      go_wp2
      refine bodyPost_ret (v := .tuple #[BoxV (some ⟨bl, 0, none⟩) (some ⟨bh, 0, none⟩) k k k k, .int .i64 0]) (res_cell_tmp Tryz.results23 _ _ (w.heap.size + 1) 45 _ (0, 0) _ rfl (put2 hres _ _) Tryz.underlying45 rfl (by rw [info_box]; rfl)) rfl ?_
      exact ⟨bl, bh, rfl, by omega, by omega, by omega, (HRl.out.setOther (by show bl ≠ w.heap.size + 1; omega) _).setOther (by show bl ≠ w.heap.size + 1; omega) _, (HRh.out.setOther (by show bh ≠ w.heap.size + 1; omega) _).setOther (by show bh ≠ w.heap.size + 1; omega) _, (HBw.out.setCell (p := ⟨w.heap.size + 1, 0, none⟩) (by show w.heap.size ≤ w.heap.size + 1; omega) _).setCell (p := ⟨w.heap.size + 1, 1, none⟩) (by show w.heap.size ≤ w.heap.size + 1; omega) _⟩
end Go.Proofs.YtogmbehomilalaaGreatDoor

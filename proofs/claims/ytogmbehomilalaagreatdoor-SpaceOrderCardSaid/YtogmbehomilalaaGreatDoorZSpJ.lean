/- The chunks in whose wide boxes coordinates are. -/
import Derived.Test.YtogmbehomilalaaGreatDoorZBldK
namespace Go.Proofs.YtogmbehomilalaaGreatDoor
open Go Go.RowKit Go.Deep

def homeLo (lo sd ov xs : Nat → Int) (k : Nat) : Int := max (xs k - lo k - ov k) 0 / sd k
def homeHi (lo hi sd ov xs : Nat → Int) (k : Nat) : Int := min ((xs k - lo k + ov k) / sd k) (lcZ (lo k) (hi k) (sd k))
/-- How many chunks there are along a dimension. -/
def homeN (lo hi sd ov xs : Nat → Int) (k : Nat) : Nat := (homeHi lo hi sd ov xs k - homeLo lo sd ov xs k + 1).toNat
theorem home_arith {y L s o : Int} (h1 : 0 ≤ y) (h2 : y ≤ L) (h3 : 1 ≤ s) (h4 : 0 ≤ o) (h5 : o ≤ s) : 0 ≤ max (y - o) 0 / s ∧ max (y - o) 0 / s ≤ min ((y + o) / s) (L / s) ∧ min ((y + o) / s) (L / s) ≤ max (y - o) 0 / s + 2 ∧ min ((y + o) / s) (L / s) ≤ L := by
  have a1 : max (y - o) 0 / s ≤ y / s := Int.ediv_le_ediv (by omega) (by omega)
  have a2 : y / s ≤ (y + o) / s := Int.ediv_le_ediv (by omega) (by omega)
  have a3 : y / s ≤ L / s := Int.ediv_le_ediv (by omega) (by omega)
  have a4 : (y + o) / s ≤ (max (y - o) 0 + 2 * s) / s := Int.ediv_le_ediv (by omega) (by omega)
  rw [Int.add_mul_ediv_right _ _ (by omega)] at a4
  have a5 : 0 ≤ max (y - o) 0 / s := Int.ediv_nonneg (by omega) (by omega)
  have a6 : L / s ≤ L := Int.ediv_le_self _ (by omega)
  omega
theorem cntC_le {e : Nat → Nat} {b : Nat} : ∀ m k, (∀ j, k ≤ j → j < k + m → e j ≤ b) → cntC e k m ≤ b ^ m := by
  intro m
  induction m with
  | zero => intro k _; exact Nat.le_refl _
  | succ m ih =>
    intro k h
    rw [Nat.pow_succ, Nat.mul_comm]
    exact Nat.mul_le_mul (h k (Nat.le_refl _) (by omega)) (ih (k + 1) fun j h1 h2 => h j (by omega) (by omega))

set_option maxRecDepth 100000 in
set_option maxHeartbeats 4000000 in
theorem s_Homes (w : World) (A S O X : Option Addr) (n cap s sc o oc m mc : Nat) (nm : Nat → ByteArray) (lo hi sd ov xs : Nat → Int) (ord tile form codec : Int) (hd : DimsAt w A n nm lo hi) (hs : IntsAt w S s sd) (ho : IntsAt w O o ov) (hx : IntsAt w X m xs) (hs1 : s ≤ 1000) (ho1 : o ≤ 1000) (hn1 : n ≤ 1000) (hm1 : m ≤ 1000)
    (he : atE nm lo hi n sd ov s o ord tile form codec xs m = 0) :
    Calls Tryz.prog 22 #[.slice A n cap, LayV S s sc O o oc ord tile form codec, .slice X m mc] w fun e w' => ∃ v B zs, e = .returned (.tuple #[v, .int .i64 0]) ∧ w.heap.size ≤ B ∧ w'.ownsRow (B + 1) 35 1 v (volC (homeN lo hi sd ov xs) n 0) ((List.range (volC (homeN lo hi sd ov xs) n 0)).map zs) ∧ (∀ t, t < volC (homeN lo hi sd ov xs) n 0 → CrdAt n (homeLo lo sd ov xs) (homeN lo hi sd ov xs) B t (zs t) w') ∧ Below w.heap.size w w' := by
  have KB := Lib.hid (lay_box w S O s sc o oc ord tile form codec)
  have HB : Hid (Below w.heap.size w (w.alloc (.cells #[.slice S s sc, .slice O o oc, .int .i64 ord, .int .i64 tile, .int .i64 form, .int .i64 codec] 43))) := (Below.refl _ _).alloc (Nat.le_refl _) _
  have HL := Lib.hid (fun W h1 h2 h3 h4 => s_atError W A S O X n cap s sc o oc m mc nm lo hi sd ov xs ord tile form codec h1 h2 h3 h4 hs1 ho1 hn1 hm1)
  have HLC := Lib.hid s_lastChunk
  obtain ⟨rfl, rfl, rfl, hn0, hn4, hf⟩ := at_facts he
  have HF := Lib.hid hf
  rw [he] at HL
  have HD := Lib.hid hd
  have HS := Lib.hid hs
  have HO := Lib.hid ho
  have HX := Lib.hid hx
  clear hd hs ho hx he hf
  have hmk := fun W => run_make_row' (P := Tryz.prog) 35 3 (.int .i64 0) 8 Tryz.underlying35 info_int rfl .i64 .i64 m (by omega) (by omega) W
  go_enter Tryz.func22, Tryz.ntmps22
  go_wp2_with fail
  generalize hW0 : w.alloc (.cells #[.slice S m sc, .slice O m oc, .int .i64 ord, .int .i64 tile, .int .i64 form, .int .i64 codec] 43) = W0 at *
  have hz0 : W0.heap.size = w.heap.size + 1 := by rw [← hW0]; simp
  clear hW0
  rw [hz0] at KB
  obtain ⟨l0, -⟩ := KB.out W0 (Below.refl _ _)
  go_wp2_with fail
  refine (HL.out _ (HD.out.below HB.out) (HS.out.below HB.out) (HO.out.below HB.out) (HX.out.below HB.out)).mono ?_
  rintro e w1 ⟨rfl, hb1⟩
  rw [hz0] at hb1
  have HB1 : Hid (Below w.heap.size w w1) := st HB.out (by rw [hz0]; exact hb1)
  have HB01 : Hid (Below (w.heap.size + 1) W0 w1) := hb1
  have hz1 : w.heap.size + 1 ≤ w1.heap.size := by rw [← hz0]; exact hb1.size
  clear hb1 HL l0
  go_wp2_with fail
  rename_i K hK
  have key : ∀ (bl bh bb : Nat) (W2 : World), W2.rowIs bl 3 m (fun _ => .int .i64 0) → W2.rowIs bh 3 m (fun _ => .int .i64 0) → W2.heap[bb]? = some (.cells #[.slice (some ⟨bl, 0, none⟩) m m, .slice (some ⟨bh, 0, none⟩) m m] 45 (0, 0)) → Below w1.heap.size w1 W2 → (w1.heap.size ≤ bl ∧ w1.heap.size ≤ bh ∧ w1.heap.size ≤ bb ∧ bl ≠ bh ∧ bl ≠ bb ∧ bh ≠ bb) → K ⟨#[.slice A m cap, LayV S m sc O m oc ord tile form codec, .slice X m mc, undef, .pointer (some ⟨w.heap.size, 0, none⟩), undef, .slice none 0 0, .int .i64 0, .int .i64 0, .pointer (some ⟨bb, 0, none⟩), undef, undef, undef, .slice A m cap, .agg #[.slice S m sc, .slice O m oc, .int .i64 ord, .int .i64 tile, .int .i64 form, .int .i64 codec], .slice X m mc, .int .i64 0, .int .i64 0, .bool false, undef, .slice A m cap, .int .i64 m, .slice (some ⟨bl, 0, none⟩) m m, .slice A m cap, .int .i64 m, .slice (some ⟨bh, 0, none⟩) m m, .agg #[.slice (some ⟨bl, 0, none⟩) m m, .slice (some ⟨bh, 0, none⟩) m m], undef, undef, undef, undef, undef, undef, undef, undef, undef, undef, undef, undef, undef, undef, undef, undef, undef, undef, undef, undef, undef, undef, undef, undef, undef, undef, undef, undef, undef, undef, undef, undef, undef, undef, undef, undef, undef, undef, undef, undef, undef, undef, undef, undef, undef, undef, undef, undef, undef, undef, undef, undef, undef, undef, undef, undef], []⟩ W2 := by
    intro bl bh bb W2 r1 r2 r3 hb2 hne
    refine hK _ _ ?_
    clear hK hmk
    have HNE := Lib.hid hne
    have HRB2 := Lib.hid r3
    have HW2 : Hid (Below w.heap.size w W2) := st HB1.out hb2
    have HW02 : Hid (Below (w.heap.size + 1) W0 W2) := HB01.out.trans (hb2.mono hz1)
    have s2 := hb2.size
    have hbbl : bb < W2.heap.size := (Array.getElem?_eq_some_iff.1 r3).1
    clear r3 hb2 hne
    obtain ⟨l0, -⟩ := KB.out W2 HW02.out
    go_wp2
    go_loopw [10, 11, 12, 30] (fun _ _ _ i wr => ∃ (k : Nat) (f g : Nat → Int), k ≤ m ∧ i = .int .i64 k ∧ wr.rowIs bl 3 m (fun j => .int .i64 (f j)) ∧ wr.rowIs bh 3 m (fun j => .int .i64 (g j)) ∧ Hid (∀ j, j < k → f j = homeLo lo sd ov xs j ∧ g j = homeHi lo hi sd ov xs j) ∧ Hid (wr.heap[bb]? = W2.heap[bb]?) ∧ Hid (Below w.heap.size w wr) ∧ Hid (Below (w.heap.size + 1) W0 wr)) (fun _ _ _ i _ => m - (intOf i).toNat)
    case atStart => exact ⟨0, fun _ => 0, fun _ => 0, Nat.zero_le _, rfl, r1, r2, fun j hj => absurd hj (by omega), rfl, HW2.out, HW02.out⟩
    case round =>
      obtain ⟨k, f, g, hk, rfl, hf1, hg1, HV, HQ, HBw, HB0w⟩ := hrel
      have hrb := HQ.out.trans HRB2.out
      have b0 : wr.cell? ⟨bb, 0, none⟩ = some (.slice (some ⟨bl, 0, none⟩) m m) := by rw [cell_of_row _ _ _ _ _ _ hrb]; rfl
      have b1 : wr.cell? ⟨bb, 1, none⟩ = some (.slice (some ⟨bh, 0, none⟩) m m) := by rw [cell_of_row _ _ _ _ _ _ hrb]; rfl
      by_cases hlt : k < m
      · obtain ⟨bd, od, rfl, hbd, hc⟩ := HD.out (by omega)
        obtain ⟨d0, d1, d2⟩ := hc k hlt
        clear hc
        obtain ⟨bs, os, rfl, hbs, hcs⟩ := HS.out (by omega)
        have x0 := hcs k hlt
        obtain ⟨bx, ox, rfl, hbx, hcx⟩ := HX.out (by omega)
        have e0 := hcx k hlt
        obtain ⟨bo, oo, rfl, hbo, hco⟩ := HO.out (by omega)
        have o0 := hco k hlt
        clear hcs hcx hco
        have HCC : Hid (∀ W, Below w.heap.size w W → W.cell? ⟨bo, oo + k, none⟩ = some (.int .i64 (ov k)) ∧ W.cell? ⟨bs, os + k, none⟩ = some (.int .i64 (sd k)) ∧ W.cell? ⟨bx, ox + k, none⟩ = some (.int .i64 (xs k)) ∧ W.cell? ⟨bd, od + k * 3, none⟩ = some (.string (nm k)) ∧ W.cell? ⟨bd, od + k * 3 + 1, none⟩ = some (.int .i64 (lo k)) ∧ W.cell? ⟨bd, od + k * 3 + 2, none⟩ = some (.int .i64 (hi k))) := fun W hW =>
          ⟨(hW.cell (p := ⟨bo, oo + k, none⟩) hbo).trans o0, (hW.cell (p := ⟨bs, os + k, none⟩) hbs).trans x0, (hW.cell (p := ⟨bx, ox + k, none⟩) hbx).trans e0, (hW.cell (p := ⟨bd, od + k * 3, none⟩) hbd).trans d0, (hW.cell (p := ⟨bd, od + k * 3 + 1, none⟩) hbd).trans d1, (hW.cell (p := ⟨bd, od + k * 3 + 2, none⟩) hbd).trans d2⟩
        obtain ⟨v0, z0, y0, c0, c1, c2⟩ := HCC.out wr HBw.out
        clear o0 x0 e0 d0 d1 d2
        have hfk := HF.out k hlt
        have HE1 : Hid (homeLo lo sd ov xs k = max (xs k - lo k - ov k) 0 / sd k) := rfl
        have HE2 : Hid (homeHi lo hi sd ov xs k = min ((xs k - lo k + ov k) / sd k) (lcZ (lo k) (hi k) (sd k))) := rfl
        have HLk := Lib.hid (fun W => HLC.out (nm k) (lo k) (hi k) (sd k) W hfk.1 hfk.2.2.2.2.1 (by omega) hfk.2.2.2.2.2.1 hfk.2.2.2.2.2.2.1)
        have hLL : (lastZ (hi k) - lo k) / sd k = lcZ (lo k) (hi k) (sd k) := rfl
        have HA := Lib.hid (home_arith (y := xs k - lo k) (L := lastZ (hi k) - lo k) (s := sd k) (o := ov k) (by omega) (by omega) (by omega) (by omega) (by omega))
        rw [hLL] at HA
        clear hLL
        generalize lcZ (lo k) (hi k) (sd k) = LC at *
        generalize lastZ (hi k) = hl at *
        generalize nm k = s0 at *
        generalize lo k = l9 at *
        generalize hi k = h9 at *
        generalize xs k = x at *
        generalize sd k = q at *
        generalize ov k = u at *
        obtain ⟨f1, f2, f3, f4, f5, f6, f7, f8, f9, f10⟩ := hfk
        obtain ⟨y, hy⟩ : ∃ y, y = x - l9 := ⟨_, rfl⟩
        have hw1 : IntKind.i64.wrap (x - l9) = y := by rw [w64 (n := x - l9) (by omega) (by omega), hy]
        rw [← hy] at HA HE1 HE2
        have y1 : 0 ≤ y := by omega
        have y2 : y ≤ 2147483648 := by omega
        clear hy
        go_wp2_with fail
        go_still (by kernel_rfl)
        rw [show ({ wr with drawn := wr.drawn + 1 } : World) = wr.drew from rfl]
        have hf2 : wr.drew.rowIs bl 3 m (fun j => .int .i64 (f j)) := hf1
        have hg2 : wr.drew.rowIs bh 3 m (fun j => .int .i64 (g j)) := hg1
        have hrb2 : wr.drew.heap[bb]? = some (.cells #[.slice (some ⟨bl, 0, none⟩) m m, .slice (some ⟨bh, 0, none⟩) m m] 45 (0, 0)) := hrb
        have HB2 : Hid (Below wr.heap.size wr wr.drew) := Below.drew (Below.refl _ _)
        have hbw := HBw.out.size
        have hb0w := HB0w.out.size
        have hw2 := HW02.out.size
        have hblw := hf1.lt
        clear hf1 hg1 hrb b0 b1 c0 c1 c2 y0 z0 v0 hw1
        generalize hw4 : wr.drew = w4 at *
        obtain ⟨v0, z0, e0, c0, c1, c2⟩ := HCC.out w4 (st HBw.out HB2.out)
        have b0 : w4.cell? ⟨bb, 0, none⟩ = some (.slice (some ⟨bl, 0, none⟩) m m) := by rw [cell_of_row _ _ _ _ _ _ hrb2]; rfl
        have l1 := (KB.out w4 (HB0w.out.trans (HB2.out.mono (by omega)))).2.1
        have hS := hf2.cell (i := k) (by omega)
        have hZ := hf2.frozen k
        clear hw4
        have hq0 : (q == 0) = false := by rw [beq_eq_false_iff_ne]; omega
        have hq1 : ¬ q = 0 := by omega
        go_wp2_with fail
        go_still_tail 14, (by kernel_rfl)
        change wpList _ _ _ _ _ w4.drew
        have hf4 : w4.drew.rowIs bl 3 m (fun j => .int .i64 (f j)) := hf2
        have hg4 : w4.drew.rowIs bh 3 m (fun j => .int .i64 (g j)) := hg2
        have hrb4 : w4.drew.heap[bb]? = some (.cells #[.slice (some ⟨bl, 0, none⟩) m m, .slice (some ⟨bh, 0, none⟩) m m] 45 (0, 0)) := hrb2
        have HB4 : Hid (Below wr.heap.size wr w4.drew) := Below.drew HB2.out
        clear hf2 hg2 hrb2 HB2 b0 c0 c1 c2 v0 z0 e0 l1 hS hZ
        generalize hw5 : w4.drew = w5 at *
        obtain ⟨v0, z0, e0, c0, c1, c2⟩ := HCC.out w5 (st HBw.out HB4.out)
        have b0 : w5.cell? ⟨bb, 0, none⟩ = some (.slice (some ⟨bl, 0, none⟩) m m) := by rw [cell_of_row _ _ _ _ _ _ hrb4]; rfl
        have l1 := (KB.out w5 (HB0w.out.trans (HB4.out.mono (by omega)))).2.1
        have hS := hf4.cell (i := k) (by omega)
        have hZ := hf4.frozen k
        clear hw5
        go_wp2_with fail
        rw [← HE1.out]
        have hne := HNE.out
        have hf5 := set_int hf4 k (homeLo lo sd ov xs k) _ rfl
        have hg5 := hg4.setOther (a := ⟨bl, k, none⟩) (by show bh ≠ bl; omega) (.int .i64 (homeLo lo sd ov xs k))
        have hrb5 : (w5.setCell ⟨bl, k, none⟩ (.int .i64 (homeLo lo sd ov xs k))).heap[bb]? = some (.cells #[.slice (some ⟨bl, 0, none⟩) m m, .slice (some ⟨bh, 0, none⟩) m m] 45 (0, 0)) := (blk_setCell_other _ _ _ _ (by show bb ≠ bl; omega)).trans hrb4
        have HB5 : Hid (Below w.heap.size w (w5.setCell ⟨bl, k, none⟩ (.int .i64 (homeLo lo sd ov xs k)))) := (st HBw.out HB4.out).setCell (by show w.heap.size ≤ bl; omega) _
        have HB05 : Hid (Below (w.heap.size + 1) W0 (w5.setCell ⟨bl, k, none⟩ (.int .i64 (homeLo lo sd ov xs k)))) := (HB0w.out.trans (HB4.out.mono (by omega))).setCell (by show w.heap.size + 1 ≤ bl; omega) _
        have HQ5 : Hid ((w5.setCell ⟨bl, k, none⟩ (.int .i64 (homeLo lo sd ov xs k))).heap[bb]? = W2.heap[bb]?) := hrb5.trans HRB2.out.symm
        clear hf4 hg4 hrb4 v0 z0 e0 c0 c1 c2 hS hZ HB4 b0 l1
        generalize w5.setCell ⟨bl, k, none⟩ (.int .i64 (homeLo lo sd ov xs k)) = w6 at *
        have hbo9 : bo ≠ bh ∧ bs ≠ bh ∧ bx ≠ bh ∧ bd ≠ bh := by omega
        have HG : Hid (∀ W, Below w6.heap.size w6 W → (W.cell? ⟨w.heap.size, 1, none⟩ = some (.slice (some ⟨bo, oo, none⟩) m oc) ∧ W.cell? ⟨bb, 1, none⟩ = some (.slice (some ⟨bh, 0, none⟩) m m)) ∧ W.cell? ⟨bo, oo + k, none⟩ = some (.int .i64 u) ∧ W.cell? ⟨bd, od + k * 3, none⟩ = some (.string s0) ∧ W.cell? ⟨bd, od + k * 3 + 1, none⟩ = some (.int .i64 l9) ∧ W.cell? ⟨bd, od + k * 3 + 2, none⟩ = some (.int .i64 h9)) := fun W hW => by
          obtain ⟨g1, -, -, g2, g3, g4⟩ := HCC.out W (st HB5.out hW)
          have g5 := (hW.block bb (Array.getElem?_eq_some_iff.1 hrb5).1).trans hrb5
          refine ⟨⟨(KB.out W (HB05.out.trans (hW.mono (by have := HB05.out.size; omega)))).2.1, ?_⟩, g1, g2, g3, g4⟩
          rw [cell_of_row _ _ _ _ _ _ g5]; rfl
        have HKS : Hid (∀ W u', Below w6.heap.size w6 W → ((W.setCell ⟨bh, k, none⟩ u').cell? ⟨w.heap.size, 1, none⟩ = some (.slice (some ⟨bo, oo, none⟩) m oc) ∧ (W.setCell ⟨bh, k, none⟩ u').cell? ⟨bb, 1, none⟩ = some (.slice (some ⟨bh, 0, none⟩) m m)) ∧ (W.setCell ⟨bh, k, none⟩ u').cell? ⟨bo, oo + k, none⟩ = some (.int .i64 u) ∧ (W.setCell ⟨bh, k, none⟩ u').cell? ⟨bd, od + k * 3, none⟩ = some (.string s0) ∧ (W.setCell ⟨bh, k, none⟩ u').cell? ⟨bd, od + k * 3 + 1, none⟩ = some (.int .i64 l9) ∧ (W.setCell ⟨bh, k, none⟩ u').cell? ⟨bd, od + k * 3 + 2, none⟩ = some (.int .i64 h9)) := fun W u' hW => by
          have hs := fun b (hb : b ≠ bh) => blk_setCell_other W ⟨bh, k, none⟩ u' b hb
          rw [cell_blk (hs _ (show w.heap.size ≠ bh by omega)), cell_blk (hs bb (by omega)), cell_blk (hs bo hbo9.1), cell_blk (hs bd hbo9.2.2.2), cell_blk (hs bd hbo9.2.2.2), cell_blk (hs bd hbo9.2.2.2)]
          exact HG.out W hW
        have HG5 : Hid (∀ W, Below w6.heap.size w6 W → W.rowIs bh 3 m (fun j => .int .i64 (g j))) := fun W hW => hg5.of_block (hW.block bh hg5.lt)
        have HF5 : Hid (∀ W, Below w6.heap.size w6 W → W.rowIs bl 3 m (fun j => .int .i64 (updZ f k (homeLo lo sd ov xs k) j))) := fun W hW => hf5.of_block (hW.block bl hf5.lt)
        have HQW : Hid (∀ W, Below w6.heap.size w6 W → W.heap[bb]? = W2.heap[bb]?) := fun W hW => (hW.block bb (Array.getElem?_eq_some_iff.1 hrb5).1).trans HQ5.out
        have hz6 : w.heap.size + 1 ≤ w6.heap.size := by have := HB05.out.size; omega
        clear hf5 hg5 hrb5
        have B6d : Below w6.heap.size w6 w6.drew := Below.drew (Below.refl _ _)
        go_wp2_with fail
        go_region_held3 (fun W => (W.cell? ⟨w.heap.size, 1, none⟩ = some (.slice (some ⟨bo, oo, none⟩) m oc) ∧ W.cell? ⟨bb, 1, none⟩ = some (.slice (some ⟨bh, 0, none⟩) m m)) ∧ W.cell? ⟨bo, oo + k, none⟩ = some (.int .i64 u) ∧ W.cell? ⟨bd, od + k * 3, none⟩ = some (.string s0) ∧ W.cell? ⟨bd, od + k * 3 + 1, none⟩ = some (.int .i64 l9) ∧ W.cell? ⟨bd, od + k * 3 + 2, none⟩ = some (.int .i64 h9))
          (first | exact HKS.out _ _ B7 | exact HG.out _ B7 | exact HG.out _ B6d | exact HG.out _ (Below.refl _ _))
          (first
            | (go_at_call 59; refine (HLk.out _).mono ?_; rintro e w7 ⟨rfl, hb7⟩; have B7 : Below w6.heap.size w6 w7 := st B6d hb7; have hS7 := (HG5.out _ B7).cell (i := k) (by omega); have hZ7 := (HG5.out _ B7).frozen k))
        all_goals
          have hX2 : min (IntKind.i64.wrap ((IntKind.i64.wrap (y + u)).tdiv q)) LC = homeHi lo hi sd ov xs k := by rw [quo_i (by omega) (by omega) (by omega), HE2.out]
          go_wp2_with fail
          refine ⟨⟨k + 1, updZ f k (homeLo lo sd ov xs k), updZ g k (homeHi lo hi sd ov xs k), by omega, by go_num, (HF5.out _ B7).setOther (by show bl ≠ bh; omega) _, set_int (HG5.out _ B7) k _ _ rfl, fun j hj => ?_, (blk_setCell_other _ _ _ _ (by show bb ≠ bh; omega)).trans (HQW.out _ B7), (st HB5.out B7).setCell (by show w.heap.size ≤ bh; omega) _, (HB05.out.trans (B7.mono hz6)).setCell (by show w.heap.size + 1 ≤ bh; omega) _⟩, by simp [intOf]; omega⟩
          by_cases e : j = k
          · subst e
            exact ⟨by rw [updZ, if_pos rfl], by rw [updZ, if_pos rfl]⟩
          · rw [updZ, if_neg e, updZ, if_neg e]
            exact HV.out j (by omega)
      · obtain rfl : k = m := by omega
        have HRl : Hid (wr.rowIs bl 3 k (fun j => .int .i64 (homeLo lo sd ov xs j))) := hf1.congr fun j hj => by rw [(HV.out j hj).1]
        have HRh : Hid (wr.rowIs bh 3 k (fun j => .int .i64 (homeHi lo hi sd ov xs j))) := hg1.congr fun j hj => by rw [(HV.out j hj).2]
        have hkn : ∀ j, j < k → 1 ≤ homeN lo hi sd ov xs j ∧ homeHi lo hi sd ov xs j = homeLo lo sd ov xs j + (homeN lo hi sd ov xs j : Nat) - 1 ∧ -1073741824 ≤ homeLo lo sd ov xs j ∧ homeHi lo hi sd ov xs j ≤ 4611686018427387904 ∧ homeN lo hi sd ov xs j ≤ 3 := fun j hj => by
          have hf := HF.out j hj
          have ha := home_arith (y := xs j - lo j) (L := lastZ (hi j) - lo j) (s := sd j) (o := ov j) (by omega) (by omega) (by omega) (by omega) (by omega)
          have e1 : homeLo lo sd ov xs j = max (xs j - lo j - ov j) 0 / sd j := rfl
          have e2 : homeHi lo hi sd ov xs j = min ((xs j - lo j + ov j) / sd j) ((lastZ (hi j) - lo j) / sd j) := rfl
          rw [← e1, ← e2] at ha
          unfold homeN
          omega
        have hvol : volC (homeN lo hi sd ov xs) k 0 ≤ 81 := by
          have h1 : cntC (homeN lo hi sd ov xs) 0 k ≤ 3 ^ k := cntC_le k 0 fun j _ hj => (hkn j (by omega)).2.2.2.2
          have h2 : 3 ^ k ≤ 3 ^ 4 := Nat.pow_le_pow_right (by omega) hn4
          exact Nat.le_trans h1 h2
        have HCo := Lib.hid (c_coords wr bl 0 k bh 0 k k (homeLo lo sd ov xs) (homeHi lo hi sd ov xs) (homeN lo hi sd ov xs) hn0 (by omega) (fun j hj => ⟨(hkn j hj).1, (hkn j hj).2.1, Int.le_trans (by decide) (hkn j hj).2.2.1, (hkn j hj).2.2.2.1⟩) (by omega) hf1.lt hg1.lt (fun j hj => ⟨by rw [Nat.zero_add]; exact HRl.out.cell hj, by rw [Nat.zero_add]; exact HRh.out.cell hj⟩))
        clear hkn hvol HRl HRh hf1 hg1
        go_wp2_with (first
          | (go_at_call 48; refine (c_coordinates _ _ _).mono ?_; rintro e w3 ⟨rfl, rfl⟩)
          | (go_at_call 60; refine HCo.out.mono ?_; rintro e w4 ⟨v, B, zs, rfl, a1, a2, a3, a4⟩))
        go_ret2
        exact ⟨v, B, zs, rfl, by have := HBw.out.size; omega, a2, a3, st HBw.out a4⟩
  have KEY := Lib.hid key
  clear key
  go_region_held3 (fun W => True)
    (first | exact trivial)
    (first | fail)
  all_goals
    obtain ⟨q0, q1, q2, q3⟩ := al3 w1 _ _ _
    first
    | exact KEY.out _ _ _ _ (row_made q0) (row_made q1) q2 q3 (by omega)
    | exact KEY.out _ _ _ _ (row_made q1) (row_made q0) q2 q3 (by omega)
    | exact KEY.out _ _ _ _ (row_made q0) (row_made q2) q1 q3 (by omega)
    | exact KEY.out _ _ _ _ (row_made q2) (row_made q0) q1 q3 (by omega)
    | exact KEY.out _ _ _ _ (row_made q1) (row_made q2) q0 q3 (by omega)
    | exact KEY.out _ _ _ _ (row_made q2) (row_made q1) q0 q3 (by omega)
end Go.Proofs.YtogmbehomilalaaGreatDoor

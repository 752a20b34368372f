/- The key of the Hilbert order. -/
import Derived.Test.YtogmbehomilalaaGreatDoorZInl
import Derived.Test.YtogmbehomilalaaGreatDoorZCmpS
import Derived.Test.YtogmbehomilalaaGreatDoorShelf
import Derived.StillTailTactics
import Derived.Test.YtogmbehomilalaaGreatDoorZBldK

/- The key of the Hilbert order. -/
section
namespace Go.Proofs.YtogmbehomilalaaGreatDoor
open Go Go.RowKit Go.Deep

abbrev FrmV (L : Option Addr) (n cl : Nat) (H : Option Addr) (m ch : Nat) (tile wd : Int) : Value := .agg #[.slice L n cl, .slice H m ch, .int .i64 tile, .int .i64 wd]
/-- The turns for the bits p, .., 1. -/
def turnsW (n : Nat) : Nat → (Nat → Nat) → Nat → Nat
  | 0, Y => Y
  | q + 1, Y => turnsW n q (turnTo (q + 1) Y n)
def grayTo (Y : Nat → Nat) : Nat → Nat → Nat
  | 0 => Y
  | k + 1 => updN (grayTo Y k) (k + 1) (grayTo Y k (k + 1) ^^^ grayTo Y k k)
def tW (y : Nat) : Nat → Nat → Nat
  | 0, t => t
  | q + 1, t => tW y q (bif bitN y (q + 1) == 1 then t ^^^ (2 ^ (q + 1) - 1) else t)
def xorTo (t : Nat) (Y : Nat → Nat) : Nat → Nat → Nat
  | 0 => Y
  | k + 1 => updN (xorTo t Y k) k (xorTo t Y k k ^^^ t)
/-- The key of the numbers Y, n of them, of wd bits. -/
def hilN (n wd : Nat) (Y : Nat → Nat) : Nat :=
  intlW (xorTo (tW (grayTo (turnsW n (wd - 1) Y) (n - 1) (n - 1)) (wd - 1) 0) (grayTo (turnsW n (wd - 1) Y) (n - 1)) n) n wd 0

theorem wraps_low {s : Nat} (hs : s < 62) : wrap64 (2 ^ s) = 2 ^ s ∧ wrap64 (2 ^ s - 1) = ((2 ^ s - 1 : Nat) : Int) := by
  have hp1 : 1 ≤ 2 ^ s := Nat.two_pow_pos s
  have hp2 : 2 ^ s < 4611686018427387904 := by rw [← p62]; exact Nat.pow_lt_pow_right (by decide) hs
  have hpc : ((2 ^ s : Nat) : Int) = 2 ^ s := Int.natCast_pow 2 s
  rw [← hpc]
  generalize 2 ^ s = p at *
  unfold wrap64
  omega
theorem slice_four (b n : Nat) (h1 : 1 ≤ n) (hn : n ≤ 4) (W : World) : (Instr.sliceAt 172 (.pointer (some ⟨b, 0, none⟩)) none (some (.int .i64 n)) none).run Tryz.prog W = .ok (.slice (some ⟨b, 0, none⟩) n 4) W := by
  rcases (by omega : n = 1 ∨ n = 2 ∨ n = 3 ∨ n = 4) with rfl | rfl | rfl | rfl <;> kernel_rfl
set_option maxRecDepth 100000 in
set_option maxHeartbeats 4000000 in
theorem s_hilbert (w : World) (L H X : Option Addr) (n cl m ch cx : Nat) (tile : Int) (wd : Nat) (lo xs : Nat → Int) (hl : IntsAt w L n lo) (hx : IntsAt w X n xs) (h1 : 1 ≤ n) (hn : n ≤ 4) (hw : wd ≤ 15) (hb : ∀ k, k < n → -9223372036854775808 ≤ lo k ∧ lo k ≤ xs k ∧ xs k - lo k ≤ 1073741824) :
    Calls Tryz.prog 94 #[FrmV L n cl H m ch tile wd, .slice X n cx] w fun e w' => e = .returned (.int .i64 (hilN n wd (fun k => if k < n then (xs k - lo k).toNat else 0) : Nat)) ∧ Below w.heap.size w w' := by
  have HL := Lib.hid hl
  have HX := Lib.hid hx
  have HB := Lib.hid hb
  clear hl hx hb
  have hsl := fun b => slice_four b n h1 hn
  obtain ⟨Y0, hY0⟩ : ∃ Y0 : Nat → Nat, Y0 = fun k => if k < n then (xs k - lo k).toNat else 0 := ⟨_, rfl⟩
  have HY0 : Hid (∀ k, k < n → xs k - lo k = (Y0 k : Int) ∧ Y0 k < 2 ^ 62) := fun k hk => by
    have := HB.out k hk
    have h9 : Y0 k = (xs k - lo k).toNat := by rw [hY0]; exact if_pos hk
    rw [h9, p62]
    omega
  have HYn : Hid (∀ k, n ≤ k → Y0 k = 0) := fun k hk => by rw [hY0]; exact if_neg (by omega)
  rw [← hY0]
  clear hY0
  obtain ⟨ve, hve⟩ : ∃ ve, hilN n wd Y0 = ve := ⟨_, rfl⟩
  rw [hve]
  have HV := Lib.hid hve
  clear hve
  go_enter Tryz.func94, Tryz.ntmps94
  go_wp2
  have HW0 : Hid (Below w.heap.size w (w.alloc (.cells #[.slice L n cl, .slice H m ch, .int .i64 tile, .int .i64 wd] 148))) := (Below.refl _ _).alloc (Nat.le_refl _) _
  have hz0 : (w.alloc (.cells #[.slice L n cl, .slice H m ch, .int .i64 tile, .int .i64 wd] 148)).heap.size = w.heap.size + 1 := by simp
  have hf0 := heap_alloc_new w (.cells #[.slice L n cl, .slice H m ch, .int .i64 tile, .int .i64 wd] 148)
  generalize w.alloc (.cells #[.slice L n cl, .slice H m ch, .int .i64 tile, .int .i64 wd] 148) = W0 at *
  have KF : Hid (∀ W, Below (w.heap.size + 1) W0 W → W.cell? ⟨w.heap.size, 0, none⟩ = some (.slice L n cl) ∧ W.cell? ⟨w.heap.size, 3, none⟩ = some (.int .i64 wd)) := fun W hW => by
    have h2 := (hW.block w.heap.size (by omega)).trans hf0
    exact ⟨by rw [cell_of_row _ _ _ _ _ _ h2]; rfl, by rw [cell_of_row _ _ _ _ _ _ h2]; rfl⟩
  have hB1 : Below (w.heap.size + 1) W0 (W0.alloc (.cells #[.int .i64 0, .int .i64 0, .int .i64 0, .int .i64 0] 172)) := (Below.refl _ _).alloc (by omega) _
  have hr0 : rowN (W0.alloc (.cells #[.int .i64 0, .int .i64 0, .int .i64 0, .int .i64 0] 172)) (w.heap.size + 1) 172 4 (fun _ => 0) := by
    have h2 := World.rowIs_alloc W0 #[.int .i64 0, .int .i64 0, .int .i64 0, .int .i64 0] 172 (fun _ => .int .i64 ((0 : Nat) : Int)) (fun i hi => by
      rcases (by simp at hi; omega : i = 0 ∨ i = 1 ∨ i = 2 ∨ i = 3) with rfl | rfl | rfl | rfl <;> rfl)
    rw [hz0] at h2
    exact h2
  have HS0 : Hid (W0.heap.size = w.heap.size + 1) := hz0
  clear hf0
  generalize W0.alloc (.cells #[.int .i64 0, .int .i64 0, .int .i64 0, .int .i64 0] 172) = W1 at *
  clear hz0
  have HBW : Hid (∀ W, Below (w.heap.size + 1) W0 W → Below w.heap.size w W) := fun W hW => Below.trans HW0.out (hW.mono (by omega))
  go_loopw [7, 8, 19] (fun _ _ i wr => ∃ (k : Nat) (Y : Nat → Nat), k ≤ n ∧ i = .int .i64 k ∧ rowN wr (w.heap.size + 1) 172 4 Y ∧ Hid (∀ j, (j < k → Y j = Y0 j) ∧ (k ≤ j → Y j = 0)) ∧ Hid (Below (w.heap.size + 1) W0 wr)) (fun _ _ i _ => n - (intOf i).toNat)
  case atStart => exact ⟨0, fun _ => 0, Nat.zero_le _, rfl, hr0, fun j => ⟨fun hj => absurd hj (by omega), fun _ => rfl⟩, hB1⟩
  case round =>
    obtain ⟨k, Y, hk, rfl, hr, HE, HBr⟩ := hrel
    have HBw := Lib.hid (HBW.out wr HBr.out)
    by_cases hlt : k < n
    · obtain ⟨b1, o1, rfl, hl1, hc1⟩ := (HX.out.below HBw.out) (by omega)
      have x0 := hc1 k hlt
      obtain ⟨b2, o2, rfl, hl2, hc2⟩ := (HL.out.below HBw.out) (by omega)
      have y0 := hc2 k hlt
      clear hc1 hc2
      obtain ⟨f0, -⟩ := KF.out wr HBr.out
      have hS := hr.cell (i := k) (by omega)
      have hZ := hr.frozen k
      have hbk := HB.out k hlt
      have hyk := (HY0.out k hlt).1
      generalize xs k = x at *
      generalize lo k = l at *
      have hw1 : IntKind.i64.wrap (x - l) = (Y0 k : Int) := by rw [w64 (n := x - l) (by omega) (by omega), hyk]
      go_wp2_with fail
      refine ⟨⟨k + 1, updN Y k (Y0 k), by omega, by go_num, set_natH hr k _, fun j => ⟨fun hj => ?_, fun hj => ?_⟩, HBr.out.setCell (by show w.heap.size + 1 ≤ w.heap.size + 1; omega) _⟩, by simp [intOf]; omega⟩
      · unfold updN
        by_cases e : j = k
        · rw [if_pos e, e]
        · rw [if_neg e]; exact (HE.out j).1 (by omega)
      · unfold updN
        rw [if_neg (by omega)]; exact (HE.out j).2 (by omega)
    · obtain rfl : k = n := by omega
      obtain rfl : Y = Y0 := funext fun j => by
        by_cases hj : j < k
        · exact (HE.out j).1 hj
        · rw [(HE.out j).2 (by omega), HYn.out j (by omega)]
      obtain ⟨-, f3⟩ := KF.out wr HBr.out
      obtain ⟨wa, hwa⟩ : ∃ wa, wa = wr := ⟨_, rfl⟩
      rw [← hwa] at hr f3 HBr
      rw [← hwa]
      clear hwa HE HBw hB1 hr0
      have HT := Lib.hid s_turn
      have hYb : ∀ j, j < k → Y j < 2 ^ 62 := fun j hj => (HY0.out j hj).2
      have HVV : Hid (intlW (xorTo (tW (grayTo (turnsW k (wd - 1) Y) (k - 1) (k - 1)) (wd - 1) 0) (grayTo (turnsW k (wd - 1) Y) (k - 1)) k) k wd 0 = ve) := HV.out
      clear HV HY0 HYn HX HL HB hsl
      go_wp2_with fail
      go_loopw [9] (fun q wr => ∃ (r : Nat) (Z : Nat → Nat), r ≤ wd ∧ q = .int .i64 ((r : Int) - 1) ∧ rowN wr (w.heap.size + 1) 172 4 Z ∧ Hid (turnsW k (r - 1) Z = turnsW k (wd - 1) Y) ∧ Hid (∀ j, j < k → Z j < 2 ^ 62) ∧ Hid (Below (w.heap.size + 1) W0 wr)) (fun q _ => (intOf q + 1).toNat)
      case atStart => exact ⟨wd, Y, Nat.le_refl _, rfl, hr, rfl, hYb, HBr.out⟩
      case round =>
        obtain ⟨r, Z, hrw, rfl, hrz, HZ, HZb, HBz⟩ := hrel
        by_cases h2 : 2 ≤ r
        · obtain ⟨s, rfl⟩ : ∃ s, r = s + 1 := ⟨r - 1, by omega⟩
          rw [show (((s + 1 : Nat) : Int) - 1) = (s : Nat) by omega]
          have HZ2 : Hid (turnsW k (s - 1) (turnTo s Z k) = turnsW k (wd - 1) Y) := by
            obtain ⟨p, rfl⟩ : ∃ p, s = p + 1 := ⟨s - 1, by omega⟩
            exact HZ.out
          have hs1 : (1 : Int) ≤ (s : Nat) := by omega
          have hTb := turnTo_lt (q := s) (by omega) h1 HZb.out k (Nat.le_refl _)
          have HTb := Lib.hid hTb
          clear hTb HZ
          go_wp2_with (first
            | (go_at_call 122; refine (HT.out _ _ _ 4 k 4 s Z hrz h1 hn (by omega) HZb.out (by omega)).mono ?_; rintro e w3 ⟨rfl, hr3, hg3⟩))
          exact ⟨⟨s, turnTo s Z k, by omega, rfl, hr3, HZ2.out, HTb.out, HBz.out.grown hg3 (by have := HBz.out.size; have := HS0.out; omega) (fun r e => by cases e; exact Nat.le_refl _)⟩, by simp [intOf]⟩
        · have hr1 : r - 1 = 0 := by omega
          have HZ2 : Hid (Z = turnsW k (wd - 1) Y) := by have := HZ.out; rw [hr1] at this; exact this
          rw [← HZ2.out] at HVV
          have hq : ¬ (1 : Int) ≤ (r : Int) - 1 := by omega
          clear HZ HZ2
          obtain ⟨wb, hwb⟩ : ∃ wb, wb = wr := ⟨_, rfl⟩
          rw [← hwb] at hrz HBz
          rw [← hwb]
          clear hwb hr HBr hYb
          go_wp2_with fail
          have HGL : Hid (∀ i, i < k → ∀ j, j < k → grayTo Z i j < 2 ^ 62) := by
            intro i
            induction i with
            | zero => exact fun _ => HZb.out
            | succ i ih => exact fun hi => updN_lt (ih (by omega)) (Nat.xor_lt_two_pow (ih (by omega) _ (by omega)) (ih (by omega) _ (by omega)))
          go_loopw [10] (fun i wr => ∃ p : Nat, p + 1 ≤ k ∧ i = .int .i64 ((p : Int) + 1) ∧ rowN wr (w.heap.size + 1) 172 4 (grayTo Z p) ∧ Hid (Below (w.heap.size + 1) W0 wr)) (fun i _ => k - (intOf i).toNat)
          case atStart => exact ⟨0, h1, rfl, hrz, HBz.out⟩
          case round =>
            obtain ⟨p, hp, rfl, hrg, HBg⟩ := hrel
            by_cases hlt : p + 1 < k
            · obtain ⟨s, hs⟩ : ∃ s, s = p + 1 := ⟨_, rfl⟩
              rw [show ((p : Int) + 1) = (s : Nat) by omega]
              have HR : Hid (grayTo Z s = updN (grayTo Z p) s (grayTo Z p s ^^^ grayTo Z p p)) := by rw [hs]; rfl
              have hx := xor_i (HGL.out p (by omega) s (by omega)) (HGL.out p (by omega) p (by omega))
              generalize grayTo Z p = G at *
              have g1 := hrg.cell (i := s) (by omega)
              have g0 := hrg.cell (i := p) (by omega)
              have gz := hrg.frozen s
              have b1 : (0 : Int) ≤ (s : Int) := by omega
              have b2 : (s : Int) < (k : Int) := by omega
              have hw9 : IntKind.i64.wrap ((s : Int) - 1) = (p : Nat) := by rw [w64 (n := (s : Int) - 1) (by omega) (by omega)]; omega
              have hs1 : s < k := by omega
              have Hs := Lib.hid hs
              clear hs
              have b3 : (0 : Int) ≤ (p : Int) := by omega
              have b4 : (p : Int) < (k : Int) := by omega
              go_wp2_with fail
              go_still_tail 11, (by kernel_rfl)
              change wpList _ _ _ _ _ wr.drew
              have hrg2 : rowN wr.drew (w.heap.size + 1) 172 4 G := hrg
              have HBg2 : Hid (Below (w.heap.size + 1) W0 wr.drew) := Below.drew HBg.out
              clear g1 g0 gz hrg HBg
              generalize wr.drew = w5 at *
              have g1 := hrg2.cell (i := s) (by omega)
              have g0 := hrg2.cell (i := p) (by omega)
              have gz := hrg2.frozen s
              go_wp2_with fail
              exact ⟨⟨s, by omega, by go_num, by rw [HR.out]; exact set_natH hrg2 s _, HBg2.out.setCell (by show w.heap.size + 1 ≤ w.heap.size + 1; omega) _⟩, by simp [intOf]; omega⟩
            · obtain rfl : k = p + 1 := by omega
              obtain ⟨wc, hwc⟩ : ∃ wc, wc = wr := ⟨_, rfl⟩
              rw [← hwc] at hrg HBg
              rw [← hwc]
              clear hwc hrz HBz
              obtain ⟨-, f4⟩ := KF.out wc HBg.out
              have HGb := Lib.hid (HGL.out p (by omega))
              have HV3 : Hid (intlW (xorTo (tW (grayTo Z p p) (wd - 1) 0) (grayTo Z p) (p + 1)) (p + 1) wd 0 = ve) := HVV.out
              have HH := Lib.hid s_hasBit
              clear HVV HZb HGL
              generalize grayTo Z p = G at *
              go_wp2_with fail
              go_loopw [11, 12] (fun tt q wr => ∃ (r t : Nat), r ≤ wd ∧ q = .int .i64 ((r : Int) - 1) ∧ tt = .int .i64 (t : Nat) ∧ Hid (t < 2 ^ 62 ∧ tW (G p) (r - 1) t = tW (G p) (wd - 1) 0) ∧ wr = wc) (fun _ q _ => (intOf q + 1).toNat)
              case atStart => exact ⟨wd, 0, Nat.le_refl _, rfl, rfl, ⟨by decide, rfl⟩, rfl⟩
              case round =>
                obtain ⟨r, t, hrw, rfl, rfl, HTT, rfl⟩ := hrel
                have g0 := hrg.cell (i := p) (by omega)
                by_cases h2 : 2 ≤ r
                · obtain ⟨s, rfl⟩ : ∃ s, r = s + 1 := ⟨r - 1, by omega⟩
                  rw [show (((s + 1 : Nat) : Int) - 1) = (s : Nat) by omega]
                  have HZ2 : Hid (tW (G p) (s - 1) (bif bitN (G p) s == 1 then t ^^^ (2 ^ s - 1) else t) = tW (G p) (wd - 1) 0) := by
                    obtain ⟨p9, rfl⟩ : ∃ p9, s = p9 + 1 := ⟨s - 1, by omega⟩
                    exact HTT.out.2
                  have hs1 : (1 : Int) ≤ (s : Nat) := by omega
                  have hs2 : s ≤ 15 := by omega
                  have hgp := HGb.out p (by omega)
                  have htl := HTT.out.1
                  have hlow := low_lt (q := s) (by omega)
                  obtain ⟨hw1, hw2⟩ := wraps_low (s := s) (by omega)
                  have hx := xor_i htl hlow
                  have hxl := Lib.hid (Nat.xor_lt_two_pow htl hlow)
                  clear HTT
                  generalize 2 ^ s - 1 = low at *
                  cases hb : bitN (G p) s == 1
                  · rw [hb] at HZ2
                    go_wp2_with (first | (go_at_call 123; refine (HH.out _ _ _ hgp (by omega)).mono ?_; rintro e w7 ⟨rfl, rfl⟩; rw [hb]))
                    refine ⟨?_, by simp [intOf]⟩
                    (repeat apply Exists.intro)
                    exact ⟨⟨s, t, by omega, rfl, rfl, ⟨htl, HZ2.out⟩, trivial⟩, rfl⟩
                  · rw [hb] at HZ2
                    go_wp2_with (first | (go_at_call 123; refine (HH.out _ _ _ hgp (by omega)).mono ?_; rintro e w7 ⟨rfl, rfl⟩; rw [hb]))
                    refine ⟨?_, by simp [intOf]⟩
                    (repeat apply Exists.intro)
                    exact ⟨⟨s, t ^^^ low, by omega, rfl, rfl, ⟨hxl.out, HZ2.out⟩, trivial⟩, rfl⟩
                · have hr1 : r - 1 = 0 := by omega
                  have HT3 : Hid (t = tW (G p) (wd - 1) 0) := by have := HTT.out.2; rw [hr1] at this; exact this
                  have htl := HTT.out.1
                  rw [← HT3.out] at HV3
                  have hq : ¬ (1 : Int) ≤ (r : Int) - 1 := by omega
                  clear HTT HT3 hr1
                  have HXL : Hid (∀ i, i ≤ p + 1 → ∀ j, j < p + 1 → xorTo t G i j < 2 ^ 62) := by
                    intro i
                    induction i with
                    | zero => exact fun _ => HGb.out
                    | succ i ih => exact fun hi => updN_lt (ih (by omega)) (Nat.xor_lt_two_pow (ih (by omega) _ (by omega)) htl)
                  go_wp2_with fail
                  go_loopw [13, 85] (fun _ i wr => ∃ k : Nat, k ≤ p + 1 ∧ i = .int .i64 k ∧ rowN wr (w.heap.size + 1) 172 4 (xorTo t G k) ∧ Hid (Below (w.heap.size + 1) W0 wr)) (fun _ i _ => p + 1 - (intOf i).toNat)
                  case atStart => exact ⟨0, by omega, rfl, hrg, HBg.out⟩
                  case round =>
                    obtain ⟨k, hk, rfl, hrx, HBx⟩ := hrel
                    by_cases hlt : k < p + 1
                    · have HR : Hid (xorTo t G (k + 1) = updN (xorTo t G k) k (xorTo t G k k ^^^ t)) := rfl
                      have hx := xor_i (HXL.out k (by omega) k hlt) htl
                      generalize xorTo t G k = F at *
                      have x0 := hrx.cell (i := k) (by omega)
                      have xz := hrx.frozen k
                      go_wp2_with fail
                      exact ⟨⟨k + 1, by omega, by go_num, by rw [HR.out]; exact set_natH hrx k _, HBx.out.setCell (by show w.heap.size + 1 ≤ w.heap.size + 1; omega) _⟩, by simp [intOf]; omega⟩
                    · obtain rfl : k = p + 1 := by omega
                      obtain ⟨-, f5⟩ := KF.out wr HBx.out
                      have hnw : (p + 1) * wd ≤ 60 := Nat.mul_le_mul hn hw
                      have HI := Lib.hid (s_interleaved wr (w.heap.size + 1) 172 4 (p + 1) 4 wd (xorTo t G (p + 1)) hrx hn (by omega) (HXL.out (p + 1) (Nat.le_refl _)) hnw (by omega))
                      rw [HV3.out] at HI
                      clear HV3 HXL
                      go_wp2_with (first | (go_at_call 124; refine HI.out.mono ?_; rintro e w9 ⟨rfl, r9, rfl⟩))
                      go_ret
                      exact ⟨rfl, drewB (HBW.out _ HBx.out) r9⟩
end Go.Proofs.YtogmbehomilalaaGreatDoor
end

/- Boxes that have an order. -/
section
namespace Go.Proofs.YtogmbehomilalaaGreatDoor
open Go Go.RowKit Go.Deep

theorem s_wellFormed (w : World) (L H : Option Addr) (n c m d : Nat) : Calls Tryz.prog 88 #[BoxW L H n c m d] w fun e w' => e = .returned (.bool (n == m && (decide (1 ≤ n) && decide (n ≤ 4)))) ∧ w' = w.alloc (.cells #[.slice L n c, .slice H m d] 45) := by
  obtain ⟨l0, l1⟩ := box_two w (.slice L n c) (.slice H m d) 45 _ (Below.refl _ _)
  have hnm : ((n : Int) == (m : Int)) = (n == m) := by rw [Bool.eq_iff_iff, beq_iff_eq, beq_iff_eq]; omega
  have h1 : decide ((1 : Int) ≤ (n : Int)) = decide (1 ≤ n) := by rw [decide_eq_decide]; omega
  have h4 : decide ((n : Int) ≤ 4) = decide (n ≤ 4) := by rw [decide_eq_decide]; omega
  go_enter Tryz.func88, Tryz.ntmps88
  cases hb : n == m
  · rw [hb] at hnm
    go_wp2
    go_ret
    exact ⟨rfl, rfl⟩
  · rw [hb] at hnm
    by_cases g1 : 1 ≤ n
    · rw [decide_eq_true g1] at h1 ⊢
      go_wp2
      go_ret
      exact ⟨rfl, rfl⟩
    · rw [decide_eq_false g1] at h1 ⊢
      go_wp2
      go_ret
      exact ⟨rfl, rfl⟩

/-- How many coordinates the first k bounds have. -/
def volO (lo hi : Nat → Int) : Nat → Nat
  | 0 => 1
  | k + 1 => volO lo hi k * (hi k - lo k + 1).toNat
theorem volO_le {lo hi : Nat → Int} {n : Nat} (h : ∀ k, k < n → lo k ≤ hi k) : ∀ m k, k + m = n → volO lo hi k ≤ volO lo hi n := by
  intro m
  induction m with
  | zero => intro k hk; obtain rfl : k = n := by omega
            exact Nat.le_refl _
  | succ m ih =>
    intro k hk
    refine Nat.le_trans ?_ (ih (k + 1) (by omega))
    rw [volO]
    exact Nat.le_mul_of_pos_right _ (by have := h k (by omega); omega)

theorem usub {x y : Int} {m : Nat} (h1 : -9223372036854775808 ≤ x) (h2 : y ≤ 1073741824) (h3 : x ≤ y) (hm : (m : Int) = y - x) : IntKind.u64.wrap (IntKind.u64.wrap y - IntKind.u64.wrap x) = (m : Int) := by
  rw [IntKind.wrap_u64, IntKind.wrap_u64, IntKind.wrap_u64]
  omega
theorem wrap_u {n : Int} (h1 : 0 ≤ n) (h2 : n < 18446744073709551616) : IntKind.u64.wrap n = n := by
  rw [IntKind.wrap_u64]
  omega
set_option maxRecDepth 100000 in
set_option maxHeartbeats 4000000 in
theorem s_orderError (w : World) (S O L H : Option Addr) (s sc o oc n c d : Nat) (ord tile form codec : Int) (lo hi : Nat → Int) (hl : IntsAt w L n lo) (hh : IntsAt w H n hi) (h1 : 1 ≤ n) (h4 : n ≤ 4) (ho : ordB ord tile = true)
    (hb : ∀ k, k < n → -9223372036854775808 ≤ lo k ∧ lo k ≤ hi k ∧ hi k ≤ 1073741824 ∧ hi k - lo k < 4096) (hv : volO lo hi n ≤ 4096) :
    Calls Tryz.prog 46 #[LayV S s sc O o oc ord tile form codec, BoxW L H n c n d, .int .i64 n] w fun e w' => e = .returned (.int .i64 0) ∧ Below w.heap.size w w' := by
  have HLo := Lib.hid hl
  have HHi := Lib.hid hh
  have HB := Lib.hid hb
  have HVO : Hid (∀ W, Calls Tryz.prog 87 #[LayV S s sc O o oc ord tile form codec] W fun e w' => e = .returned (.bool true) ∧ Below W.heap.size W w') := fun W => by rw [← ho]; exact s_validOrder S O s sc o oc ord tile form codec W
  have hwf : (n == n && (decide (1 ≤ n) && decide (n ≤ 4))) = true := by simp [h1, h4]
  have HWF : Hid (∀ W, Calls Tryz.prog 88 #[BoxW L H n c n d] W fun e w' => e = .returned (.bool true) ∧ Below W.heap.size W w') := fun W => (s_wellFormed W L H n c n d).mono fun e w' h => ⟨by rw [h.1, hwf], by rw [h.2]; exact (Below.refl _ _).alloc (Nat.le_refl _) _⟩
  have HVL : Hid (∀ k, k ≤ n → volO lo hi k ≤ 4096) := fun k hk => Nat.le_trans (volO_le (fun j hj => (HB.out j hj).2.1) (n - k) k (by omega)) hv
  clear hl hh hb hv ho hwf
  have KB := Lib.hid (lay_box w S O s sc o oc ord tile form codec)
  have HB1 : Hid (Below w.heap.size w (w.alloc (.cells #[.slice S s sc, .slice O o oc, .int .i64 ord, .int .i64 tile, .int .i64 form, .int .i64 codec] 43))) := (Below.refl _ _).alloc (Nat.le_refl _) _
  have hz1 : (w.alloc (.cells #[.slice S s sc, .slice O o oc, .int .i64 ord, .int .i64 tile, .int .i64 form, .int .i64 codec] 43)).heap.size = w.heap.size + 1 := by simp
  go_enter Tryz.func46, Tryz.ntmps46
  go_wp2_with fail
  generalize w.alloc (.cells #[.slice S s sc, .slice O o oc, .int .i64 ord, .int .i64 tile, .int .i64 form, .int .i64 codec] 43) = Wa at *
  have K2 := Lib.hid (box_two Wa (.slice L n c) (.slice H n d) 45)
  have HB2 : Hid (Below Wa.heap.size Wa (Wa.alloc (.cells #[.slice L n c, .slice H n d] 45))) := (Below.refl _ _).alloc (Nat.le_refl _) _
  rw [hz1] at K2 HB2 KB
  have HB3 : Hid (Below w.heap.size w (Wa.alloc (.cells #[.slice L n c, .slice H n d] 45))) := Below.trans HB1.out (HB2.out.mono (by omega))
  generalize hWb : Wa.alloc (.cells #[.slice L n c, .slice H n d] 45) = Wb at *
  have hz2 : Wb.heap.size = w.heap.size + 2 := by rw [← hWb]; simp; omega
  clear hWb
  obtain ⟨l0, l1, l2, l3, l4, l5⟩ := KB.out Wb HB2.out
  go_wp2_with (first
    | (go_at_call 87; refine (HVO.out _).mono ?_; rintro e w1 ⟨rfl, hb1⟩; obtain ⟨m0, m1⟩ := K2.out w1 hb1)
    | (go_at_call 88; refine (HWF.out _).mono ?_; rintro e w2 ⟨rfl, hb2⟩; have hb12 := st hb1 hb2; obtain ⟨n0, n1⟩ := K2.out w2 hb12))
  have HB4 : Hid (Below Wb.heap.size Wb w2) := hb12
  clear hb12 hb1 hb2 m0 m1 n0 n1 l0 l1 l2 l3 l4 l5
  go_loopw [7, 8, 29] (fun _ _ i wr => ∃ k : Nat, k ≤ n ∧ i = .int .i64 k ∧ wr = w2) (fun _ _ i _ => n - (intOf i).toNat)
  case atStart => exact ⟨0, Nat.zero_le _, rfl, rfl⟩
  case round =>
    obtain ⟨k, hk, rfl, rfl⟩ := hrel
    have HBw : Hid (Below w.heap.size w wr) := st HB3.out HB4.out
    obtain ⟨m0, m1⟩ := K2.out wr HB4.out
    by_cases hlt : k < n
    · obtain ⟨b1, o1, rfl, _, hc1⟩ := (HHi.out.below HBw.out) (by omega)
      have x0 := hc1 k hlt
      obtain ⟨b2, o2, rfl, _, hc2⟩ := (HLo.out.below HBw.out) (by omega)
      have y0 := hc2 k hlt
      clear hc1 hc2
      obtain ⟨f1, f2, f3, f4⟩ := HB.out k hlt
      generalize lo k = x at *
      generalize hi k = y at *
      go_wp2_with fail
      exact ⟨⟨k + 1, by omega, by go_num, trivial⟩, by simp [intOf]; omega⟩
    · obtain rfl : k = n := by omega
      obtain ⟨wq, hwq⟩ : ∃ wq, wq = wr := ⟨_, rfl⟩
      rw [← hwq] at m0 m1 HB4 HBw
      rw [← hwq]
      clear hwq
      go_wp2_with fail
      go_loopw [9, 10, 11, 12, 49] (fun v _ _ _ i wr => ∃ j : Nat, j ≤ k ∧ i = .int .i64 j ∧ v = .int .u64 (volO lo hi j : Nat) ∧ wr = wq) (fun _ _ _ _ i _ => k - (intOf i).toNat)
      case atStart => exact ⟨0, Nat.zero_le _, rfl, rfl, rfl⟩
      case round =>
        obtain ⟨j, hj, rfl, rfl, rfl⟩ := hrel
        have hvl := HVL.out j hj
        by_cases hlt : j < k
        · obtain ⟨b1, o1, rfl, _, hc1⟩ := (HHi.out.below HBw.out) (by omega)
          have x0 := hc1 j hlt
          obtain ⟨b2, o2, rfl, _, hc2⟩ := (HLo.out.below HBw.out) (by omega)
          have y0 := hc2 j hlt
          clear hc1 hc2
          obtain ⟨f1, f2, f3, f4⟩ := HB.out j hlt
          obtain ⟨mo, hmo⟩ : ∃ mo : Nat, (mo : Int) = hi j - lo j := ⟨(hi j - lo j).toNat, by omega⟩
          have HR : Hid (volO lo hi (j + 1) = volO lo hi j * (mo + 1)) := by show _ = _; rw [volO, show (hi j - lo j + 1).toNat = mo + 1 by omega]
          generalize volO lo hi j = V at *
          generalize lo j = x at *
          generalize hi j = y at *
          have hus := usub f1 f3 f2 hmo
          have hm2 : mo < 4096 := by omega
          have HM : Hid (IntKind.u64.wrap ((V : Int) * ((mo : Int) + 1)) = ((V * (mo + 1) : Nat) : Int)) := by
            show _ = _
            have h9 : V * (mo + 1) ≤ 4096 * 4096 := Nat.mul_le_mul hvl (by omega)
            have h8 : ((V * (mo + 1) : Nat) : Int) = (V : Int) * ((mo : Int) + 1) := by rw [Int.natCast_mul]; rfl
            rw [← h8]
            exact wrap_u (by omega) (by omega)
          have hw1 : IntKind.u64.wrap ((mo : Int) + 1) = (mo : Int) + 1 := wrap_u (by omega) (by omega)
          clear hmo
          go_wp2_with fail
          exact ⟨⟨j + 1, by omega, by go_num, by rw [HM.out, HR.out], trivial⟩, by simp [intOf]; omega⟩
        · obtain rfl : j = k := by omega
          generalize volO lo hi j = V at *
          go_wp2_with fail
          go_ret
          exact ⟨rfl, HBw.out⟩
end Go.Proofs.YtogmbehomilalaaGreatDoor
end

/- The keys of an order: those of the Hilbert order. -/
section
namespace Go.Proofs.YtogmbehomilalaaGreatDoor
open Go Go.RowKit Go.Deep

/-- The number of bits of the first k extents' greatest offsets. -/
def wdTo (lo hi : Nat → Int) : Nat → Nat
  | 0 => 0
  | k + 1 => max (wdTo lo hi k) (Lib.bitLen (hi k - lo k).toNat)
theorem frm_row (L H : Value) (tile : Int) (u : Nat) (W : World) (b : Nat) (h : W.heap[b]? = some (.cells #[L, H, .int .i64 tile, .int .i64 (u : Nat)] 148 (0, 0))) : W.cell? ⟨b, 0, none⟩ = some L ∧ W.cell? ⟨b, 1, none⟩ = some H ∧ W.cell? ⟨b, 2, none⟩ = some (.int .i64 tile) ∧ W.cell? ⟨b, 3, none⟩ = some (.int .i64 (u : Nat)) ∧ W.frozen? ⟨b, 3, none⟩ = false := by
  refine ⟨?_, ?_, ?_, ?_, by simp [World.frozen?, h]⟩ <;> (rw [cell_of_row _ _ _ _ _ _ h]; rfl)

theorem frm_set {W : World} {b : Nat} {L H T U : Value} (h : W.heap[b]? = some (.cells #[L, H, T, U] 148 (0, 0))) (v : Value) : (W.setCell ⟨b, 3, none⟩ v).heap[b]? = some (.cells #[L, H, T, v] 148 (0, 0)) := by
  simp [World.setCell, Array.getElem?_modify, h]
set_option maxRecDepth 100000 in
set_option maxHeartbeats 4000000 in
theorem s_keys (w : World) (S O L H : Option Addr) (s sc o oc n c d : Nat) (tile form codec : Int) (lo hi : Nat → Int) (hl : IntsAt w L n lo) (hh : IntsAt w H n hi) (hn : n ≤ 1000)
    (hb : ∀ k, k < n → -9223372036854775808 ≤ lo k ∧ lo k ≤ hi k ∧ hi k ≤ 1073741824 ∧ hi k - lo k < 4096) :
    Calls Tryz.prog 49 #[LayV S s sc O o oc 2 tile form codec, BoxW L H n c n d] w fun e w' => e = .returned (.func (.func 94) #[FrmV L n c H n d tile (wdTo lo hi n : Nat)] #[]) ∧ Below w.heap.size w w' := by
  have HLo := Lib.hid hl
  have HHi := Lib.hid hh
  have HB := Lib.hid hb
  clear hl hh hb
  have HBL := Lib.hid Tryz.bits_Len
  have KB := Lib.hid (lay_box w S O s sc o oc 2 tile form codec)
  have HB1 : Hid (Below w.heap.size w (w.alloc (.cells #[.slice S s sc, .slice O o oc, .int .i64 2, .int .i64 tile, .int .i64 form, .int .i64 codec] 43))) := (Below.refl _ _).alloc (Nat.le_refl _) _
  have hz1 : (w.alloc (.cells #[.slice S s sc, .slice O o oc, .int .i64 2, .int .i64 tile, .int .i64 form, .int .i64 codec] 43)).heap.size = w.heap.size + 1 := by simp
  go_enter Tryz.func49, Tryz.ntmps49
  go_wp2_with fail
  generalize w.alloc (.cells #[.slice S s sc, .slice O o oc, .int .i64 2, .int .i64 tile, .int .i64 form, .int .i64 codec] 43) = Wa at *
  have K2 := Lib.hid (box_two Wa (.slice L n c) (.slice H n d) 45)
  have HB2 : Hid (Below Wa.heap.size Wa (Wa.alloc (.cells #[.slice L n c, .slice H n d] 45))) := (Below.refl _ _).alloc (Nat.le_refl _) _
  rw [hz1] at K2 HB2 KB
  have HB3 : Hid (Below w.heap.size w (Wa.alloc (.cells #[.slice L n c, .slice H n d] 45))) := Below.trans HB1.out (HB2.out.mono (by omega))
  generalize hWb : Wa.alloc (.cells #[.slice L n c, .slice H n d] 45) = Wb at *
  have hz2 : Wb.heap.size = w.heap.size + 2 := by rw [← hWb]; simp; omega
  clear hWb
  obtain ⟨l0, l1, l2, l3, l4, l5⟩ := KB.out Wb HB2.out
  obtain ⟨m0, m1⟩ := K2.out Wb (Below.refl _ _)
  go_wp2_with fail
  have hr0 : (Wb.alloc (.cells #[.slice L n c, .slice H n d, .int .i64 tile, .int .i64 0] 148)).heap[w.heap.size + 1 + 1]? = some (.cells #[.slice L n c, .slice H n d, .int .i64 tile, .int .i64 ((0 : Nat) : Int)] 148 (0, 0)) := by
    have h := heap_alloc_new Wb (.cells #[.slice L n c, .slice H n d, .int .i64 tile, .int .i64 0] 148)
    rw [hz2] at h
    exact h
  have HB5 : Hid (Below Wb.heap.size Wb (Wb.alloc (.cells #[.slice L n c, .slice H n d, .int .i64 tile, .int .i64 0] 148))) := (Below.refl _ _).alloc (Nat.le_refl _) _
  generalize Wb.alloc (.cells #[.slice L n c, .slice H n d, .int .i64 tile, .int .i64 0] 148) = Wc at *
  clear m0 m1 l0 l1 l2 l3 l4 l5
  go_loopw [6, 7, 15] (fun _ _ i wr => ∃ k u : Nat, k ≤ n ∧ i = .int .i64 k ∧ wr.heap[w.heap.size + 1 + 1]? = some (.cells #[.slice L n c, .slice H n d, .int .i64 tile, .int .i64 (u : Int)] 148 (0, 0)) ∧ Hid (u = wdTo lo hi k) ∧ Hid (Below Wb.heap.size Wb wr)) (fun _ _ i _ => n - (intOf i).toNat)
  case atStart => exact ⟨0, 0, Nat.zero_le _, rfl, hr0, rfl, HB5.out⟩
  case round =>
    obtain ⟨k, u, hk, rfl, hrow, HU, HBr⟩ := hrel
    obtain ⟨m0, m1⟩ := K2.out wr HBr.out
    obtain ⟨l0, -, l2, -⟩ := KB.out wr (Below.trans HB2.out (HBr.out.mono (by omega)))
    have HBw : Hid (Below w.heap.size w wr) := Below.trans HB3.out (HBr.out.mono (by omega))
    obtain ⟨g0, g1, g2, g3, gz⟩ := frm_row _ _ _ _ _ _ hrow
    by_cases hlt : k < n
    · obtain ⟨b1, o1, rfl, _, hc1⟩ := (HHi.out.below HBw.out) (by omega)
      have x0 := hc1 k hlt
      obtain ⟨b2, o2, rfl, _, hc2⟩ := (HLo.out.below HBw.out) (by omega)
      have y0 := hc2 k hlt
      clear hc1 hc2
      obtain ⟨f1, f2, f3⟩ := HB.out k hlt
      obtain ⟨mo, hmo⟩ : ∃ mo : Nat, (mo : Int) = hi k - lo k := ⟨(hi k - lo k).toNat, by omega⟩
      have HR : Hid (wdTo lo hi (k + 1) = max (wdTo lo hi k) (Lib.bitLen mo)) := by show _ = _; rw [wdTo, show (hi k - lo k).toNat = mo by omega]
      rw [← HU.out] at HR
      generalize lo k = x at *
      generalize hi k = y at *
      have hsu : IntKind.i64.wrap (y - x) = y - x := w64 (by omega) (by omega)
      have HL9 : Hid (∀ W, Calls Tryz.prog 92 #[.int .u64 (IntKind.u64.wrap (y - x))] W fun e w' => e = .returned (.int .i64 (Lib.bitLen mo)) ∧ w' = W) := fun W => by
        rw [wrap_u (n := y - x) (by omega) (by omega)]
        have h := HBL.out (y - x) W (by omega) (by omega)
        rwa [← hmo, Int.toNat_natCast, hmo] at h
      clear l0 l2 g0 g1 g2
      go_wp2_with fail
      refine wp_region_still_tail 13 (by kernel_rfl) (by kernel_rfl) ?_
      simp only [List.take_succ_cons, List.take_zero, List.drop_succ_cons, List.drop_zero]
      iterate 10 still_step
      still_call (HL9.out _)
      iterate 2 still_step
      refine wpStill_nil ?_
      change wpList _ _ _ _ _ wr.drew
      have hrow2 : wr.drew.heap[w.heap.size + 1 + 1]? = some (.cells #[.slice (some ⟨b2, o2, none⟩) n c, .slice (some ⟨b1, o1, none⟩) n d, .int .i64 tile, .int .i64 (u : Int)] 148 (0, 0)) := hrow
      have HBr2 : Hid (Below Wb.heap.size Wb wr.drew) := Below.drew HBr.out
      clear g3 gz hrow HBr x0 y0 m0 m1 hsu
      generalize wr.drew = w5 at *
      obtain ⟨-, -, -, g3, gz⟩ := frm_row _ _ _ _ _ _ hrow2
      go_wp2
      have hmx : max (u : Int) (Lib.bitLen mo : Nat) = ((max u (Lib.bitLen mo) : Nat) : Int) := by omega
      exact ⟨⟨k + 1, max u (Lib.bitLen mo), by omega, by go_num, by rw [frm_set hrow2, hmx], HR.out.symm, HBr2.out.setCell (by show Wb.heap.size ≤ w.heap.size + 1 + 1; omega) _⟩, by simp [intOf]; omega⟩
    · obtain rfl : k = n := by omega
      go_wp2
      go_ret
      exact ⟨by rw [← HU.out]; rfl, HBw.out⟩
end Go.Proofs.YtogmbehomilalaaGreatDoor
end

/- Coordinates that are yielded, as a list of integers. -/
section
namespace Go.Proofs.YtogmbehomilalaaGreatDoor
open Go Go.RowKit Go.Deep Go.Shelf

theorem crd_ints {n : Nat} {lo : Nat → Int} {e : Nat → Nat} {A t : Nat} {v : Value} {W : World} (h : CrdAt n lo e A t v W) : ∃ P c, v = .slice P n c ∧ IntsAt W P n (fun k => crdZ lo e n t k) := by
  obtain ⟨b, c, g, rfl, _, h3, h4, h5⟩ := h
  exact ⟨_, _, rfl, fun _ => ⟨b, 0, rfl, h4.lt, fun k hk => by rw [Nat.zero_add, h4.cell (by omega), h5 k hk]⟩⟩
end Go.Proofs.YtogmbehomilalaaGreatDoor
end

/- The coordinates of a box in the Hilbert order. -/
section
namespace Go.Proofs.YtogmbehomilalaaGreatDoor
open Go Go.RowKit Go.Deep Go.Shelf

/-- The key of the t-th coordinates. -/
def hilK (n wd : Nat) (lo : Nat → Int) (e : Nat → Nat) (t : Nat) : Int := (hilN n wd (fun k => if k < n then (crdZ lo e n t k - lo k).toNat else 0) : Nat)
set_option maxRecDepth 100000 in
set_option maxHeartbeats 4000000 in
theorem s_Seq (w : World) (S O L H : Option Addr) (s sc o oc n c d : Nat) (tile form codec : Int) (lo hi : Nat → Int) (e : Nat → Nat) (hl : IntsAt w L n lo) (hh : IntsAt w H n hi) (h1 : 1 ≤ n) (h4 : n ≤ 4) (ho : ordB 2 tile = true)
    (hb : ∀ k, k < n → -9223372036854775808 ≤ lo k ∧ lo k ≤ hi k ∧ hi k ≤ 1073741824 ∧ hi k - lo k < 4096) (he : ∀ k, k < n → 1 ≤ e k ∧ hi k = lo k + e k - 1) (hv : volO lo hi n ≤ 4096) (hv2 : volC e n 0 ≤ 4096) (hw : wdTo lo hi n ≤ 15) :
    Calls Tryz.prog 14 #[LayV S s sc O o oc 2 tile form codec, BoxW L H n c n d] w fun e' w' => ∃ b, e' = .returned (.tuple #[.slice (some ⟨b, 0, none⟩) (volC e n 0) (volC e n 0), .int .i64 0]) ∧ ListsAt w' (some ⟨b, 0, none⟩) (volC e n 0) (fun _ => n) (fun t k => crdZ lo e n ((pairR (hilK n (wdTo lo hi n) lo e) (volC e n 0))[t]!).2 k) ∧ Below w.heap.size w w' := by
  have hN1 : 1 ≤ volC e n 0 := volC_pos' (fun k hk => (he k hk).1) (Nat.zero_le _)
  have HOE : Hid (∀ W, Below w.heap.size w W → Calls Tryz.prog 46 #[LayV S s sc O o oc 2 tile form codec, BoxW L H n c n d, .int .i64 n] W fun e w' => e = .returned (.int .i64 0) ∧ Below W.heap.size W w') := fun W hW => s_orderError W S O L H s sc o oc n c d 2 tile form codec lo hi (hl.below hW) (hh.below hW) h1 h4 ho hb hv
  have HCO : Hid (∀ W, Calls Tryz.prog 48 #[BoxW L H n c n d] W fun e w' => ∃ Bb, e = .returned (.func (.func 91) #[] #[.pointer (some ⟨Bb, 0, none⟩)]) ∧ Below W.heap.size W w' ∧ Bb < w'.heap.size ∧ w'.heap[Bb]? = some (.cells #[.slice L n c, .slice H n d] 45 (0, 0))) := fun W => (c_coordinates W (.slice L n c) (.slice H n d)).mono fun e' w' h => by
    obtain ⟨rfl, rfl⟩ := h
    exact ⟨_, rfl, (Below.refl _ _).alloc (Nat.le_refl _) _, by simp, heap_alloc_new W _⟩
  have HKE : Hid (∀ W, Below w.heap.size w W → Calls Tryz.prog 49 #[LayV S s sc O o oc 2 tile form codec, BoxW L H n c n d] W fun e w' => e = .returned (.func (.func 94) #[FrmV L n c H n d tile (wdTo lo hi n : Nat)] #[]) ∧ Below W.heap.size W w') := fun W hW => s_keys W S O L H s sc o oc n c d tile form codec lo hi (hl.below hW) (hh.below hW) (by omega) hb
  have HSO : Hid (∀ W Bb W1, Below w.heap.size w W1 → Below W1.heap.size W1 W → Bb < W1.heap.size → W1.heap[Bb]? = some (.cells #[.slice L n c, .slice H n d] 45 (0, 0)) → Calls Tryz.prog 47 #[.func (.func 91) #[] #[.pointer (some ⟨Bb, 0, none⟩)], .func (.func 94) #[FrmV L n c H n d tile (wdTo lo hi n : Nat)] #[], .func (.func 50) #[] #[]] W fun e' w' => ∃ b, e' = .returned (.slice (some ⟨b, 0, none⟩) (volC e n 0) (volC e n 0)) ∧ ListsAt w' (some ⟨b, 0, none⟩) (volC e n 0) (fun _ => n) (fun t k => crdZ lo e n ((pairR (hilK n (wdTo lo hi n) lo e) (volC e n 0))[t]!).2 k) ∧ Below W.heap.size W w') := fun W Bb W1 hW1 hW hB hBb => by
    have hWw : Below w.heap.size w W := hW1.trans (hW.mono hW1.size)
    obtain ⟨bl, ol, rfl, hbl, hcl⟩ := (hl.below hWw) (by omega)
    obtain ⟨bh, oh, rfl, hbh, hch⟩ := (hh.below hWw) (by omega)
    have hb2 : W.heap[Bb]? = _ := (hW.block Bb hB).trans hBb
    have hB2 : Bb < W.heap.size := Nat.lt_of_lt_of_le hB hW.size
    refine (c_sorted W _ _ (enters_of Tryz.func91 (by kernel_rfl) rfl) (N := volC e n 0) (by omega) hN1
      (fun m hm => crd_iter m hm Bb bl ol c bh oh d n lo hi e h1 (by omega) (fun k hk => ⟨(he k hk).1, (he k hk).2, (hb k hk).1, by have := (hb k hk).2.2.1; omega⟩)) (crd_elem n lo e) (fun A t v W h => by obtain ⟨b, c, g, h, _⟩ := h; exact ⟨_, _, _, h⟩)
      (fun U hU => ?_) 94 _ (enters_of Tryz.func94 (by kernel_rfl) rfl) (hilK n (wdTo lo hi n) lo e) ?_).mono ?_
    · have hU2 := (hU.block Bb hB2).trans hb2
      exact ⟨by rw [cell_of_row _ _ _ _ _ _ hU2]; rfl, by rw [cell_of_row _ _ _ _ _ _ hU2]; rfl, fun k hk => ⟨(hU.cell (p := ⟨bl, ol + k, none⟩) hbl).trans (hcl k hk), (hU.cell (p := ⟨bh, oh + k, none⟩) hbh).trans (hch k hk)⟩⟩
    · intro A t v U ht hv hU
      obtain ⟨P, cc, rfl, hP⟩ := crd_ints hv
      have hUw : Below w.heap.size w U := hWw.trans (hU.mono hWw.size)
      exact s_hilbert U (some ⟨bl, ol, none⟩) (some ⟨bh, oh, none⟩) P n c n d cc tile _ lo _ (hl.below hUw) hP h1 h4 hw (fun k hk => by
        have hd := digC_lt (t := t) (fun k hk => (he k hk).1) hk
        have hk1 := he k hk
        have hk2 := hb k hk
        unfold crdZ
        omega)
    · rintro e' w' ⟨b, A, xs, rfl, q1, q2, q3, q4⟩
      refine ⟨b, rfl, fun _ => ⟨b, 0, rfl, q2.lt, fun k hk => ?_⟩, q4⟩
      obtain ⟨P, cc, hx, hP⟩ := crd_ints (q3 _ (pairR_lt (hilK n (wdTo lo hi n) lo e) (volC e n 0) k hk))
      exact ⟨P, cc, by rw [Nat.zero_add, q2.cell hk, hx], hP, by show n ≤ 1000000; omega⟩
  have KB := Lib.hid (lay_box w S O s sc o oc 2 tile form codec)
  have HB1 : Hid (Below w.heap.size w (w.alloc (.cells #[.slice S s sc, .slice O o oc, .int .i64 2, .int .i64 tile, .int .i64 form, .int .i64 codec] 43))) := (Below.refl _ _).alloc (Nat.le_refl _) _
  have hz1 : (w.alloc (.cells #[.slice S s sc, .slice O o oc, .int .i64 2, .int .i64 tile, .int .i64 form, .int .i64 codec] 43)).heap.size = w.heap.size + 1 := by simp
  generalize hilK n (wdTo lo hi n) lo e = ky at *
  generalize wdTo lo hi n = wd at *
  generalize volC e n 0 = N at *
  clear hl hh h1 h4 ho hb he hv hv2 hw hN1
  go_enter Tryz.func14, Tryz.ntmps14
  go_wp2_with fail
  generalize w.alloc (.cells #[.slice S s sc, .slice O o oc, .int .i64 2, .int .i64 tile, .int .i64 form, .int .i64 codec] 43) = Wa at *
  have K2 := Lib.hid (box_two Wa (.slice L n c) (.slice H n d) 45)
  have HB2 : Hid (Below Wa.heap.size Wa (Wa.alloc (.cells #[.slice L n c, .slice H n d] 45))) := (Below.refl _ _).alloc (Nat.le_refl _) _
  rw [hz1] at K2 HB2 KB
  have HB3 : Hid (Below w.heap.size w (Wa.alloc (.cells #[.slice L n c, .slice H n d] 45))) := Below.trans HB1.out (HB2.out.mono (by omega))
  generalize hWb : Wa.alloc (.cells #[.slice L n c, .slice H n d] 45) = Wb at *
  have hz2 : Wb.heap.size = w.heap.size + 2 := by rw [← hWb]; simp; omega
  clear hWb
  have KK : Hid (∀ W, Below Wb.heap.size Wb W → (W.cell? ⟨w.heap.size, 0, none⟩ = some (.slice S s sc) ∧ W.cell? ⟨w.heap.size, 1, none⟩ = some (.slice O o oc) ∧ W.cell? ⟨w.heap.size, 2, none⟩ = some (.int .i64 2) ∧ W.cell? ⟨w.heap.size, 3, none⟩ = some (.int .i64 tile) ∧ W.cell? ⟨w.heap.size, 4, none⟩ = some (.int .i64 form) ∧ W.cell? ⟨w.heap.size, 5, none⟩ = some (.int .i64 codec)) ∧ W.cell? ⟨w.heap.size + 1, 0, none⟩ = some (.slice L n c) ∧ W.cell? ⟨w.heap.size + 1, 1, none⟩ = some (.slice H n d)) := fun W hW => ⟨KB.out W (Below.trans HB2.out (hW.mono (by omega))), K2.out W hW⟩
  clear KB K2 HB1 HB2
  obtain ⟨⟨l0, l1, l2, l3, l4, l5⟩, m0, m1⟩ := KK.out Wb (Below.refl _ _)
  go_wp2_with (first
    | (go_at_call 46; refine (HOE.out _ HB3.out).mono ?_; rintro e w1 ⟨rfl, hb1⟩; obtain ⟨⟨l0, l1, l2, l3, l4, l5⟩, m0, m1⟩ := KK.out w1 hb1))
  clear l0 l1 l2 l3 l4 l5 m0 m1
  have B0 : Below w.heap.size w w1 := st HB3.out hb1
  have KC : Hid (∀ W, Below w1.heap.size w1 W → (W.cell? ⟨w.heap.size, 0, none⟩ = some (.slice S s sc) ∧ W.cell? ⟨w.heap.size, 1, none⟩ = some (.slice O o oc) ∧ W.cell? ⟨w.heap.size, 2, none⟩ = some (.int .i64 2) ∧ W.cell? ⟨w.heap.size, 3, none⟩ = some (.int .i64 tile) ∧ W.cell? ⟨w.heap.size, 4, none⟩ = some (.int .i64 form) ∧ W.cell? ⟨w.heap.size, 5, none⟩ = some (.int .i64 codec)) ∧ W.cell? ⟨w.heap.size + 1, 0, none⟩ = some (.slice L n c) ∧ W.cell? ⟨w.heap.size + 1, 1, none⟩ = some (.slice H n d)) := fun W hW => KK.out W (hb1.trans (hW.mono hb1.size))
  have B0d : Below w1.heap.size w1 w1.drew := Below.drew (Below.refl _ _)
  clear KK HB3
  go_region_held3 (fun W => (W.cell? ⟨w.heap.size, 0, none⟩ = some (.slice S s sc) ∧ W.cell? ⟨w.heap.size, 1, none⟩ = some (.slice O o oc) ∧ W.cell? ⟨w.heap.size, 2, none⟩ = some (.int .i64 2) ∧ W.cell? ⟨w.heap.size, 3, none⟩ = some (.int .i64 tile) ∧ W.cell? ⟨w.heap.size, 4, none⟩ = some (.int .i64 form) ∧ W.cell? ⟨w.heap.size, 5, none⟩ = some (.int .i64 codec)) ∧ W.cell? ⟨w.heap.size + 1, 0, none⟩ = some (.slice L n c) ∧ W.cell? ⟨w.heap.size + 1, 1, none⟩ = some (.slice H n d))
    (first | exact KC.out _ (st (st hb2 hb3) hb4) | exact KC.out _ (st hb2 hb3) | exact KC.out _ hb2 | exact KC.out _ B0d | exact KC.out _ (Below.refl _ _))
    (first
      | (go_at_call 48; refine (HCO.out _).mono ?_; rintro e w2 ⟨Bb, rfl, hb2', hk2, hk3⟩; have hb2 : Below w1.heap.size w1 w2 := st B0d hb2')
      | (go_at_call 49; refine (HKE.out _ (st B0 hb2)).mono ?_; rintro e w3 ⟨rfl, hb3⟩)
      | (go_at_call 47; refine (HSO.out _ Bb w2 (st B0 hb2) hb3 hk2 hk3).mono ?_; rintro e w4 ⟨b, rfl, hL, hb4⟩))
  all_goals
    go_wp2
    go_ret2
    exact ⟨b, rfl, hL, st B0 (st (st hb2 hb3) hb4)⟩
end Go.Proofs.YtogmbehomilalaaGreatDoor
end

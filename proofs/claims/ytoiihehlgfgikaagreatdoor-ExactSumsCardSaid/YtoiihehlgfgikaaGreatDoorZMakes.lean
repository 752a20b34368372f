/- ExactMakes: the walk of the law. -/
import Derived.Test.YtoiihehlgfgikaaGreatDoorZSame
import Derived.Test.YtoiihehlgfgikaaGreatDoorZWk
namespace Go.Proofs.YtoiihehlgfgikaaGreatDoor
open Go.RowKit Go.Deep

theorem ref_w1 {n : Nat} (h : n < W64) : nw9 n ≤ 90000 := by
  have h1 : n < B9 ^ 3 := by unfold B9; unfold W64 at h; omega
  have := (nw_le9 _ _).2 h1
  omega
theorem c_Bits_w (w : World) (x : Value) (q : Rat) (hx : RatV w x q) (k : RatW q 1) :
    ∀ W, Below w.heap.size w W → Calls Tryz.prog 31 #[x] W fun e w' => e = .returned (.tuple #[.int .i64 (halves q.num.natAbs : Int), .int .i64 (halves q.den : Int)]) ∧ Below W.heap.size W w' := by
  intro W hW
  have h1 : q.num.natAbs < W64 := (nw_le_one _).1 k.1
  have h2 : q.den < W64 := (nw_le_one _).1 k.2
  refine (c_Bits_small W x _ _ _ (hx.below hW) h1 h2).mono ?_
  rintro e w' ⟨rfl, n, rfl⟩
  refine ⟨?_, below_drewN (Below.refl _ _) n⟩
  unfold lenN
  rw [halves_bitLen _ h1, halves_bitLen _ h2]
/-- Two integers are the same number for the program and for the reference. -/
theorem both_of (x y : Int) (hx0 : -9223372036854775808 ≤ x) (hx1 : x ≤ 9223372036854775807) (hy0 : -9223372036854775808 ≤ y) (hy1 : y ≤ 9223372036854775807) (hy : y ≠ 0) : ∃ q : Rat, RatW q 1 ∧ RefW q 90000 ∧
    (∀ w, Calls Tryz.prog 6 #[.int .i64 x, .int .i64 y] w fun e w' => ∃ u, e = .returned (.tuple #[u, .int .i64 0]) ∧ RatV w' u q ∧ Below w.heap.size w w') ∧
    (∀ w, Calls Tryz.prog 7 #[.int .i64 x, .int .i64 y] w fun e w' => ∃ r, e = .returned (.tuple #[r, .int .i64 0]) ∧ RefV w' r q ∧ Below w.heap.size w w') := by
  have hg : 0 < Nat.gcd x.natAbs y.natAbs := Nat.gcd_pos_of_pos_right _ (by omega)
  have hd : 0 < y.natAbs / Nat.gcd x.natAbs y.natAbs := Nat.div_pos (Nat.le_of_dvd (by omega) (Nat.gcd_dvd_right _ _)) hg
  obtain ⟨q, q1, q2, q3⟩ := rat_exists (decide (x < 0) != decide (y < 0)) (x.natAbs / Nat.gcd x.natAbs y.natAbs) (y.natAbs / Nat.gcd x.natAbs y.natAbs) hd (Nat.coprime_div_gcd_div_gcd hg)
  have hnW : q.num.natAbs < W64 := by
    rw [← q2]; exact Nat.lt_of_le_of_lt (Nat.div_le_self _ _) (by unfold W64; omega)
  have hdW : q.den < W64 := by
    rw [← q3]; exact Nat.lt_of_le_of_lt (Nat.div_le_self _ _) (by unfold W64; omega)
  refine ⟨q, ⟨(nw_le_one _).2 hnW, (nw_le_one _).2 hdW⟩, ⟨ref_w1 hnW, ref_w1 hdW⟩, fun w => ?_, fun w => ?_⟩
  · refine (c_Of w x y hx0 hx1 hy0 hy1 hy).mono ?_
    rintro e w' ⟨u, rfl, hu, hb⟩
    exact ⟨u, rfl, hu.toV q1 q2 q3, hb⟩
  · refine (r_Of w x y hx0 hx1 hy0 hy1 hy).mono ?_
    rintro e w' ⟨r, rfl, hr, hb⟩
    refine ⟨r, rfl, ?_, hb⟩
    unfold RefV
    rw [← q1, ← q2, ← q3]
    exact hr

set_option maxRecDepth 100000 in
set_option maxHeartbeats 2000000 in
theorem l_makes (w : World) (x y : Int) (m : Int) (hx0 : -9223372036854775808 ≤ x) (hx1 : x ≤ 9223372036854775807) (hy0 : -9223372036854775808 ≤ y) (hy1 : y ≤ 9223372036854775807) (htab : Tab w) (hm : w.cell? ⟨3, 0, none⟩ = some (.int .i64 m)) :
    Calls Tryz.prog 3 #[.int .i64 x, .int .i64 y] w fun e w' => e = .returned (.bool true) ∧ Below w.heap.size w w' := by
  have h0 : 3 < w.heap.size := by
    by_cases h : 3 < w.heap.size
    · exact h
    · exfalso
      have : w.heap[3]? = none := Array.getElem?_eq_none (by omega)
      simp [World.cell?, this] at hm
  have HWk : Hid (∀ W, Below w.heap.size w W → Calls Tryz.prog 8 #[] W fun e w' => e = .returned (.bool true) ∧ Below W.heap.size W w') :=
    fun W hW => c_works W m ((hW.cell (p := ⟨3, 0, none⟩) h0).trans hm)
  clear hm h0
  by_cases hy : y = 0
  · subst hy
    have HO := Lib.hid (of_10 x w)
    have HR := Lib.hid (r_Of_zero w x)
    clear hx0 hx1 hy0 hy1
    go_enter Tryz.func3, Tryz.ntmps3
    go_wp2_with fail
    refine HO.out.mono ?_
    rintro e w1 ⟨rfl, rfl⟩
    go_wp2_with fail
    refine HR.out.mono ?_
    rintro e w1 ⟨rfl, hb1⟩
    have HB1 := Lib.hid hb1
    clear hb1
    go_wp2_with fail
    have hB1a : Below w.heap.size w (w1.alloc (.cells #[.bool false, .slice none 0 0, .slice none 0 0] 28)) := HB1.out.alloc HB1.out.size _
    refine (HWk.out _ hB1a).mono ?_
    rintro e w2 ⟨rfl, hb2⟩
    have HB2 := Lib.hid (btr hB1a hb2)
    clear hb2
    go_wp2
    go_ret
    exact ⟨rfl, HB2.out⟩
  · obtain ⟨q, k, k9, HO, HR⟩ := both_of x y hx0 hx1 hy0 hy1 hy
    have HO' := Lib.hid HO
    have HR' := Lib.hid HR
    have HK := Lib.hid (And.intro k k9)
    have HT := Lib.hid htab
    clear HO HR hx0 hx1 hy0 hy1 k k9 htab
    go_enter Tryz.func3, Tryz.ntmps3
    go_wp2_with fail
    refine (HO'.out w).mono ?_
    rintro e w1 ⟨u, rfl, hu, hb1⟩
    have HU := Lib.hid hu
    have HB1 := Lib.hid hb1
    clear hu hb1
    go_wp2_with fail
    refine (HR'.out w1).mono ?_
    rintro e w2 ⟨r, rfl, hr, hb2⟩
    have HB2 := Lib.hid (btr HB1.out hb2)
    have HU2 := Lib.hid (HU.out.below hb2)
    obtain ⟨ru, rv, rfl, hru, hrv⟩ := hr
    obtain ⟨A, c, rfl⟩ := hru.sl
    obtain ⟨A', c', rfl⟩ := hrv.sl
    have HRu := Lib.hid hru; have HRv := Lib.hid hrv
    clear hru hrv hb2
    generalize hds : decide (q.num < 0) = ds at *
    have HDs := Lib.hid hds
    clear hds
    go_wp2_with fail
    have hBm : Below w2.heap.size w2 (w2.alloc (.cells #[.bool ds, .slice A (nw9 q.num.natAbs) c, .slice A' (nw9 q.den) c'] 28)) := (Below.refl _ _).alloc (Nat.le_refl _) _
    have hUm := HU2.out.below hBm
    refine (l_same _ u _ q hUm ⟨_, _, by rw [HDs.out], HRu.out.below hBm, HRv.out.below hBm⟩ (HK.out.1.mono (by omega)) HK.out.2 (HT.out.below (btr HB2.out hBm)) (c_Bits_w _ u q hUm HK.out.1)).mono ?_
    rintro e w3 ⟨rfl, hb3⟩
    have HB3 := Lib.hid (btr HB2.out (btr hBm hb3))
    clear hb3 hBm hUm
    go_wp2_with fail
    refine (HWk.out _ HB3.out).mono ?_
    rintro e w4 ⟨rfl, hb4⟩
    have HB4 := Lib.hid (btr HB3.out hb4)
    clear hb4
    go_wp2
    go_ret
    exact ⟨rfl, HB4.out⟩
end Go.Proofs.YtoiihehlgfgikaaGreatDoor

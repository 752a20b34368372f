/- Rational numbers of any size, as Lean's own: what each call returns. -/
import Derived.Test.YtnfncdalneifnaaGreatDoorZMulG
import Derived.Test.YtnfncdalneifnaaGreatDoorZMath

/- Rational numbers of any size, as Lean's own: what each call returns. -/
section
namespace Go.Proofs.YtnfncdalneifnaaGreatDoor
open Go.RowKit Go.Deep

/-- The value v points to the number q of the package. -/
def RatV (w : World) (v : Value) (q : Rat) : Prop := RatAt w v (decide (q.num < 0)) q.num.natAbs q.den
def RatVRet (w : World) (q : Rat) (e : Ending) (w' : World) : Prop := ∃ u, e = .returned u ∧ RatV w' u q ∧ Below w.heap.size w w'
theorem RatV.below {w w' : World} {v : Value} {q : Rat} (h : RatV w v q) (hb : Below w.heap.size w w') : RatV w' v q := RatAt.below h hb
theorem RatV.drewN {w : World} {v : Value} {q : Rat} (h : RatV w v q) (n : Nat) : RatV (w.drewN n) v q := h
theorem RatAt.toV {w : World} {v : Value} {s : Bool} {n d : Nat} {q : Rat} (h : RatAt w v s n d) (hs : s = decide (q.num < 0)) (hn : n = q.num.natAbs) (hd : d = q.den) : RatV w v q := by
  subst hs hn hd
  exact h
/-- How many words a number has at most. -/
def RatW (q : Rat) (k : Nat) : Prop := nw q.num.natAbs ≤ k ∧ nw q.den ≤ k

theorem sumN_int (s t : Bool) (a b : Nat) : sumN s a t b = (sInt s a + sInt t b).natAbs := by
  unfold sumN sInt
  cases s <;> cases t <;> simp <;> (try split) <;> omega
theorem sgn_sum (s t : Bool) (a b k : Nat) (hk : 0 < k ↔ 0 < sumN s a t b) : sgn (sumS s a t b) k = decide (sInt s a + sInt t b < 0) := by
  unfold sgn
  rw [show decide (0 < k) = decide (0 < sumN s a t b) from by rw [decide_eq_decide]; exact hk]
  unfold sumS sumN sInt
  cases s <;> cases t <;> simp <;> (try split) <;> (try simp) <;> (try omega) <;> (rw [Bool.eq_iff_iff]; simp; omega)
theorem sInt_mul (s : Bool) (a b : Nat) : sInt s (a * b) = sInt s a * b := by
  unfold sInt
  split
  · push_cast; rw [Int.neg_mul]
  · push_cast; rfl
/-- The three parts of a sum. -/
theorem add_parts (p q : Rat) (s2 : Bool) (n2 : Nat) (h : sInt s2 n2 = q.num) :
    sgn (addSgn (decide (p.num < 0)) p.num.natAbs p.den s2 n2 q.den) (addNum (decide (p.num < 0)) p.num.natAbs p.den s2 n2 q.den / Nat.gcd (addNum (decide (p.num < 0)) p.num.natAbs p.den s2 n2 q.den) (Nat.gcd p.den q.den)) = decide ((p + q).num < 0) ∧
    addNum (decide (p.num < 0)) p.num.natAbs p.den s2 n2 q.den / Nat.gcd (addNum (decide (p.num < 0)) p.num.natAbs p.den s2 n2 q.den) (Nat.gcd p.den q.den) = (p + q).num.natAbs ∧
    p.den / Nat.gcd p.den q.den * (q.den / Nat.gcd (addNum (decide (p.num < 0)) p.num.natAbs p.den s2 n2 q.den) (Nat.gcd p.den q.den)) = (p + q).den := by
  have hM : sInt (decide (p.num < 0)) (p.num.natAbs * (q.den / Nat.gcd p.den q.den)) + sInt s2 (n2 * (p.den / Nat.gcd p.den q.den)) = p.num * ((q.den / Nat.gcd p.den q.den : Nat) : Int) + q.num * ((p.den / Nat.gcd p.den q.den : Nat) : Int) := by
    rw [sInt_mul, sInt_mul, sInt_of, h]
  have hN : addNum (decide (p.num < 0)) p.num.natAbs p.den s2 n2 q.den = (p.num * ((q.den / Nat.gcd p.den q.den : Nat) : Int) + q.num * ((p.den / Nat.gcd p.den q.den : Nat) : Int)).natAbs := by
    unfold addNum
    rw [sumN_int, hM]
  obtain ⟨a1, a2⟩ := rat_add p q _ _ _ _ _ rfl rfl rfl rfl rfl
  have hg0 : 0 < Nat.gcd p.den q.den := Nat.gcd_pos_of_pos_left _ p.den_pos
  have hs : ∀ k : Nat, (0 < k ↔ 0 < addNum (decide (p.num < 0)) p.num.natAbs p.den s2 n2 q.den) → sgn (addSgn (decide (p.num < 0)) p.num.natAbs p.den s2 n2 q.den) k = decide (p.num * ((q.den / Nat.gcd p.den q.den : Nat) : Int) + q.num * ((p.den / Nat.gcd p.den q.den : Nat) : Int) < 0) := by
    intro k hk
    unfold addSgn
    rw [sgn_sum _ _ _ _ k hk, hM]
  generalize p.num * ((q.den / Nat.gcd p.den q.den : Nat) : Int) + q.num * ((p.den / Nat.gcd p.den q.den : Nat) : Int) = M at *
  rw [hN] at hs ⊢
  have hc0 : 0 < Nat.gcd M.natAbs (Nat.gcd p.den q.den) := Nat.gcd_pos_of_pos_right _ hg0
  have hcd : Nat.gcd M.natAbs (Nat.gcd p.den q.den) ∣ M.natAbs := Nat.gcd_dvd_left _ _
  have hcM : ((Nat.gcd M.natAbs (Nat.gcd p.den q.den) : Nat) : Int) ∣ M := by rw [← Int.natAbs_dvd_natAbs]; exact hcd
  rw [a1, a2]
  generalize Nat.gcd M.natAbs (Nat.gcd p.den q.den) = c at *
  obtain ⟨m, rfl⟩ := hcM
  have hc1 : (c : Int) * m / c = m := Int.mul_ediv_cancel_left _ (by omega)
  have hc2 : ((c : Int) * m).natAbs / c = m.natAbs := by rw [Int.natAbs_mul, Int.natAbs_natCast, Nat.mul_div_cancel_left _ hc0]
  rw [hc1, hc2]
  refine ⟨?_, rfl, rfl⟩
  have hpos : (0 < m.natAbs ↔ 0 < ((c : Int) * m).natAbs) := by
    rw [Int.natAbs_mul, Int.natAbs_natCast]
    exact ⟨fun h => Nat.mul_pos hc0 h, fun h => Nat.pos_of_mul_pos_left h⟩
  rw [hs _ hpos, decide_eq_decide]
  constructor
  · intro h9
    rcases (by omega : m < 0 ∨ 0 ≤ m) with h8 | h8
    · exact h8
    · have := Int.mul_nonneg (show (0 : Int) ≤ c by omega) h8
      omega
  · intro h9
    exact Int.mul_neg_of_pos_of_neg (by omega) h9
/-- The three parts of a product. -/
theorem mul_parts (p q : Rat) (s2 : Bool) (n2 : Nat) (h : sInt s2 n2 = q.num) :
    sgn (decide (p.num < 0) != s2) (p.num.natAbs / Nat.gcd p.num.natAbs q.den * (n2 / Nat.gcd n2 p.den)) = decide ((p * q).num < 0) ∧
    p.num.natAbs / Nat.gcd p.num.natAbs q.den * (n2 / Nat.gcd n2 p.den) = (p * q).num.natAbs ∧
    p.den / Nat.gcd n2 p.den * (q.den / Nat.gcd p.num.natAbs q.den) = (p * q).den := by
  have hn2 : n2 = q.num.natAbs := by rw [← h, sInt_natAbs]
  obtain ⟨a1, a2⟩ := rat_mul p q _ _ rfl rfl
  subst hn2
  rw [a1, a2]
  have ha0 : 0 < Nat.gcd p.num.natAbs q.den := Nat.gcd_pos_of_pos_right _ q.den_pos
  have hb0 : 0 < Nat.gcd q.num.natAbs p.den := Nat.gcd_pos_of_pos_right _ p.den_pos
  have hap : ((Nat.gcd p.num.natAbs q.den : Nat) : Int) ∣ p.num := by rw [← Int.natAbs_dvd_natAbs]; exact Nat.gcd_dvd_left _ _
  have hbq : ((Nat.gcd q.num.natAbs p.den : Nat) : Int) ∣ q.num := by rw [← Int.natAbs_dvd_natAbs]; exact Nat.gcd_dvd_left _ _
  generalize Nat.gcd p.num.natAbs q.den = a at *
  generalize Nat.gcd q.num.natAbs p.den = b at *
  obtain ⟨x, hx⟩ := hap
  obtain ⟨y, hy⟩ := hbq
  rw [hy] at h
  rw [hx, hy, Int.mul_ediv_cancel_left _ (by omega), Int.mul_ediv_cancel_left _ (by omega), Int.natAbs_mul, Int.natAbs_mul, Int.natAbs_natCast, Int.natAbs_natCast, Nat.mul_div_cancel_left _ ha0, Nat.mul_div_cancel_left _ hb0, Int.natAbs_mul]
  refine ⟨?_, rfl, rfl⟩
  have hsx : (decide ((a : Int) * x < 0)) = decide (x < 0) := by
    rw [decide_eq_decide]
    constructor
    · intro h9
      rcases (by omega : x < 0 ∨ 0 ≤ x) with h8 | h8
      · exact h8
      · have := Int.mul_nonneg (show (0 : Int) ≤ a by omega) h8; omega
    · intro h9; exact Int.mul_neg_of_pos_of_neg (by omega) h9
  rw [hsx]
  have hy2 : y = 0 ∨ s2 = decide (y < 0) := by
    rcases Int.lt_trichotomy y 0 with h9 | h9 | h9
    · refine .inr ?_
      have : (b : Int) * y < 0 := Int.mul_neg_of_pos_of_neg (by omega) h9
      unfold sInt at h
      cases s2
      · simp at h; omega
      · simp [h9]
    · exact .inl h9
    · refine .inr ?_
      have : 0 < (b : Int) * y := Int.mul_pos (by omega) h9
      unfold sInt at h
      cases s2
      · simp; omega
      · simp at h; omega
  unfold sgn
  rcases Int.lt_trichotomy x 0 with hx0 | rfl | hx0
  · rcases Int.lt_trichotomy y 0 with hy0 | rfl | hy0
    · have hs2 : s2 = true := by
        rcases hy2 with h9 | h9
        · omega
        · simp [h9, hy0]
      have := Int.mul_pos_of_neg_of_neg hx0 hy0
      subst hs2
      simp [hx0]; omega
    · simp
    · have hs2 : s2 = false := by
        rcases hy2 with h9 | h9
        · omega
        · simp [h9]; omega
      have := Int.mul_neg_of_neg_of_pos hx0 hy0
      have h7 : 0 < x.natAbs * y.natAbs := Nat.mul_pos (by omega) (by omega)
      subst hs2
      simp [hx0, this, h7]
  · simp
  · rcases Int.lt_trichotomy y 0 with hy0 | rfl | hy0
    · have hs2 : s2 = true := by
        rcases hy2 with h9 | h9
        · omega
        · simp [h9, hy0]
      have := Int.mul_neg_of_pos_of_neg hx0 hy0
      have h7 : 0 < x.natAbs * y.natAbs := Nat.mul_pos (by omega) (by omega)
      have h6 : ¬ x < 0 := by omega
      subst hs2
      simp [h6, this, h7]
    · simp
    · have hs2 : s2 = false := by
        rcases hy2 with h9 | h9
        · omega
        · simp [h9]; omega
      have := Int.mul_pos hx0 hy0
      have h6 : ¬ x < 0 := by omega
      have h5 : ¬ x * y < 0 := by omega
      subst hs2
      simp [h6, h5]
end Go.Proofs.YtnfncdalneifnaaGreatDoor
end

/- Sums, differences, products, quotients and comparisons of rational numbers: what each call returns. -/
section
namespace Go.Proofs.YtnfncdalneifnaaGreatDoor
open Go.RowKit Go.Deep

set_option maxHeartbeats 1000000 in
theorem v_Add (w : World) (x y : Value) (p q : Rat) (hx : RatV w x p) (hy : RatV w y q) (k1 : RatW p 100000) (k2 : RatW q 100000) :
    Calls Tryz.prog 10 #[x, y] w (RatVRet w (p + q)) := by
  obtain ⟨e1, e2, e3⟩ := add_parts p q (decide (q.num < 0)) q.num.natAbs (sInt_of _)
  have HV1 := Lib.hid (c_valid w x _ _ _ hx)
  have HV2 := Lib.hid (c_valid w y _ _ _ hy)
  have HA := Lib.hid (g_added w x y _ (decide (q.num < 0)) _ _ _ _ _ hx hy p.den_pos k1.1 k1.2 k2.1 k2.2)
  rw [e1, e2, e3] at HA
  clear e1 e2 e3 hx
  obtain ⟨b, nv, dv, rfl, hlt, _, h1, h2, h3, hn, hd⟩ := hy
  clear hn hd h2 h3
  generalize decide (q.num < 0) = s at *
  go_enter Tryz.func10, Tryz.ntmps10
  go_wp2_with fail
  refine HV1.out.mono ?_
  rintro e w' ⟨rfl, rfl⟩
  go_wp2_with fail
  refine HV2.out.mono ?_
  rintro e w' ⟨rfl, rfl⟩
  go_wp2_with fail
  refine HA.out.mono ?_
  rintro e w1 ⟨u, rfl, hu, hb⟩
  go_wp2
  go_ret
  exact ⟨u, rfl, hu, hb⟩
set_option maxHeartbeats 1000000 in
theorem v_Sub (w : World) (x y : Value) (p q : Rat) (hx : RatV w x p) (hy : RatV w y q) (k1 : RatW p 100000) (k2 : RatW q 100000) :
    Calls Tryz.prog 112 #[x, y] w (RatVRet w (p - q)) := by
  have hng : sInt (!decide (q.num < 0)) q.num.natAbs = (-q).num := by
    rw [Rat.neg_num]
    unfold sInt
    by_cases h : q.num < 0 <;> simp [h] <;> omega
  obtain ⟨e1, e2, e3⟩ := add_parts p (-q) (!decide (q.num < 0)) q.num.natAbs hng
  rw [← Rat.sub_eq_add_neg, Rat.neg_den] at e1 e2 e3
  have HV1 := Lib.hid (c_valid w x _ _ _ hx)
  have HV2 := Lib.hid (c_valid w y _ _ _ hy)
  have HA := Lib.hid (g_added w x y _ (!decide (q.num < 0)) _ _ _ _ _ hx hy p.den_pos k1.1 k1.2 k2.1 k2.2)
  rw [e1, e2, e3] at HA
  clear e1 e2 e3 hx hng
  obtain ⟨b, nv, dv, rfl, hlt, _, h1, h2, h3, hn, hd⟩ := hy
  clear hn hd h2 h3
  generalize decide (q.num < 0) = s at *
  go_enter Tryz.func112, Tryz.ntmps112
  go_wp2_with fail
  refine HV1.out.mono ?_
  rintro e w' ⟨rfl, rfl⟩
  go_wp2_with fail
  refine HV2.out.mono ?_
  rintro e w' ⟨rfl, rfl⟩
  go_wp2_with fail
  refine HA.out.mono ?_
  rintro e w1 ⟨u, rfl, hu, hb⟩
  go_wp2
  go_ret
  exact ⟨u, rfl, hu, hb⟩
set_option maxHeartbeats 2000000 in
theorem v_Mul (w : World) (x y : Value) (p q : Rat) (hx : RatV w x p) (hy : RatV w y q) (k1 : RatW p 100000) (k2 : RatW q 100000) :
    Calls Tryz.prog 120 #[x, y] w (RatVRet w (p * q)) := by
  obtain ⟨e1, e2, e3⟩ := mul_parts p q (decide (q.num < 0)) q.num.natAbs (sInt_of _)
  have HV1 := Lib.hid (c_valid w x _ _ _ hx)
  have HV2 := Lib.hid (c_valid w y _ _ _ hy)
  obtain ⟨b, nv, dv, rfl, hlt, _, h1, h2, h3, hn, hd⟩ := hy
  have HM := Lib.hid (g_multiplied w.drew x nv dv _ (decide (q.num < 0)) _ _ _ _ hx hn hd p.den_pos q.den_pos k1.1 k1.2 k2.1 k2.2)
  rw [e1, e2, e3] at HM
  clear e1 e2 e3 hx hn hd
  generalize decide (q.num < 0) = s at *
  have KK : Hid (∀ W, Below w.heap.size w W → W.cell? ⟨b, 1, none⟩ = some (.bool s) ∧ W.cell? ⟨b, 2, none⟩ = some nv ∧ W.cell? ⟨b, 3, none⟩ = some dv) := fun W hW => three_below hW hlt ⟨h1, h2, h3⟩
  have B0 : Below w.heap.size w w.drew := Below.drew (Below.refl _ _)
  clear h1 h2 h3 k1 k2
  go_enter Tryz.func120, Tryz.ntmps120
  go_wp2_with fail
  refine HV1.out.mono ?_
  rintro e w' ⟨rfl, rfl⟩
  go_wp2_with fail
  refine HV2.out.mono ?_
  rintro e w' ⟨rfl, rfl⟩
  go_wp2_with fail
  go_region_held3 (fun w' => w'.cell? ⟨b, 1, none⟩ = some (.bool s) ∧ w'.cell? ⟨b, 2, none⟩ = some nv ∧ w'.cell? ⟨b, 3, none⟩ = some dv)
    (first | exact KK.out _ B1 | exact KK.out _ B0 | exact KK.out _ (Below.refl _ _)) (first
      | (go_at_call 172; refine HM.out.mono ?_; rintro e w1 ⟨u, rfl, hu, hb⟩; have B1 : Below w.heap.size w w1 := btr B0 hb))
  all_goals
    go_wp2
    go_ret
    exact ⟨u, rfl, hu, B1⟩
set_option maxHeartbeats 2000000 in
theorem v_Quo (w : World) (x y : Value) (p q : Rat) (hx : RatV w x p) (hy : RatV w y q) (k1 : RatW p 100000) (k2 : RatW q 100000) (hq : q ≠ 0) :
    Calls Tryz.prog 173 #[x, y] w fun e w' => ∃ u, e = .returned (.tuple #[u, .int .i64 0]) ∧ RatV w' u (p / q) ∧ Below w.heap.size w w' := by
  have hq0 : q.num ≠ 0 := fun h => hq (Rat.num_eq_zero.1 h)
  obtain ⟨i1, i2⟩ := rat_inv q hq0
  obtain ⟨e1, e2, e3⟩ := mul_parts p q⁻¹ (decide (q.num < 0)) q.den i1.symm
  rw [← Rat.div_def, i2] at e1 e2 e3
  have HV1 := Lib.hid (c_valid w x _ _ _ hx)
  have HV2 := Lib.hid (c_valid w y _ _ _ hy)
  obtain ⟨b, nv, dv, rfl, hlt, _, h1, h2, h3, hn, hd⟩ := hy
  have HM := Lib.hid (g_multiplied w.drew x dv nv _ (decide (q.num < 0)) _ _ _ _ hx hd hn p.den_pos (by omega : 0 < q.num.natAbs) k1.1 k1.2 k2.2 k2.1)
  rw [e1, e2, e3] at HM
  have hl0 : ((nw q.num.natAbs : Int) == 0) = false := by
    rw [beq_eq_false_iff_ne]
    have := nw_eq_zero q.num.natAbs
    omega
  obtain ⟨A, c, rfl, _, _, _⟩ := hn
  clear e1 e2 e3 hx hd i1 i2 hq hq0
  generalize decide (q.num < 0) = s at *
  generalize nw q.num.natAbs = m at *
  have KK : Hid (∀ W, Below w.heap.size w W → W.cell? ⟨b, 1, none⟩ = some (.bool s) ∧ W.cell? ⟨b, 2, none⟩ = some (.slice A m c) ∧ W.cell? ⟨b, 3, none⟩ = some dv) := fun W hW => three_below hW hlt ⟨h1, h2, h3⟩
  have B0 : Below w.heap.size w w.drew := Below.drew (Below.refl _ _)
  clear k1 k2
  go_enter Tryz.func173, Tryz.ntmps173
  go_wp2_with fail
  refine HV1.out.mono ?_
  rintro e w' ⟨rfl, rfl⟩
  go_wp2_with fail
  refine HV2.out.mono ?_
  rintro e w' ⟨rfl, rfl⟩
  go_wp2_with fail
  clear h1 h2 h3
  go_region_held3 (fun w' => w'.cell? ⟨b, 1, none⟩ = some (.bool s) ∧ w'.cell? ⟨b, 2, none⟩ = some (.slice A m c) ∧ w'.cell? ⟨b, 3, none⟩ = some dv)
    (first | exact KK.out _ B1 | exact KK.out _ B0 | exact KK.out _ (Below.refl _ _)) (first
      | (go_at_call 172; refine HM.out.mono ?_; rintro e w1 ⟨u, rfl, hu, hb⟩; have B1 : Below w.heap.size w w1 := btr B0 hb))
  all_goals
    go_wp2
    go_ret2
    exact ⟨u, rfl, hu, B1⟩
set_option maxHeartbeats 1000000 in
theorem v_Quo_zero (w : World) (x y : Value) (p : Rat) (hx : RatV w x p) (hy : RatV w y 0) :
    Calls Tryz.prog 173 #[x, y] w fun e w' => e = .returned (.tuple #[.pointer none, .int .i64 2]) ∧ w' = w := by
  have HV1 := Lib.hid (c_valid w x _ _ _ hx)
  have HV2 := Lib.hid (c_valid w y _ _ _ hy)
  obtain ⟨b, nv, dv, rfl, hlt, _, h1, h2, h3, hn, hd⟩ := hy
  have hl0 : nw (0 : Rat).num.natAbs = 0 := nw_zero
  obtain ⟨A, c, rfl, _, _, _⟩ := hn
  clear hx hd
  rw [hl0] at h2
  clear hl0
  generalize decide ((0 : Rat).num < 0) = s at *
  go_enter Tryz.func173, Tryz.ntmps173
  go_wp2_with fail
  refine HV1.out.mono ?_
  rintro e w' ⟨rfl, rfl⟩
  go_wp2_with fail
  refine HV2.out.mono ?_
  rintro e w' ⟨rfl, rfl⟩
  go_wp2
  go_ret2
  exact ⟨rfl, rfl⟩
end Go.Proofs.YtnfncdalneifnaaGreatDoor
end

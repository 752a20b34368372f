/- Numbers as quotients of integers: how many words they have. -/
import Derived.Test.YtmejbkfamapnkaaGreatDoorZRatV
import Derived.Test.YtmejbkfamapnkaaGreatDoorZWk
namespace Go.Proofs.YtmejbkfamapnkaaGreatDoor
open Go.RowKit Go.Deep

theorem RatW.mono {q : Rat} {a b : Nat} (h : RatW q a) (hab : a ≤ b) : RatW q b := ⟨Nat.le_trans h.1 hab, Nat.le_trans h.2 hab⟩
theorem ratW_add {p q : Rat} {a b : Nat} (hp : RatW p a) (hq : RatW q b) : RatW (p + q) (2 * (a + b) + 1) := by
  obtain ⟨e1, e2⟩ := rat_add p q _ _ _ _ _ rfl rfl rfl rfl rfl
  have h1 := nw_mul p.num.natAbs q.den
  have h2 := nw_mul q.num.natAbs p.den
  have h3 := nw_add (p.num.natAbs * q.den) (q.num.natAbs * p.den)
  have h4 := nw_mul p.den q.den
  refine ⟨?_, ?_⟩
  · rw [e1]
    refine Nat.le_trans (nw_mono (y := p.num.natAbs * q.den + q.num.natAbs * p.den) ?_) (by have := hp.1; have := hp.2; have := hq.1; have := hq.2; omega)
    refine Nat.le_trans (Int.natAbs_ediv_le_natAbs _ _) ?_
    refine Nat.le_trans (Int.natAbs_add_le _ _) ?_
    rw [Int.natAbs_mul, Int.natAbs_mul, Int.natAbs_natCast, Int.natAbs_natCast]
    exact Nat.add_le_add (Nat.mul_le_mul_left _ (Nat.div_le_self _ _)) (Nat.mul_le_mul_left _ (Nat.div_le_self _ _))
  · rw [e2]
    refine Nat.le_trans (nw_mono (y := p.den * q.den) ?_) (by have := hp.2; have := hq.2; omega)
    exact Nat.mul_le_mul (Nat.div_le_self _ _) (Nat.div_le_self _ _)
theorem ratW_neg {q : Rat} {b : Nat} (hq : RatW q b) : RatW (-q) b := ⟨by rw [Rat.neg_num, Int.natAbs_neg]; exact hq.1, by rw [Rat.neg_den]; exact hq.2⟩
theorem ratW_sub {p q : Rat} {a b : Nat} (hp : RatW p a) (hq : RatW q b) : RatW (p - q) (2 * (a + b) + 1) := by
  rw [Rat.sub_eq_add_neg]; exact ratW_add hp (ratW_neg hq)
theorem ratW_mul {p q : Rat} {a b : Nat} (hp : RatW p a) (hq : RatW q b) : RatW (p * q) (a + b) := by
  obtain ⟨_, e1, e2⟩ := mul_parts p q (decide (q.num < 0)) q.num.natAbs (sInt_of _)
  have h1 := nw_mul p.num.natAbs q.num.natAbs
  have h2 := nw_mul p.den q.den
  refine ⟨?_, ?_⟩
  · rw [← e1]
    exact Nat.le_trans (nw_mono (Nat.mul_le_mul (Nat.div_le_self _ _) (Nat.div_le_self _ _))) (by have := hp.1; have := hq.1; omega)
  · rw [← e2]
    exact Nat.le_trans (nw_mono (Nat.mul_le_mul (Nat.div_le_self _ _) (Nat.div_le_self _ _))) (by have := hp.2; have := hq.2; omega)
theorem ratW_div {p q : Rat} {a b : Nat} (hp : RatW p a) (hq : RatW q b) (h : q ≠ 0) : RatW (p / q) (a + b) := by
  have hq0 : q.num ≠ 0 := fun h9 => h (Rat.num_eq_zero.1 h9)
  obtain ⟨i1, i2⟩ := rat_inv q hq0
  rw [Rat.div_def]
  exact ratW_mul hp ⟨by rw [i1, sInt_natAbs]; exact hq.2, by rw [i2]; exact hq.1⟩
/-- A number in lowest terms is one of Lean's. -/
theorem rat_exists (s : Bool) (n d : Nat) (hd : 0 < d) (hc : Nat.gcd n d = 1) : ∃ q : Rat, sgn s n = decide (q.num < 0) ∧ n = q.num.natAbs ∧ d = q.den := by
  refine ⟨⟨sInt s n, d, by omega, by rw [sInt_natAbs]; exact hc⟩, ?_, (sInt_natAbs s n).symm, rfl⟩
  show sgn s n = decide (sInt s n < 0)
  unfold sgn sInt
  cases s
  · simp
  · simp
theorem v_Of (w : World) (x y : Int) (hx0 : -9223372036854775808 ≤ x) (hx1 : x ≤ 9223372036854775807) (hy0 : -9223372036854775808 ≤ y) (hy1 : y ≤ 9223372036854775807) (hy : y ≠ 0) :
    Calls Tryz.prog 10 #[.int .i64 x, .int .i64 y] w fun e w' => ∃ u q, e = .returned (.tuple #[u, .int .i64 0]) ∧ RatV w' u q ∧ RatW q 1 ∧ Below w.heap.size w w' := by
  refine (c_Of w x y hx0 hx1 hy0 hy1 hy).mono ?_
  rintro e w' ⟨u, rfl, hu, hb⟩
  have hg : 0 < Nat.gcd x.natAbs y.natAbs := Nat.gcd_pos_of_pos_right _ (by omega)
  have hd : 0 < y.natAbs / Nat.gcd x.natAbs y.natAbs := Nat.div_pos (Nat.le_of_dvd (by omega) (Nat.gcd_dvd_right _ _)) hg
  obtain ⟨q, q1, q2, q3⟩ := rat_exists (decide (x < 0) != decide (y < 0)) (x.natAbs / Nat.gcd x.natAbs y.natAbs) (y.natAbs / Nat.gcd x.natAbs y.natAbs) hd (Nat.coprime_div_gcd_div_gcd hg)
  refine ⟨u, q, rfl, hu.toV q1 q2 q3, ⟨?_, ?_⟩, hb⟩
  · rw [← q2, nw_le_one]
    exact Nat.lt_of_le_of_lt (Nat.div_le_self _ _) (by unfold W64; omega)
  · rw [← q3, nw_le_one]
    exact Nat.lt_of_le_of_lt (Nat.div_le_self _ _) (by unfold W64; omega)

/-- A slice of n pairs of integers. -/
def Pairs (w : World) (A : Option Addr) (n : Nat) (ts us : Nat → Int) : Prop :=
  0 < n → ∃ b o, A = some ⟨b, o, none⟩ ∧ b < w.heap.size ∧ ∀ k, k < n → w.cell? ⟨b, o + k * 2, none⟩ = some (.int .i64 (ts k)) ∧ w.cell? ⟨b, o + k * 2 + 1, none⟩ = some (.int .i64 (us k)) ∧
    (-9223372036854775808 ≤ ts k ∧ ts k ≤ 9223372036854775807) ∧ (-9223372036854775808 ≤ us k ∧ us k ≤ 9223372036854775807)
theorem Pairs.below {w w' : World} {A : Option Addr} {n : Nat} {ts us : Nat → Int} (h : Pairs w A n ts us) (hb : Below w.heap.size w w') : Pairs w' A n ts us := by
  intro hn
  obtain ⟨b, o, e, hlt, hc⟩ := h hn
  exact ⟨b, o, e, Nat.lt_of_lt_of_le hlt hb.size, fun k hk => ⟨(hb.cell (p := ⟨b, o + k * 2, none⟩) hlt).trans (hc k hk).1, (hb.cell (p := ⟨b, o + k * 2 + 1, none⟩) hlt).trans (hc k hk).2.1, (hc k hk).2.2⟩⟩

/-- How many words a number made of so many pairs has at most. -/
def bnd : Nat → Nat
  | 0 => 1
  | i + 1 => if i % 2 = 0 then bnd i + 1 else 2 * (bnd i + 1) + 1
theorem bnd_le : ∀ n, n ≤ 12 → bnd n ≤ 400 := by decide

end Go.Proofs.YtmejbkfamapnkaaGreatDoor

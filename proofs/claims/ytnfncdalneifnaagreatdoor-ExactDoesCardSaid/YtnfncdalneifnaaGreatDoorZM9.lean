/- Plain numbers: digits to the base 10^9, their values, and how many of them a natural number has. No condition. -/
import Derived.Test.YtnfncdalneifnaaGreatDoorZMath
import Derived.Lib.BitFns

/- Plain numbers: digits to the base 10^9, their values, and how many of them a natural number has. No condition. -/
section
namespace Go.Proofs.YtnfncdalneifnaaGreatDoor
def B9 : Nat := 1000000000
theorem B9_pos : 0 < B9 := by decide
theorem B9_pow_pos (k : Nat) : 0 < B9 ^ k := Nat.pow_pos B9_pos

/-- The word number k of x. -/
def dig9 (x k : Nat) : Nat := x / B9 ^ k % B9
/-- The value of the first n words. -/
def vl9 (g : Nat → Nat) : Nat → Nat
  | 0 => 0
  | n + 1 => vl9 g n + g n * B9 ^ n
/-- How many words x has. -/
def nw9 (x : Nat) : Nat := if x = 0 then 0 else nw9 (x / B9) + 1
termination_by x
decreasing_by exact Nat.div_lt_self (by omega) (by decide)

theorem dig_lt9 (x k : Nat) : dig9 x k < B9 := Nat.mod_lt _ B9_pos
theorem vl_succ9 (g : Nat → Nat) (n : Nat) : vl9 g (n + 1) = vl9 g n + g n * B9 ^ n := rfl
theorem vl_lt9 (g : Nat → Nat) (n : Nat) (h : ∀ k, k < n → g k < B9) : vl9 g n < B9 ^ n := by
  induction n with
  | zero => simp [vl9]
  | succ n ih =>
    have h1 := ih fun k hk => h k (by omega)
    have h2 := h n (by omega)
    rw [vl_succ9, Nat.pow_succ]
    have : g n * B9 ^ n ≤ (B9 - 1) * B9 ^ n := Nat.mul_le_mul_right _ (by omega)
    have e : (B9 - 1) * B9 ^ n + B9 ^ n = B9 ^ n * B9 := by
      rw [Nat.mul_comm (B9 ^ n) B9, ← Nat.succ_mul]; congr 1
    omega
theorem vl_congr9 (g f : Nat → Nat) (n : Nat) (h : ∀ k, k < n → g k = f k) : vl9 g n = vl9 f n := by
  induction n with
  | zero => rfl
  | succ n ih => rw [vl_succ9, vl_succ9, ih fun k hk => h k (by omega), h n (by omega)]
theorem vl_dig9 (x n : Nat) : vl9 (dig9 x) n = x % B9 ^ n := by
  induction n with
  | zero => simp [vl9, Nat.mod_one]
  | succ n ih =>
    rw [vl_succ9, ih]
    unfold dig9
    rw [Nat.pow_succ, Nat.mod_mul, Nat.mul_comm (x / B9 ^ n % B9)]
theorem vl_dig_lt9 (x n : Nat) (h : x < B9 ^ n) : vl9 (dig9 x) n = x := by rw [vl_dig9, Nat.mod_eq_of_lt h]
theorem dig_vl9 (g : Nat → Nat) (n : Nat) (h : ∀ k, k < n → g k < B9) (k : Nat) (hk : k < n) : dig9 (vl9 g n) k = g k := by
  induction n with
  | zero => omega
  | succ n ih =>
    have h1 := vl_lt9 g n fun k hk => h k (by omega)
    rw [vl_succ9]
    rcases Nat.lt_or_ge k n with hlt | hge
    · rw [← ih (fun k hk => h k (by omega)) hlt]
      unfold dig9
      have e : B9 ^ n = B9 ^ k * (B9 * B9 ^ (n - k - 1)) := by
        rw [← Nat.pow_succ', ← Nat.pow_add]; congr 1; omega
      have e2 : (vl9 g n + g n * B9 ^ n) / B9 ^ k = vl9 g n / B9 ^ k + B9 * (B9 ^ (n - k - 1) * g n) := by
        rw [e, show g n * (B9 ^ k * (B9 * B9 ^ (n - k - 1))) = B9 ^ k * (B9 * (B9 ^ (n - k - 1) * g n)) by
          rw [← Nat.mul_assoc, ← Nat.mul_assoc, Nat.mul_comm (g n), Nat.mul_assoc, Nat.mul_assoc, Nat.mul_comm (g n), Nat.mul_assoc]]
        exact Nat.add_mul_div_left _ _ (B9_pow_pos k)
      rw [e2, Nat.add_mul_mod_self_left]
    · have : k = n := by omega
      subst this
      unfold dig9
      rw [Nat.add_mul_div_right _ _ (B9_pow_pos k), Nat.div_eq_of_lt h1, Nat.zero_add, Nat.mod_eq_of_lt (h k (by omega))]
theorem nw_zero9 : nw9 0 = 0 := by rw [nw9]; rfl
theorem nw_step9 (x : Nat) (h : x ≠ 0) : nw9 x = nw9 (x / B9) + 1 := by rw [nw9, if_neg h]
theorem nw_le9 (x n : Nat) : nw9 x ≤ n ↔ x < B9 ^ n := by
  induction n generalizing x with
  | zero =>
    by_cases h : x = 0
    · subst h; simp [nw_zero9]
    · rw [nw_step9 x h]; simp; omega
  | succ n ih =>
    by_cases h : x = 0
    · subst h; simp [nw_zero9]; exact B9_pow_pos _
    · rw [nw_step9 x h, Nat.add_le_add_iff_right, ih, Nat.pow_succ, Nat.div_lt_iff_lt_mul B9_pos]
theorem lt_nw9 (x : Nat) : x < B9 ^ nw9 x := (nw_le9 x _).1 (Nat.le_refl _)
theorem nw_of9 (x n : Nat) (h1 : x < B9 ^ n) (h2 : n = 0 ∨ B9 ^ (n - 1) ≤ x) : nw9 x = n := by
  have a := (nw_le9 x n).2 h1
  rcases h2 with h2 | h2
  · omega
  · have b : ¬ nw9 x ≤ n - 1 := by rw [nw_le9]; omega
    omega
theorem nw_eq_zero9 (x : Nat) : nw9 x = 0 ↔ x = 0 := by
  have := nw_le9 x 0
  simp at this
  omega
theorem nw_pos9 (x : Nat) : 0 < nw9 x ↔ 0 < x := by have := nw_eq_zero9 x; omega
theorem nw_mono9 {x y : Nat} (h : x ≤ y) : nw9 x ≤ nw9 y := (nw_le9 x _).2 (Nat.lt_of_le_of_lt h (lt_nw9 y))
theorem lt_of_nw9 {x y : Nat} (h : nw9 x < nw9 y) : x < y := by
  rcases Nat.lt_or_ge x y with h1 | h1
  · exact h1
  · have := nw_mono9 h1; omega
theorem dig_ge9 (x n k : Nat) (h : x < B9 ^ n) (hk : n ≤ k) : dig9 x k = 0 := by
  unfold dig9
  have : B9 ^ n ≤ B9 ^ k := Nat.pow_le_pow_right B9_pos hk
  rw [Nat.div_eq_of_lt (by omega), Nat.zero_mod]
/-- x has fewer than n words if the last of n is 0. -/
theorem lt_pred9 (x n : Nat) (h : x < B9 ^ (n + 1)) (h0 : dig9 x n = 0) : x < B9 ^ n := by
  unfold dig9 at h0
  rw [Nat.pow_succ] at h
  have h3 : x / B9 ^ n < B9 := by rw [Nat.div_lt_iff_lt_mul (B9_pow_pos _), Nat.mul_comm]; exact h
  rw [Nat.mod_eq_of_lt h3] at h0
  rcases Nat.lt_or_ge x (B9 ^ n) with h4 | h4
  · exact h4
  · have := Nat.div_pos h4 (B9_pow_pos n); omega
theorem ge_of_dig9 (x n : Nat) (h0 : dig9 x n ≠ 0) : B9 ^ n ≤ x := by
  rcases Nat.lt_or_ge x (B9 ^ n) with h4 | h4
  · exact absurd (dig_ge9 x n n h4 (Nat.le_refl _)) h0
  · exact h4
theorem dig_zero9 (x : Nat) : dig9 x 0 = x % B9 := by simp [dig9]
theorem nw_one9 (x : Nat) (h0 : 0 < x) (h : x < B9) : nw9 x = 1 := nw_of9 x 1 (by simpa using h) (.inr (by simp; omega))
theorem nw_le_one9 (x : Nat) : nw9 x ≤ 1 ↔ x < B9 := by rw [nw_le9, Nat.pow_one]
/-- The digits above agree: comparing by the next one. -/
theorem div_step9 (x n : Nat) : x / B9 ^ n = x / B9 ^ (n + 1) * B9 + dig9 x n := by
  unfold dig9
  rw [Nat.pow_succ, ← Nat.div_div_eq_div_mul, Nat.mul_comm, Nat.div_add_mod]
theorem lt_of_dig9 (x y n : Nat) (h : x / B9 ^ (n + 1) = y / B9 ^ (n + 1)) (hd : dig9 x n < dig9 y n) : x < y := by
  rcases Nat.lt_or_ge x y with h1 | h1
  · exact h1
  · have h2 : y / B9 ^ n ≤ x / B9 ^ n := Nat.div_le_div_right h1
    rw [div_step9 x n, div_step9 y n, h] at h2
    omega
theorem div_of_dig9 (x y n : Nat) (h : x / B9 ^ (n + 1) = y / B9 ^ (n + 1)) (hd : dig9 x n = dig9 y n) : x / B9 ^ n = y / B9 ^ n := by
  rw [div_step9 x n, div_step9 y n, h, hd]
theorem mod_div_mul9 (s P : Nat) : s % B9 * P + s / B9 * (P * B9) = s * P := by
  have h := Nat.div_add_mod s B9
  conv => rhs; rw [← h]
  generalize s / B9 = q; generalize s % B9 = r
  grind
theorem add_step9 (f gx gy f' : Nat → Nat) (k cy : Nat) (hf : ∀ j, j < k → f' j = f j) (h1 : f' k = (gx k + gy k + cy) % B9)
    (h : vl9 f k + cy * B9 ^ k = vl9 gx k + vl9 gy k) : vl9 f' (k + 1) + (gx k + gy k + cy) / B9 * B9 ^ (k + 1) = vl9 gx (k + 1) + vl9 gy (k + 1) := by
  rw [vl_succ9, vl_succ9, vl_succ9, vl_congr9 f' f k hf, h1, Nat.pow_succ]
  have := mod_div_mul9 (gx k + gy k + cy) (B9 ^ k)
  have e : (gx k + gy k + cy) * B9 ^ k = gx k * B9 ^ k + gy k * B9 ^ k + cy * B9 ^ k := by rw [Nat.add_mul, Nat.add_mul]
  omega
end Go.Proofs.YtnfncdalneifnaaGreatDoor
end

/- Plain numbers: subtracting, multiplying and dividing digits to the base 10^9. No condition. -/
section
namespace Go.Proofs.YtnfncdalneifnaaGreatDoor
theorem sub_mod9 (a b q : Nat) (ha : a < B9) (hb : b < B9) (hq : q ≤ 1) :
    (a + B9 - b - q) % B9 + b + q = a + (1 - (a + B9 - b - q) / B9) * B9 ∧ (a + B9 - b - q) / B9 ≤ 1 := by
  unfold B9 at *
  omega
theorem sub_step9 (f gx gy f' : Nat → Nat) (k q : Nat) (hf : ∀ j, j < k → f' j = f j) (h1 : f' k = (gx k + B9 - gy k - q) % B9) (hx : gx k < B9) (hy : gy k < B9) (hq : q ≤ 1)
    (h : vl9 f k + vl9 gy k = vl9 gx k + q * B9 ^ k) : vl9 f' (k + 1) + vl9 gy (k + 1) = vl9 gx (k + 1) + (1 - (gx k + B9 - gy k - q) / B9) * B9 ^ (k + 1) := by
  rw [vl_succ9, vl_succ9, vl_succ9, vl_congr9 f' f k hf, h1, Nat.pow_succ]
  have h2 := (sub_mod9 (gx k) (gy k) q hx hy hq).1
  generalize (gx k + B9 - gy k - q) % B9 = r at *
  generalize (1 - (gx k + B9 - gy k - q) / B9) = c at *
  generalize B9 ^ k = P at *
  have h3 : (r + gy k + q) * P = (gx k + c * B9) * P := by rw [h2]
  have h4 : c * (P * B9) = c * B9 * P := by rw [Nat.mul_comm P, Nat.mul_assoc]
  rw [Nat.add_mul, Nat.add_mul, Nat.add_mul] at h3
  omega
theorem vl_add9 (f : Nat → Nat) (i n : Nat) : vl9 f (i + n) = vl9 f i + B9 ^ i * vl9 (fun j => f (i + j)) n := by
  induction n with
  | zero => simp [vl9]
  | succ n ih =>
    rw [← Nat.add_assoc, vl_succ9, ih, vl_succ9, Nat.mul_add, Nat.pow_add]
    generalize B9 ^ i = P; generalize B9 ^ n = Q
    grind
theorem mul_lt9 (a b c d : Nat) (ha : a < B9) (hb : b < B9) (hc : c < B9) (hd : d < B9) : d + a * b + c < B9 * B9 := by
  have h1 : a * b ≤ (B9 - 1) * (B9 - 1) := Nat.mul_le_mul (by omega) (by omega)
  unfold B9 at *
  omega
theorem mul_carry9 (a b c d : Nat) (ha : a < B9) (hb : b < B9) (hc : c < B9) (hd : d < B9) : (d + a * b + c) / B9 < B9 := by
  rw [Nat.div_lt_iff_lt_mul B9_pos]
  exact mul_lt9 a b c d ha hb hc hd
theorem mul_step9 (f f' F gy : Nat → Nat) (k c a : Nat) (hf : ∀ j, j < k → F j = f' j) (h1 : F k = (f k + a * gy k + c) % B9)
    (h : vl9 f' k + c * B9 ^ k = vl9 f k + a * vl9 gy k) : vl9 F (k + 1) + (f k + a * gy k + c) / B9 * B9 ^ (k + 1) = vl9 f (k + 1) + a * vl9 gy (k + 1) := by
  rw [vl_succ9, vl_succ9, vl_succ9, vl_congr9 F f' k hf, h1, Nat.pow_succ]
  have h2 := mod_div_mul9 (f k + a * gy k + c) (B9 ^ k)
  generalize (f k + a * gy k + c) % B9 = r at *
  generalize (f k + a * gy k + c) / B9 = q at *
  generalize B9 ^ k = P at *
  rw [Nat.add_mul, Nat.add_mul] at h2
  have h3 : a * (vl9 gy k + gy k * P) = a * vl9 gy k + a * gy k * P := by rw [Nat.mul_add, Nat.mul_assoc]
  omega
theorem times_step9 (f F gx : Nat → Nat) (i n y : Nat) (hlow : ∀ j, j < i → F j = f j)
    (h1 : vl9 (fun j => F (i + j)) (n + 1) = vl9 (fun j => f (i + j)) n + gx i * y) (h2 : vl9 f (i + n) = vl9 gx i * y) :
    vl9 F (i + 1 + n) = vl9 gx (i + 1) * y := by
  rw [show i + 1 + n = i + (n + 1) by omega, vl_add9, h1, vl_succ9, vl_congr9 F f i hlow, Nat.add_mul, ← h2, vl_add9]
  generalize vl9 (fun j => f (i + j)) n = b
  generalize B9 ^ i = P
  grind
theorem nw_mul9 (x y : Nat) : nw9 (x * y) ≤ nw9 x + nw9 y := by
  rw [nw_le9, Nat.pow_add]
  exact Nat.mul_lt_mul_of_lt_of_lt (lt_nw9 x) (lt_nw9 y)
theorem nw_add9 (x y n : Nat) (hx : nw9 x ≤ n) (hy : nw9 y ≤ n) : nw9 (x + y) ≤ n + 1 := by
  rw [nw_le9] at *
  rw [Nat.pow_succ]
  have : B9 ^ n * 2 ≤ B9 ^ n * B9 := Nat.mul_le_mul_left _ (by decide)
  omega
/-- The number with one digit more below. -/
theorem dig_cons_zero9 (r d : Nat) (hd : d < B9) : dig9 (r * B9 + d) 0 = d := by
  rw [dig_zero9, Nat.mul_add_mod_of_lt hd]
theorem dig_cons_succ9 (r d k : Nat) (hd : d < B9) : dig9 (r * B9 + d) (k + 1) = dig9 r k := by
  unfold dig9
  rw [Nat.pow_succ', ← Nat.div_div_eq_div_mul, Nat.add_comm, Nat.add_mul_div_right _ _ B9_pos, Nat.div_eq_of_lt hd, Nat.zero_add]
theorem cons_lt9 (r d n : Nat) (hr : r < B9 ^ n) (hd : d < B9) : r * B9 + d < B9 ^ (n + 1) := by
  rw [Nat.pow_succ]
  have : (r + 1) * B9 ≤ B9 ^ n * B9 := Nat.mul_le_mul_right _ hr
  rw [Nat.add_mul] at this
  omega
theorem over_parts (a d y : Nat) (hy : 0 < y) (hd : d < B9) : (a * B9 + d) / y = a / y * B9 + (a % y * B9 + d) / y ∧ (a * B9 + d) % y = (a % y * B9 + d) % y ∧ (a % y * B9 + d) / y < B9 := by
  have h1 := Nat.div_add_mod a y
  have h2 : a * B9 + d = (a % y * B9 + d) + y * (a / y * B9) := by
    conv => lhs; rw [← h1]
    rw [Nat.add_mul, Nat.mul_assoc]; omega
  have hr := Nat.mod_lt a hy
  refine ⟨?_, ?_, ?_⟩
  · rw [h2, Nat.add_mul_div_left _ _ hy]; omega
  · rw [h2, Nat.add_mul_mod_self_left]
  · rw [Nat.div_lt_iff_lt_mul hy, Nat.mul_comm B9]
    have : (a % y + 1) * B9 ≤ y * B9 := Nat.mul_le_mul_right _ hr
    rw [Nat.add_mul] at this
    omega
theorem over_digit9 (x y i : Nat) (hy : 0 < y) : (x / B9 ^ (i + 1) % y * B9 + dig9 x i) / y = dig9 (x / y) i := by
  have h1 := over_parts (x / B9 ^ (i + 1)) (dig9 x i) y hy (dig_lt9 x i)
  have h2 : x / y / B9 ^ i = x / B9 ^ i / y := by rw [Nat.div_div_eq_div_mul, Nat.div_div_eq_div_mul, Nat.mul_comm]
  rw [show dig9 (x / y) i = x / y / B9 ^ i % B9 from rfl, h2, div_step9 x i, h1.1, Nat.mul_add_mod_of_lt h1.2.2]
theorem over_rest9 (x y i : Nat) (hy : 0 < y) : (x / B9 ^ (i + 1) % y * B9 + dig9 x i) % y = x / B9 ^ i % y := by
  rw [div_step9 x i]
  exact (over_parts (x / B9 ^ (i + 1)) (dig9 x i) y hy (dig_lt9 x i)).2.1.symm
end Go.Proofs.YtnfncdalneifnaaGreatDoor
end

/- Plain numbers: decimal digits with zeros in front, and how many binary digits a number has. No condition. -/
section
namespace Go.Proofs.YtnfncdalneifnaaGreatDoor
/-- How often a number can be halved. -/
def halves (x : Nat) : Nat := if x = 0 then 0 else halves (x / 2) + 1
termination_by x
decreasing_by omega
end Go.Proofs.YtnfncdalneifnaaGreatDoor
end

/- Plain numbers: words of 64 bits, their values, and how many of them a natural number has. No condition. -/
namespace Go.Proofs.YtfkjfeobhbocjaaGreatDoor

def W64 : Nat := 18446744073709551616
theorem W64_eq : W64 = 18446744073709551616 := rfl
theorem W64_pos : 0 < W64 := by decide
theorem W64_pow_pos (k : Nat) : 0 < W64 ^ k := Nat.pow_pos W64_pos

/-- The word number k of x. -/
def dig (x k : Nat) : Nat := x / W64 ^ k % W64
/-- The value of the first n words. -/
def vl (g : Nat → Nat) : Nat → Nat
  | 0 => 0
  | n + 1 => vl g n + g n * W64 ^ n
/-- How many words x has. -/
def nw (x : Nat) : Nat := if x = 0 then 0 else nw (x / W64) + 1
termination_by x
decreasing_by exact Nat.div_lt_self (by omega) (by decide)

theorem dig_lt (x k : Nat) : dig x k < W64 := Nat.mod_lt _ W64_pos
theorem vl_succ (g : Nat → Nat) (n : Nat) : vl g (n + 1) = vl g n + g n * W64 ^ n := rfl
theorem vl_lt (g : Nat → Nat) (n : Nat) (h : ∀ k, k < n → g k < W64) : vl g n < W64 ^ n := by
  induction n with
  | zero => simp [vl]
  | succ n ih =>
    have h1 := ih fun k hk => h k (by omega)
    have h2 := h n (by omega)
    rw [vl_succ, Nat.pow_succ]
    have : g n * W64 ^ n ≤ (W64 - 1) * W64 ^ n := Nat.mul_le_mul_right _ (by omega)
    have e : (W64 - 1) * W64 ^ n + W64 ^ n = W64 ^ n * W64 := by
      rw [Nat.mul_comm (W64 ^ n) W64, ← Nat.succ_mul]; congr 1
    omega
theorem vl_congr (g f : Nat → Nat) (n : Nat) (h : ∀ k, k < n → g k = f k) : vl g n = vl f n := by
  induction n with
  | zero => rfl
  | succ n ih => rw [vl_succ, vl_succ, ih fun k hk => h k (by omega), h n (by omega)]
theorem vl_dig (x n : Nat) : vl (dig x) n = x % W64 ^ n := by
  induction n with
  | zero => simp [vl, Nat.mod_one]
  | succ n ih =>
    rw [vl_succ, ih]
    unfold dig
    rw [Nat.pow_succ, Nat.mod_mul, Nat.mul_comm (x / W64 ^ n % W64)]
theorem vl_dig_lt (x n : Nat) (h : x < W64 ^ n) : vl (dig x) n = x := by rw [vl_dig, Nat.mod_eq_of_lt h]
theorem dig_vl (g : Nat → Nat) (n : Nat) (h : ∀ k, k < n → g k < W64) (k : Nat) (hk : k < n) : dig (vl g n) k = g k := by
  induction n with
  | zero => omega
  | succ n ih =>
    have h1 := vl_lt g n fun k hk => h k (by omega)
    rw [vl_succ]
    rcases Nat.lt_or_ge k n with hlt | hge
    · rw [← ih (fun k hk => h k (by omega)) hlt]
      unfold dig
      have e : W64 ^ n = W64 ^ k * (W64 * W64 ^ (n - k - 1)) := by
        rw [← Nat.pow_succ', ← Nat.pow_add]; congr 1; omega
      have e2 : (vl g n + g n * W64 ^ n) / W64 ^ k = vl g n / W64 ^ k + W64 * (W64 ^ (n - k - 1) * g n) := by
        rw [e, show g n * (W64 ^ k * (W64 * W64 ^ (n - k - 1))) = W64 ^ k * (W64 * (W64 ^ (n - k - 1) * g n)) by
          rw [← Nat.mul_assoc, ← Nat.mul_assoc, Nat.mul_comm (g n), Nat.mul_assoc, Nat.mul_assoc, Nat.mul_comm (g n), Nat.mul_assoc]]
        exact Nat.add_mul_div_left _ _ (W64_pow_pos k)
      rw [e2, Nat.add_mul_mod_self_left]
    · have : k = n := by omega
      subst this
      unfold dig
      rw [Nat.add_mul_div_right _ _ (W64_pow_pos k), Nat.div_eq_of_lt h1, Nat.zero_add, Nat.mod_eq_of_lt (h k (by omega))]
theorem nw_zero : nw 0 = 0 := by rw [nw]; rfl
theorem nw_step (x : Nat) (h : x ≠ 0) : nw x = nw (x / W64) + 1 := by rw [nw, if_neg h]
theorem nw_le (x n : Nat) : nw x ≤ n ↔ x < W64 ^ n := by
  induction n generalizing x with
  | zero =>
    by_cases h : x = 0
    · subst h; simp [nw_zero]
    · rw [nw_step x h]; simp; omega
  | succ n ih =>
    by_cases h : x = 0
    · subst h; simp [nw_zero]; exact W64_pow_pos _
    · rw [nw_step x h, Nat.add_le_add_iff_right, ih, Nat.pow_succ, Nat.div_lt_iff_lt_mul W64_pos]
theorem lt_nw (x : Nat) : x < W64 ^ nw x := (nw_le x _).1 (Nat.le_refl _)
theorem nw_of (x n : Nat) (h1 : x < W64 ^ n) (h2 : n = 0 ∨ W64 ^ (n - 1) ≤ x) : nw x = n := by
  have a := (nw_le x n).2 h1
  rcases h2 with h2 | h2
  · omega
  · have b : ¬ nw x ≤ n - 1 := by rw [nw_le]; omega
    omega
theorem nw_eq_zero (x : Nat) : nw x = 0 ↔ x = 0 := by
  have := nw_le x 0
  simp at this
  omega
theorem nw_pos (x : Nat) : 0 < nw x ↔ 0 < x := by have := nw_eq_zero x; omega
theorem nw_mono {x y : Nat} (h : x ≤ y) : nw x ≤ nw y := (nw_le x _).2 (Nat.lt_of_le_of_lt h (lt_nw y))
theorem lt_of_nw {x y : Nat} (h : nw x < nw y) : x < y := by
  rcases Nat.lt_or_ge x y with h1 | h1
  · exact h1
  · have := nw_mono h1; omega
theorem dig_ge (x n k : Nat) (h : x < W64 ^ n) (hk : n ≤ k) : dig x k = 0 := by
  unfold dig
  have : W64 ^ n ≤ W64 ^ k := Nat.pow_le_pow_right W64_pos hk
  rw [Nat.div_eq_of_lt (by omega), Nat.zero_mod]
theorem nw_low (x : Nat) (h : 0 < x) : W64 ^ (nw x - 1) ≤ x := by
  have hp := (nw_pos x).2 h
  have : ¬ nw x ≤ nw x - 1 := by omega
  rw [nw_le] at this
  omega
theorem dig_top (x : Nat) (h : 0 < x) : dig x (nw x - 1) ≠ 0 := by
  have h1 := nw_low x h
  have h2 := lt_nw x
  have hp := (nw_pos x).2 h
  unfold dig
  have e : nw x = nw x - 1 + 1 := by omega
  rw [e, Nat.pow_succ] at h2
  have h3 : x / W64 ^ (nw x - 1) < W64 := by rw [Nat.div_lt_iff_lt_mul (W64_pow_pos _), Nat.mul_comm]; simpa using h2
  rw [Nat.mod_eq_of_lt h3]
  have : 0 < x / W64 ^ (nw x - 1) := Nat.div_pos h1 (W64_pow_pos _)
  omega
/-- x has fewer than n words if the last of n is 0. -/
theorem lt_pred (x n : Nat) (h : x < W64 ^ (n + 1)) (h0 : dig x n = 0) : x < W64 ^ n := by
  unfold dig at h0
  rw [Nat.pow_succ] at h
  have h3 : x / W64 ^ n < W64 := by rw [Nat.div_lt_iff_lt_mul (W64_pow_pos _), Nat.mul_comm]; exact h
  rw [Nat.mod_eq_of_lt h3] at h0
  rcases Nat.lt_or_ge x (W64 ^ n) with h4 | h4
  · exact h4
  · have := Nat.div_pos h4 (W64_pow_pos n); omega
theorem ge_of_dig (x n : Nat) (h0 : dig x n ≠ 0) : W64 ^ n ≤ x := by
  rcases Nat.lt_or_ge x (W64 ^ n) with h4 | h4
  · exact absurd (dig_ge x n n h4 (Nat.le_refl _)) h0
  · exact h4
theorem dig_zero (x : Nat) : dig x 0 = x % W64 := by simp [dig]
theorem dig_small (x : Nat) (h : x < W64) : dig x 0 = x := by rw [dig_zero, Nat.mod_eq_of_lt h]
theorem nw_one (x : Nat) (h0 : 0 < x) (h : x < W64) : nw x = 1 := nw_of x 1 (by simpa using h) (.inr (by simp; omega))
theorem nw_le_one (x : Nat) : nw x ≤ 1 ↔ x < W64 := by rw [nw_le, Nat.pow_one]
/-- The digits above agree: comparing by the next one. -/
theorem div_step (x n : Nat) : x / W64 ^ n = x / W64 ^ (n + 1) * W64 + dig x n := by
  unfold dig
  rw [Nat.pow_succ, ← Nat.div_div_eq_div_mul, Nat.mul_comm, Nat.div_add_mod]
theorem lt_of_dig (x y n : Nat) (h : x / W64 ^ (n + 1) = y / W64 ^ (n + 1)) (hd : dig x n < dig y n) : x < y := by
  rcases Nat.lt_or_ge x y with h1 | h1
  · exact h1
  · have h2 : y / W64 ^ n ≤ x / W64 ^ n := Nat.div_le_div_right h1
    rw [div_step x n, div_step y n, h] at h2
    omega
theorem div_of_dig (x y n : Nat) (h : x / W64 ^ (n + 1) = y / W64 ^ (n + 1)) (hd : dig x n = dig y n) : x / W64 ^ n = y / W64 ^ n := by
  rw [div_step x n, div_step y n, h, hd]
/-- The order of two numbers, as compare says it. -/
def cmpN (x y : Nat) : Int := if x < y then -1 else if x = y then 0 else 1
theorem cmpN_lt {x y : Nat} (h : x < y) : cmpN x y = -1 := by unfold cmpN; rw [if_pos h]
theorem cmpN_eq (x : Nat) : cmpN x x = 0 := by unfold cmpN; simp
theorem cmpN_gt {x y : Nat} (h : y < x) : cmpN x y = 1 := by unfold cmpN; rw [if_neg (by omega), if_neg (by omega)]
end Go.Proofs.YtfkjfeobhbocjaaGreatDoor

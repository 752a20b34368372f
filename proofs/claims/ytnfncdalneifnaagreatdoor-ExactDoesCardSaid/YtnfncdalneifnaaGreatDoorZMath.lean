/- Plain numbers: words of 64 bits, their values, and how many of them a natural number has. No condition. -/
import Derived.Lib.ItoaNum
import Derived.Lib.Repeat

/- Plain numbers: words of 64 bits, their values, and how many of them a natural number has. No condition. -/
section
namespace Go.Proofs.YtnfncdalneifnaaGreatDoor

def W64 : Nat := 18446744073709551616
theorem W64_pos : 0 < W64 := by decide
theorem W64_pow_pos (k : Nat) : 0 < W64 ^ k := Nat.pow_pos W64_pos

/-- The word number k of x. -/
def dig (x k : Nat) : Nat := x / W64 ^ k % W64
/-- The value of the first n words. -/
def vl (g : Nat → Nat) : Nat → Nat
  | 0 => 0
  | n + 1 => vl g n + g n * W64 ^ n
/-- How many words x has. -/
def nw (x : Nat) : Nat := if x = 0 then 0 else nw (x / W64) + 1
termination_by x
decreasing_by exact Nat.div_lt_self (by omega) (by decide)

theorem dig_lt (x k : Nat) : dig x k < W64 := Nat.mod_lt _ W64_pos
theorem vl_succ (g : Nat → Nat) (n : Nat) : vl g (n + 1) = vl g n + g n * W64 ^ n := rfl
theorem vl_lt (g : Nat → Nat) (n : Nat) (h : ∀ k, k < n → g k < W64) : vl g n < W64 ^ n := by
  induction n with
  | zero => simp [vl]
  | succ n ih =>
    have h1 := ih fun k hk => h k (by omega)
    have h2 := h n (by omega)
    rw [vl_succ, Nat.pow_succ]
    have : g n * W64 ^ n ≤ (W64 - 1) * W64 ^ n := Nat.mul_le_mul_right _ (by omega)
    have e : (W64 - 1) * W64 ^ n + W64 ^ n = W64 ^ n * W64 := by
      rw [Nat.mul_comm (W64 ^ n) W64, ← Nat.succ_mul]; congr 1
    omega
theorem vl_congr (g f : Nat → Nat) (n : Nat) (h : ∀ k, k < n → g k = f k) : vl g n = vl f n := by
  induction n with
  | zero => rfl
  | succ n ih => rw [vl_succ, vl_succ, ih fun k hk => h k (by omega), h n (by omega)]
theorem vl_dig (x n : Nat) : vl (dig x) n = x % W64 ^ n := by
  induction n with
  | zero => simp [vl, Nat.mod_one]
  | succ n ih =>
    rw [vl_succ, ih]
    unfold dig
    rw [Nat.pow_succ, Nat.mod_mul, Nat.mul_comm (x / W64 ^ n % W64)]
theorem vl_dig_lt (x n : Nat) (h : x < W64 ^ n) : vl (dig x) n = x := by rw [vl_dig, Nat.mod_eq_of_lt h]
theorem dig_vl (g : Nat → Nat) (n : Nat) (h : ∀ k, k < n → g k < W64) (k : Nat) (hk : k < n) : dig (vl g n) k = g k := by
  induction n with
  | zero => omega
  | succ n ih =>
    have h1 := vl_lt g n fun k hk => h k (by omega)
    rw [vl_succ]
    rcases Nat.lt_or_ge k n with hlt | hge
    · rw [← ih (fun k hk => h k (by omega)) hlt]
      unfold dig
      have e : W64 ^ n = W64 ^ k * (W64 * W64 ^ (n - k - 1)) := by
        rw [← Nat.pow_succ', ← Nat.pow_add]; congr 1; omega
      have e2 : (vl g n + g n * W64 ^ n) / W64 ^ k = vl g n / W64 ^ k + W64 * (W64 ^ (n - k - 1) * g n) := by
        rw [e, show g n * (W64 ^ k * (W64 * W64 ^ (n - k - 1))) = W64 ^ k * (W64 * (W64 ^ (n - k - 1) * g n)) by
          rw [← Nat.mul_assoc, ← Nat.mul_assoc, Nat.mul_comm (g n), Nat.mul_assoc, Nat.mul_assoc, Nat.mul_comm (g n), Nat.mul_assoc]]
        exact Nat.add_mul_div_left _ _ (W64_pow_pos k)
      rw [e2, Nat.add_mul_mod_self_left]
    · have : k = n := by omega
      subst this
      unfold dig
      rw [Nat.add_mul_div_right _ _ (W64_pow_pos k), Nat.div_eq_of_lt h1, Nat.zero_add, Nat.mod_eq_of_lt (h k (by omega))]
theorem nw_zero : nw 0 = 0 := by rw [nw]; rfl
theorem nw_step (x : Nat) (h : x ≠ 0) : nw x = nw (x / W64) + 1 := by rw [nw, if_neg h]
theorem nw_le (x n : Nat) : nw x ≤ n ↔ x < W64 ^ n := by
  induction n generalizing x with
  | zero =>
    by_cases h : x = 0
    · subst h; simp [nw_zero]
    · rw [nw_step x h]; simp; omega
  | succ n ih =>
    by_cases h : x = 0
    · subst h; simp [nw_zero]; exact W64_pow_pos _
    · rw [nw_step x h, Nat.add_le_add_iff_right, ih, Nat.pow_succ, Nat.div_lt_iff_lt_mul W64_pos]
theorem lt_nw (x : Nat) : x < W64 ^ nw x := (nw_le x _).1 (Nat.le_refl _)
theorem nw_of (x n : Nat) (h1 : x < W64 ^ n) (h2 : n = 0 ∨ W64 ^ (n - 1) ≤ x) : nw x = n := by
  have a := (nw_le x n).2 h1
  rcases h2 with h2 | h2
  · omega
  · have b : ¬ nw x ≤ n - 1 := by rw [nw_le]; omega
    omega
theorem nw_eq_zero (x : Nat) : nw x = 0 ↔ x = 0 := by
  have := nw_le x 0
  simp at this
  omega
theorem nw_pos (x : Nat) : 0 < nw x ↔ 0 < x := by have := nw_eq_zero x; omega
theorem nw_mono {x y : Nat} (h : x ≤ y) : nw x ≤ nw y := (nw_le x _).2 (Nat.lt_of_le_of_lt h (lt_nw y))
theorem lt_of_nw {x y : Nat} (h : nw x < nw y) : x < y := by
  rcases Nat.lt_or_ge x y with h1 | h1
  · exact h1
  · have := nw_mono h1; omega
theorem dig_ge (x n k : Nat) (h : x < W64 ^ n) (hk : n ≤ k) : dig x k = 0 := by
  unfold dig
  have : W64 ^ n ≤ W64 ^ k := Nat.pow_le_pow_right W64_pos hk
  rw [Nat.div_eq_of_lt (by omega), Nat.zero_mod]
theorem nw_low (x : Nat) (h : 0 < x) : W64 ^ (nw x - 1) ≤ x := by
  have hp := (nw_pos x).2 h
  have : ¬ nw x ≤ nw x - 1 := by omega
  rw [nw_le] at this
  omega
theorem dig_top (x : Nat) (h : 0 < x) : dig x (nw x - 1) ≠ 0 := by
  have h1 := nw_low x h
  have h2 := lt_nw x
  have hp := (nw_pos x).2 h
  unfold dig
  have e : nw x = nw x - 1 + 1 := by omega
  rw [e, Nat.pow_succ] at h2
  have h3 : x / W64 ^ (nw x - 1) < W64 := by rw [Nat.div_lt_iff_lt_mul (W64_pow_pos _), Nat.mul_comm]; simpa using h2
  rw [Nat.mod_eq_of_lt h3]
  have : 0 < x / W64 ^ (nw x - 1) := Nat.div_pos h1 (W64_pow_pos _)
  omega
/-- x has fewer than n words if the last of n is 0. -/
theorem lt_pred (x n : Nat) (h : x < W64 ^ (n + 1)) (h0 : dig x n = 0) : x < W64 ^ n := by
  unfold dig at h0
  rw [Nat.pow_succ] at h
  have h3 : x / W64 ^ n < W64 := by rw [Nat.div_lt_iff_lt_mul (W64_pow_pos _), Nat.mul_comm]; exact h
  rw [Nat.mod_eq_of_lt h3] at h0
  rcases Nat.lt_or_ge x (W64 ^ n) with h4 | h4
  · exact h4
  · have := Nat.div_pos h4 (W64_pow_pos n); omega
theorem ge_of_dig (x n : Nat) (h0 : dig x n ≠ 0) : W64 ^ n ≤ x := by
  rcases Nat.lt_or_ge x (W64 ^ n) with h4 | h4
  · exact absurd (dig_ge x n n h4 (Nat.le_refl _)) h0
  · exact h4
theorem dig_zero (x : Nat) : dig x 0 = x % W64 := by simp [dig]
theorem dig_small (x : Nat) (h : x < W64) : dig x 0 = x := by rw [dig_zero, Nat.mod_eq_of_lt h]
theorem nw_one (x : Nat) (h0 : 0 < x) (h : x < W64) : nw x = 1 := nw_of x 1 (by simpa using h) (.inr (by simp; omega))
theorem nw_le_one (x : Nat) : nw x ≤ 1 ↔ x < W64 := by rw [nw_le, Nat.pow_one]
/-- The digits above agree: comparing by the next one. -/
theorem div_step (x n : Nat) : x / W64 ^ n = x / W64 ^ (n + 1) * W64 + dig x n := by
  unfold dig
  rw [Nat.pow_succ, ← Nat.div_div_eq_div_mul, Nat.mul_comm, Nat.div_add_mod]
theorem lt_of_dig (x y n : Nat) (h : x / W64 ^ (n + 1) = y / W64 ^ (n + 1)) (hd : dig x n < dig y n) : x < y := by
  rcases Nat.lt_or_ge x y with h1 | h1
  · exact h1
  · have h2 : y / W64 ^ n ≤ x / W64 ^ n := Nat.div_le_div_right h1
    rw [div_step x n, div_step y n, h] at h2
    omega
theorem div_of_dig (x y n : Nat) (h : x / W64 ^ (n + 1) = y / W64 ^ (n + 1)) (hd : dig x n = dig y n) : x / W64 ^ n = y / W64 ^ n := by
  rw [div_step x n, div_step y n, h, hd]
/-- The order of two numbers, as compare says it. -/
def cmpN (x y : Nat) : Int := if x < y then -1 else if x = y then 0 else 1
theorem cmpN_lt {x y : Nat} (h : x < y) : cmpN x y = -1 := by unfold cmpN; rw [if_pos h]
theorem cmpN_eq (x : Nat) : cmpN x x = 0 := by unfold cmpN; simp
theorem cmpN_gt {x y : Nat} (h : y < x) : cmpN x y = 1 := by unfold cmpN; rw [if_neg (by omega), if_neg (by omega)]
end Go.Proofs.YtnfncdalneifnaaGreatDoor
end

/- Plain numbers: the steps of carrying. No condition. -/
section
namespace Go.Proofs.YtnfncdalneifnaaGreatDoor
theorem mod_div_mul (s P : Nat) : s % W64 * P + s / W64 * (P * W64) = s * P := by
  have h := Nat.div_add_mod s W64
  conv => rhs; rw [← h]
  generalize s / W64 = q; generalize s % W64 = r
  grind
theorem add_step (f gx gy f' : Nat → Nat) (k cy : Nat) (hf : ∀ j, j < k → f' j = f j) (h1 : f' k = (gx k + gy k + cy) % W64)
    (h : vl f k + cy * W64 ^ k = vl gx k + vl gy k) : vl f' (k + 1) + (gx k + gy k + cy) / W64 * W64 ^ (k + 1) = vl gx (k + 1) + vl gy (k + 1) := by
  rw [vl_succ, vl_succ, vl_succ, vl_congr f' f k hf, h1, Nat.pow_succ]
  have := mod_div_mul (gx k + gy k + cy) (W64 ^ k)
  have e : (gx k + gy k + cy) * W64 ^ k = gx k * W64 ^ k + gy k * W64 ^ k + cy * W64 ^ k := by rw [Nat.add_mul, Nat.add_mul]
  omega
theorem sub_mod_step (a b c : Nat) (ha : a < W64) (hb : b < W64) (hc : c ≤ 1) (P : Nat) :
    (a + 2 * W64 - b - c) % W64 * P + b * P + c * P = a * P + (if a < b + c then 1 else 0) * (P * W64) := by
  have e : (a + 2 * W64 - b - c) % W64 + b + c = a + (if a < b + c then 1 else 0) * W64 := by
    unfold W64 at *
    split <;> omega
  rw [← Nat.add_mul, ← Nat.add_mul, e, Nat.add_mul, Nat.mul_comm P W64, Nat.mul_assoc]
/-- f with the value v at k. -/
def upd (f : Nat → Nat) (k v : Nat) (j : Nat) : Nat := if j = k then v else f j
theorem upd_same (f : Nat → Nat) (k v : Nat) : upd f k v k = v := if_pos rfl
theorem upd_ne (f : Nat → Nat) (k v j : Nat) (h : j ≠ k) : upd f k v j = f j := if_neg h
theorem upd_lt (f : Nat → Nat) (k v m : Nat) (hf : ∀ j, j < m → j ≠ k → f j < W64) (hv : v < W64) : ∀ j, j < m → upd f k v j < W64 := fun j hj => by
  by_cases e : j = k
  · subst e; rw [upd_same]; exact hv
  · rw [upd_ne _ _ _ _ e]; exact hf j hj e
theorem vl_upd (f : Nat → Nat) (k v : Nat) : vl (upd f k v) (k + 1) = vl f k + v * W64 ^ k := by
  rw [vl_succ, vl_congr _ f k (fun j hj => upd_ne _ _ _ _ (by omega)), upd_same]
end Go.Proofs.YtnfncdalneifnaaGreatDoor
end

/- Dividing two words by one: the arithmetic of guessing half a word at a time. No condition. -/
section
namespace Go.Proofs.YtnfncdalneifnaaGreatDoor

def H32 : Nat := 4294967296
theorem H32_sq : H32 * H32 = W64 := by decide

/-- q is a guess of (a H + d) / (p H + l), not too small; r is what a leaves. -/
structure Guess (a d p l q r : Nat) : Prop where
  eq : a = q * p + r
  ge : (a * H32 + d) / (p * H32 + l) ≤ q

theorem Guess.more {a d p l q r : Nat} (hlt : a < p * H32 + l) (hd : d < H32) (hp : 0 < p) (g : Guess a d p l q r) (hc : H32 ≤ q ∨ H32 * r + d < q * l) : 0 < q ∧ Guess a d p l (q - 1) (r + p) := by
  have hq : 0 < q := by
    rcases hc with h | h
    · have : 0 < H32 := by decide
      omega
    · exact Nat.pos_of_ne_zero fun e => by subst e; simp at h
  refine ⟨hq, ?_, ?_⟩
  · obtain ⟨k, rfl⟩ : ∃ k, q = k + 1 := ⟨q - 1, by omega⟩
    have := g.eq
    rw [Nat.succ_mul] at this
    simp only [Nat.add_sub_cancel]
    omega
  · have hY : 0 < p * H32 + l := by have := Nat.mul_pos hp (show 0 < H32 by decide); omega
    have key : (a * H32 + d) / (p * H32 + l) < q := by
      rw [Nat.div_lt_iff_lt_mul hY]
      rcases hc with h | h
      · have h1 : (a + 1) * H32 ≤ (p * H32 + l) * H32 := Nat.mul_le_mul_right _ hlt
        have h2 : (p * H32 + l) * H32 ≤ (p * H32 + l) * q := Nat.mul_le_mul_left _ h
        rw [Nat.succ_mul] at h1
        rw [Nat.mul_comm q]
        omega
      · have e1 : a * H32 = q * (p * H32) + H32 * r := by rw [g.eq, Nat.add_mul, Nat.mul_assoc, Nat.mul_comm r]
        have e2 : q * (p * H32 + l) = q * (p * H32) + q * l := Nat.mul_add ..
        omega
    omega

theorem Guess.done {a d p l q r : Nat} (hp : 0 < p) (g : Guess a d p l q r) (hc : q * l ≤ H32 * r + d) : q = (a * H32 + d) / (p * H32 + l) := by
  have hY : 0 < p * H32 + l := by have := Nat.mul_pos hp (show 0 < H32 by decide); omega
  refine Nat.le_antisymm ?_ g.ge
  rw [Nat.le_div_iff_mul_le hY]
  have e1 : a * H32 = q * (p * H32) + H32 * r := by rw [g.eq, Nat.add_mul, Nat.mul_assoc, Nat.mul_comm r]
  have e2 : q * (p * H32 + l) = q * (p * H32) + q * l := Nat.mul_add ..
  omega

theorem Guess.out {a d p l q r : Nat} (hlt : a < p * H32 + l) (hp : 0 < p) (hl : l < H32) (g : Guess a d p l q r) (hr : H32 ≤ r) : q = (a * H32 + d) / (p * H32 + l) := by
  refine g.done hp ?_
  have hq : q < H32 := by
    have h1 : q * p < H32 * p := by have := g.eq; rw [Nat.mul_comm H32]; omega
    exact Nat.lt_of_mul_lt_mul_right h1
  have h1 : q * l ≤ H32 * l := Nat.mul_le_mul_right _ (by omega)
  have h2 : H32 * l ≤ H32 * r := Nat.mul_le_mul_left _ (by omega)
  omega

theorem Guess.first (a d p l : Nat) (hp : 0 < p) (hd : d < H32) : Guess a d p l (a / p) (a % p) := by
  refine ⟨by have := Nat.div_add_mod a p; rw [Nat.mul_comm]; exact this.symm, ?_⟩
  have hY : 0 < p * H32 + l := by have := Nat.mul_pos hp (show 0 < H32 by decide); omega
  have h1 : (a * H32 + d) / (p * H32 + l) ≤ (a * H32 + d) / (p * H32) := Nat.div_le_div_left (by omega) (Nat.mul_pos hp (by decide))
  have h2 : (a * H32 + d) / (p * H32) = a / p := by
    rw [Nat.mul_comm p, ← Nat.div_div_eq_div_mul, Nat.mul_comm a, Nat.mul_add_div (by decide), Nat.div_eq_of_lt hd, Nat.add_zero]
  omega
/-- Half a word of the quotient after the other. -/
theorem two_halves (a d1 d0 Y : Nat) (hY : 0 < Y) (_h1 : d1 < H32) (_h0 : d0 < H32) :
    (a * W64 + (d1 * H32 + d0)) / Y = (a * H32 + d1) / Y * H32 + ((a * H32 + d1) % Y * H32 + d0) / Y ∧ (a * W64 + (d1 * H32 + d0)) % Y = ((a * H32 + d1) % Y * H32 + d0) % Y := by
  have e := Nat.div_add_mod (a * H32 + d1) Y
  generalize (a * H32 + d1) / Y = q at *
  generalize (a * H32 + d1) % Y = r at *
  have e2 : a * W64 + (d1 * H32 + d0) = Y * (q * H32) + (r * H32 + d0) := by
    have : (a * H32 + d1) * H32 = (Y * q + r) * H32 := by rw [e]
    rw [Nat.add_mul, Nat.add_mul, Nat.mul_assoc, H32_sq, Nat.mul_assoc] at this
    omega
  rw [e2]
  exact ⟨Nat.mul_add_div hY .., Nat.mul_add_mod ..⟩
/-- A divisor of L bits, and what is divided, shifted until its highest bit is 1. -/
structure Shift (hi lo y L s Y a d : Nat) : Prop where
  hY : Y = y * 2 ^ s
  ha : a = hi * 2 ^ s + lo / 2 ^ L
  hd : d = lo * 2 ^ s % W64
  hL : L ≤ 64
  hs : s = 64 - L
  all : (hi * W64 + lo) * 2 ^ s = a * W64 + d
  lt : a < Y
  top : Y < W64
  half : 9223372036854775808 ≤ Y
theorem pow_64 : (2 : Nat) ^ 64 = W64 := by decide
theorem shift_of (hi lo y L : Nat) (hlo : lo < W64) (hh : hi < y) (h1 : y < 2 ^ L) (h2 : 2 ^ (L - 1) ≤ y) (hL : L ≤ 64) (h0 : 0 < L) : Shift hi lo y L (64 - L) (y * 2 ^ (64 - L)) (hi * 2 ^ (64 - L) + lo / 2 ^ L) (lo * 2 ^ (64 - L) % W64) := by
  have eW : W64 = 2 ^ L * 2 ^ (64 - L) := by rw [← Nat.pow_add, show L + (64 - L) = 64 by omega, pow_64]
  have hp : 0 < 2 ^ (64 - L) := Nat.pow_pos (by decide)
  have hdiv : lo * 2 ^ (64 - L) / W64 = lo / 2 ^ L := by rw [eW]; exact Nat.mul_div_mul_right _ _ hp
  have hmod := Nat.div_add_mod (lo * 2 ^ (64 - L)) W64
  rw [hdiv] at hmod
  have all : (hi * W64 + lo) * 2 ^ (64 - L) = (hi * 2 ^ (64 - L) + lo / 2 ^ L) * W64 + lo * 2 ^ (64 - L) % W64 := by
    rw [Nat.add_mul, Nat.add_mul, Nat.mul_right_comm, Nat.mul_comm (lo / 2 ^ L)]
    omega
  refine ⟨rfl, rfl, rfl, hL, rfl, all, ?_, ?_, ?_⟩
  · have h3 : (hi * W64 + lo) * 2 ^ (64 - L) < (y * 2 ^ (64 - L)) * W64 := by
      rw [Nat.mul_right_comm]
      refine Nat.mul_lt_mul_of_pos_right ?_ hp
      have : (hi + 1) * W64 ≤ y * W64 := Nat.mul_le_mul_right _ hh
      rw [Nat.succ_mul] at this
      omega
    have h4 : (hi * 2 ^ (64 - L) + lo / 2 ^ L) * W64 < (y * 2 ^ (64 - L)) * W64 := by omega
    exact Nat.lt_of_mul_lt_mul_right h4
  · rw [eW]; exact Nat.mul_lt_mul_of_pos_right h1 hp
  · have e : (9223372036854775808 : Nat) = 2 ^ (L - 1) * 2 ^ (64 - L) := by
      rw [← Nat.pow_add, show L - 1 + (64 - L) = 63 by omega]
    rw [e]; exact Nat.mul_le_mul_right _ h2
/-- What the two halves give, shifted back. -/
theorem Shift.ends {hi lo y L s Y a d : Nat} (h : Shift hi lo y L s Y a d) :
    (a * H32 + d / H32) / Y * H32 + ((a * H32 + d / H32) % Y * H32 + d % H32) / Y = (hi * W64 + lo) / y ∧ ((a * H32 + d / H32) % Y * H32 + d % H32) % Y / 2 ^ s = (hi * W64 + lo) % y := by
  have hp : 0 < 2 ^ s := Nat.pow_pos (by decide)
  have hY : 0 < Y := by have := h.half; omega
  have hdlt : d < W64 := by rw [h.hd]; exact Nat.mod_lt _ (by decide)
  have ed : d / H32 * H32 + d % H32 = d := by have := Nat.div_add_mod d H32; rw [Nat.mul_comm] at this; exact this
  have t := two_halves a (d / H32) (d % H32) Y hY (by rw [Nat.div_lt_iff_lt_mul (by decide), H32_sq]; exact hdlt) (Nat.mod_lt _ (by decide))
  rw [ed, ← h.all, h.hY, Nat.mul_div_mul_right _ _ hp, Nat.mul_mod_mul_right] at t
  rw [h.hY]
  exact ⟨t.1.symm, by rw [← t.2, Nat.mul_div_cancel _ hp]⟩
end Go.Proofs.YtnfncdalneifnaaGreatDoor
end

/- Plain numbers: long division word by word. No condition. -/
section
namespace Go.Proofs.YtnfncdalneifnaaGreatDoor

/-- The guess of a word of the quotient by the first words is right, or 1 more. -/
theorem guess_ok (P D E : Nat) (hE : 0 < E) (hd : W64 - 1 ≤ D / E) (hP : P < D * W64) : P / D ≤ min (P / E / (D / E)) (W64 - 1) ∧ min (P / E / (D / E)) (W64 - 1) ≤ P / D + 1 := by
  have hd0 : 0 < D / E := Nat.lt_of_lt_of_le (by decide) hd
  have hDE : D / E * E ≤ D := Nat.div_mul_le_self D E
  have hD0 : 0 < D := Nat.lt_of_lt_of_le (Nat.mul_pos hd0 hE) hDE
  constructor
  · refine Nat.le_min.2 ⟨?_, ?_⟩
    · rw [Nat.le_div_iff_mul_le hd0, Nat.le_div_iff_mul_le hE, Nat.mul_assoc]
      exact Nat.le_trans (Nat.mul_le_mul_left _ hDE) (Nat.div_mul_le_self P D)
    · have : P / D < W64 := by rw [Nat.div_lt_iff_lt_mul hD0, Nat.mul_comm]; exact hP
      omega
  · have h1 := Nat.min_le_left (P / E / (D / E)) (W64 - 1)
    have h2 := Nat.min_le_right (P / E / (D / E)) (W64 - 1)
    generalize min (P / E / (D / E)) (W64 - 1) = q at *
    rcases q with _ | k
    · exact Nat.zero_le _
    · refine Nat.succ_le_succ ?_
      rw [Nat.le_div_iff_mul_le hD0]
      have h3 : (k + 1) * (D / E) ≤ P / E := (Nat.le_div_iff_mul_le hd0).1 h1
      have h4 : (k + 1) * (D / E) * E ≤ P := (Nat.le_div_iff_mul_le hE).1 h3
      have h5 : D ≤ (D / E + 1) * E := by
        have := Nat.div_add_mod D E
        have h6 := Nat.mod_lt D hE
        rw [Nat.succ_mul, Nat.mul_comm]
        omega
      have h7 : k * (D / E + 1) ≤ (k + 1) * (D / E) := by
        rw [Nat.mul_add, Nat.succ_mul, Nat.mul_one]; omega
      calc k * D ≤ k * ((D / E + 1) * E) := Nat.mul_le_mul_left _ h5
        _ = k * (D / E + 1) * E := (Nat.mul_assoc ..).symm
        _ ≤ (k + 1) * (D / E) * E := Nat.mul_le_mul_right _ h7
        _ ≤ P := h4
theorem sub_small {P D q F M t : Nat} (h : F + D * q = P + t * M) (hF : F < M) (ht : t ≤ 1) (hq : q = P / D) : t = 0 ∧ F = P % D := by
  subst hq
  have := Nat.div_add_mod P D
  rcases (by omega : t = 0 ∨ t = 1) with rfl | rfl
  · omega
  · omega
theorem sub_big {P D q F M t : Nat} (h : F + D * q = P + t * M) (hD : 0 < D) (ht : t ≤ 1) (hq : q = P / D + 1) : t = 1 ∧ F + D = P % D + M := by
  subst hq
  have := Nat.div_add_mod P D
  have h1 := Nat.mod_lt P hD
  rw [Nat.mul_succ] at h
  rcases (by omega : t = 0 ∨ t = 1) with rfl | rfl
  · omega
  · omega
/-- Adding the divisor again: the words below the last one, and the carry into the last one. -/
theorem add_back {F D r M low top c low' : Nat} (h : F + D = r + M * W64) (hr : r < M) (hF : F = low + top * M) (h2 : low' + c * M = low + D) (hl : low' < M) : low' = r ∧ top + c = W64 := by
  have h3 : low' + (top + c) * M = r + W64 * M := by
    rw [Nat.add_mul, Nat.mul_comm W64]; omega
  have hM : 0 < M := by omega
  have e1 : (low' + (top + c) * M) % M = low' := by rw [Nat.add_mul_mod_self_right, Nat.mod_eq_of_lt hl]
  have e2 : (r + W64 * M) % M = r := by rw [Nat.add_mul_mod_self_right, Nat.mod_eq_of_lt hr]
  have e3 : low' = r := by rw [← e1, h3, e2]
  refine ⟨e3, ?_⟩
  have e4 : (top + c) * M = W64 * M := by omega
  exact Nat.eq_of_mul_eq_mul_right hM e4

/-- What is left when the words of the quotient from k on are found. -/
def restK (R0 D k : Nat) : Nat := R0 % (D * W64 ^ k)
theorem restK_lt (R0 D k : Nat) (hD : 0 < D) : restK R0 D k < D * W64 ^ k := Nat.mod_lt _ (Nat.mul_pos hD (W64_pow_pos k))
theorem restK_step (R0 D k : Nat) : restK R0 D k = restK R0 D (k + 1) % W64 ^ k + W64 ^ k * (restK R0 D (k + 1) / W64 ^ k % D) := by
  rw [← Nat.mod_mul]
  unfold restK
  rw [Nat.mul_comm (W64 ^ k) D, Nat.mod_mod_of_dvd]
  exact ⟨W64, by rw [Nat.pow_succ, Nat.mul_assoc]⟩
theorem restK_quo (R0 D k : Nat) : restK R0 D (k + 1) / W64 ^ k / D = dig (R0 / D) k := by
  unfold restK dig
  rw [Nat.div_div_eq_div_mul, Nat.mul_comm (W64 ^ k) D, Nat.pow_succ, ← Nat.mul_assoc, Nat.mod_mul_right_div_self, Nat.div_div_eq_div_mul]
theorem restK_all (R0 D k : Nat) (h : R0 < D * W64 ^ k) : restK R0 D k = R0 := Nat.mod_eq_of_lt h
theorem restK_zero (R0 D : Nat) : restK R0 D 0 = R0 % D := by unfold restK; rw [Nat.pow_zero, Nat.mul_one]
theorem vl_split (f : Nat → Nat) (i n : Nat) : vl f (i + n) = vl f i + W64 ^ i * vl (fun j => f (i + j)) n := by
  induction n with
  | zero => simp [vl]
  | succ n ih =>
    rw [← Nat.add_assoc, vl_succ, ih, vl_succ, Nat.mul_add, Nat.pow_add]
    generalize W64 ^ i = P; generalize W64 ^ n = Q
    grind
theorem vl_zero (f : Nat → Nat) (n : Nat) (h : ∀ j, j < n → f j = 0) : vl f n = 0 := by
  induction n with
  | zero => rfl
  | succ n ih => rw [vl_succ, ih fun j hj => h j (by omega), h n (by omega), Nat.zero_mul]
/-- The words of x from k on. -/
theorem dig_add (x k j : Nat) : dig x (k + j) = dig (x / W64 ^ k) j := by
  unfold dig
  rw [Nat.pow_add, Nat.div_div_eq_div_mul]
theorem vl_dig_from (x k n : Nat) (h : x < W64 ^ (k + n)) : vl (fun j => dig x (k + j)) n = x / W64 ^ k := by
  have e : vl (fun j => dig x (k + j)) n = vl (dig (x / W64 ^ k)) n := vl_congr _ _ _ fun j _ => dig_add x k j
  rw [e]
  refine vl_dig_lt _ _ ?_
  rw [Nat.div_lt_iff_lt_mul (W64_pow_pos k), ← Nat.pow_add, Nat.add_comm]
  exact h
/-- A list of words that are those of x, but for some whose value is known. -/
theorem dig_patch (x y k n N v : Nat) (f : Nat → Nat) (hf : ∀ j, j < N → f j < W64) (hN : k + n ≤ N) (hx : x < W64 ^ (k + n)) (hfar : ∀ j, j < N → j < k ∨ k + n ≤ j → f j = dig x j)
    (hv : vl (fun j => f (k + j)) n = v) (hy : y = x % W64 ^ k + W64 ^ k * v) : ∀ j, j < N → f j = dig y j := by
  have hval : vl f N = y := by
    obtain ⟨d, rfl⟩ : ∃ d, N = k + n + d := ⟨N - (k + n), by omega⟩
    rw [vl_split f (k + n) d, vl_zero _ d (fun j hj => by rw [hfar _ (by omega) (.inr (by omega)), dig_ge x (k + n) _ hx (by omega)]), Nat.mul_zero, Nat.add_zero, vl_split, hv, hy,
      vl_congr f (dig x) k (fun j hj => hfar j (by omega) (.inl hj)), vl_dig]
  intro j hj
  rw [← hval, dig_vl f N hf j hj]
/-- The first three words of a part, and the first two of the divisor. -/
theorem three_words (x k : Nat) (h : x < W64 ^ (k + 3)) : (dig x (k + 2) * W64 + dig x (k + 1)) * W64 + dig x k = x / W64 ^ k := by
  have e1 := div_step x k
  have e2 := div_step x (k + 1)
  have e3 := div_step x (k + 2)
  rw [show k + 2 + 1 = k + 3 by omega, Nat.div_eq_of_lt h, Nat.zero_mul, Nat.zero_add] at e3
  rw [show k + 1 + 1 = k + 2 by omega, e3] at e2
  rw [e2] at e1
  exact e1.symm
theorem two_words (x k : Nat) (h : x < W64 ^ (k + 2)) : dig x (k + 1) * W64 + dig x k = x / W64 ^ k := by
  have e1 := div_step x k
  have e2 := div_step x (k + 1)
  rw [show k + 1 + 1 = k + 2 by omega, Nat.div_eq_of_lt h, Nat.zero_mul, Nat.zero_add] at e2
  rw [e2] at e1
  exact e1.symm
end Go.Proofs.YtnfncdalneifnaaGreatDoor
end

/- Plain numbers: several steps of Euclid's algorithm at once. No condition. -/
section
namespace Go.Proofs.YtnfncdalneifnaaGreatDoor

/-- A and B are p0 u - r0 v and r1 v - p1 u; x and y are those of the first places of u and v. -/
structure Half (u v H α β x y A B p0 p1 r0 r1 : Nat) : Prop where
  ax : A + r0 * β = x * H + p0 * α
  bx : B + p1 * α = y * H + r1 * β
  au : A + r0 * v = p0 * u
  bu : B + p1 * u = r1 * v
theorem Half.step {u v H α β x y A B p0 p1 r0 r1 q rest : Nat} (h : Half u v H α β x y A B p0 p1 r0 r1) (hq : x = q * y + rest) (hα : α < H) (hβ : β < H)
    (h1 : r0 + q * r1 ≤ rest) (h2 : rest + (p1 + (p0 + q * p1)) ≤ y) (h3 : 1 ≤ p1 + (p0 + q * p1)) :
    ∃ C, A = q * B + C ∧ C < B ∧ Half v u H β α y rest B C r1 (r0 + q * r1) p1 (p0 + q * p1) := by
  obtain ⟨ax, bx, au, bu⟩ := h
  -- q B is not greater than A
  have e1 : A + (r0 + q * r1) * β = q * B + (rest * H + (p0 + q * p1) * α) := by
    have := congrArg (q * ·) bx
    simp only [Nat.mul_add] at this
    subst hq
    grind
  have b1 : (r0 + q * r1) * β ≤ rest * H := Nat.mul_le_mul h1 (by omega)
  have e2 : q * B ≤ A := by omega
  obtain ⟨C, hC⟩ : ∃ C, A = q * B + C := ⟨A - q * B, by omega⟩
  have e3 : C + (r0 + q * r1) * β = rest * H + (p0 + q * p1) * α := by omega
  have e4 : C < B := by
    -- B - C = (y - rest) H + (r1 + r2) β - (p1 + p2) α
    have f1 : rest * H + (p1 + (p0 + q * p1)) * H ≤ y * H := by rw [← Nat.add_mul]; exact Nat.mul_le_mul_right _ h2
    have f2 : (p1 + (p0 + q * p1)) * (α + 1) ≤ (p1 + (p0 + q * p1)) * H := Nat.mul_le_mul_left _ hα
    rw [Nat.mul_succ, Nat.add_mul] at f2
    have f3 : p1 * α + (p0 + q * p1) * α + (p1 + (p0 + q * p1)) + rest * H ≤ y * H := by omega
    omega
  refine ⟨C, hC, e4, ⟨bx, e3, bu, ?_⟩⟩
  subst hC
  have := congrArg (q * ·) bu
  simp only [Nat.mul_add] at this
  grind

/-- After so many steps. -/
structure Sim (a b x0 y0 H α β cnt x y a0 b0 a1 b1 A B : Nat) : Prop where
  half : if cnt % 2 = 0 then Half a b H α β x y A B a0 a1 b0 b1 else Half b a H β α x y A B b0 b1 a0 a1
  xs : x0 = b1 * x + b0 * y
  ys : y0 = a1 * x + a0 * y
  l1 : a1 ≤ b1
  l01 : a0 + a1 ≤ b0 + b1
  l0 : cnt % 2 = 1 → a0 ≤ b0
  pos : 1 ≤ a0 + a1
  xy : y ≤ x
  AB : B ≤ A
  g : Nat.gcd A B = Nat.gcd a b
  none : cnt = 0 → A = a ∧ B = b
  some : 0 < cnt → B < b ∧ A ≤ b
theorem Sim.start (a b H : Nat) (hle : b ≤ a) : Sim a b (a / H) (b / H) H (a % H) (b % H) 0 (a / H) (b / H) 1 0 0 1 a b := by
  have h1 := Nat.div_add_mod a H
  have h2 := Nat.div_add_mod b H
  refine ⟨?_, by omega, by omega, by omega, by omega, by omega, by omega, Nat.div_le_div_right hle, hle, rfl, fun _ => ⟨rfl, rfl⟩, fun h => absurd h (by omega)⟩
  rw [if_pos rfl]
  refine ⟨?_, ?_, by omega, by omega⟩
  · have := Nat.mul_comm (a / H) H; omega
  · have := Nat.mul_comm (b / H) H; omega
theorem Sim.bounds {a b x0 y0 H α β cnt x y a0 b0 a1 b1 A B : Nat} (h : Sim a b x0 y0 H α β cnt x y a0 b0 a1 b1 A B) (hy : 0 < y) : a0 + x / y * a1 ≤ y0 ∧ b0 + x / y * b1 ≤ x0 ∧ (0 < x % y → b1 + (b0 + x / y * b1) ≤ x0) := by
  have e := Nat.div_add_mod x y
  have hx := h.xs
  have hy0 := h.ys
  generalize x / y = q at *
  generalize x % y = r at *
  have k1 : x0 = (b0 + q * b1) * y + b1 * r := by rw [hx, ← e]; grind
  have k2 : y0 = (a0 + q * a1) * y + a1 * r := by rw [hy0, ← e]; grind
  have m1 : (b0 + q * b1) * 1 ≤ (b0 + q * b1) * y := Nat.mul_le_mul_left _ hy
  have m2 : (a0 + q * a1) * 1 ≤ (a0 + q * a1) * y := Nat.mul_le_mul_left _ hy
  refine ⟨by omega, by omega, fun hr => ?_⟩
  have m3 : b1 * 1 ≤ b1 * r := Nat.mul_le_mul_left _ hr
  omega
theorem Sim.step {a b x0 y0 H α β cnt x y a0 b0 a1 b1 A B : Nat} (h : Sim a b x0 y0 H α β cnt x y a0 b0 a1 b1 A B) (hα : α < H) (hβ : β < H) (hy : 0 < y)
    (h1 : b0 + x / y * b1 ≤ x % y) (h2 : b1 + (b0 + x / y * b1) ≤ y - x % y) :
    ∃ C, Sim a b x0 y0 H α β (cnt + 1) y (x % y) a1 b1 (a0 + x / y * a1) (b0 + x / y * b1) B C := by
  have e := Nat.div_add_mod x y
  have hr := Nat.mod_lt x hy
  have hq : 1 ≤ x / y := Nat.div_pos h.xy hy
  have hxs := h.xs
  have hys := h.ys
  have hl1 := h.l1
  have hl01 := h.l01
  have hl0 := h.l0
  have hpos := h.pos
  have hg := h.g
  have hhalf := h.half
  have hAB := h.AB
  have hsm := h.some
  have hnn := h.none
  clear h
  generalize x / y = q at *
  generalize x % y = r at *
  have hq1 : q * a1 ≤ q * b1 := Nat.mul_le_mul_left _ hl1
  have hxq : x = q * y + r := by rw [Nat.mul_comm]; omega
  have la2 : a0 + q * a1 ≤ b0 + q * b1 := by
    obtain ⟨k, rfl⟩ : ∃ k, q = k + 1 := ⟨q - 1, by omega⟩
    have hk : k * a1 ≤ k * b1 := Nat.mul_le_mul_left _ hl1
    rw [Nat.succ_mul, Nat.succ_mul]
    omega
  have key : ∃ C, A = q * B + C ∧ C < B ∧ (if (cnt + 1) % 2 = 0 then Half a b H α β y r B C a1 (a0 + q * a1) b1 (b0 + q * b1) else Half b a H β α y r B C b1 (b0 + q * b1) a1 (a0 + q * a1)) := by
    by_cases hp : cnt % 2 = 0
    · rw [if_pos hp] at hhalf
      simp only [if_neg (show ¬ (cnt + 1) % 2 = 0 by omega)]
      exact hhalf.step hxq hα hβ h1 (by omega) (by omega)
    · rw [if_neg hp] at hhalf
      simp only [if_pos (show (cnt + 1) % 2 = 0 by omega)]
      exact hhalf.step hxq hβ hα (by omega) (by omega) (by omega)
  obtain ⟨C, hC, hCB, hH⟩ := key
  refine ⟨C, hH, ?_, ?_, la2, by omega, fun _ => hl1, by omega, by omega, by omega, ?_, fun h => absurd h (by omega), fun _ => ?_⟩
  · rw [hxs, ← e]; grind
  · rw [hys, ← e]; grind
  · rw [← hg, hC, Nat.gcd_comm (q * B + C), Nat.mul_comm q, Nat.gcd_mul_left_add_right]
  · rcases Nat.eq_zero_or_pos cnt with h0 | h0
    · obtain ⟨_, rfl⟩ := hnn h0
      exact ⟨hCB, Nat.le_refl _⟩
    · have := hsm h0
      omega
theorem Sim.prod {a b x0 y0 H α β cnt x y a0 b0 a1 b1 A B : Nat} (h : Sim a b x0 y0 H α β cnt x y a0 b0 a1 b1 A B) : (b0 + x / y * b1) * y ≤ x0 := by
  have e := Nat.div_add_mod x y
  have hx := h.xs
  generalize x / y = q at *
  generalize x % y = r at *
  have k1 : x0 = (b0 + q * b1) * y + b1 * r := by rw [hx, ← e]; grind
  omega
/-- What the steps make of a and b. -/
theorem Sim.even {a b x0 y0 H α β cnt x y a0 b0 a1 b1 A B : Nat} (h : Sim a b x0 y0 H α β cnt x y a0 b0 a1 b1 A B) (hc : cnt % 2 = 0) : A + b * b0 = a * a0 ∧ B + a * a1 = b * b1 := by
  have := h.half
  rw [if_pos hc] at this
  exact ⟨by have := this.au; rw [Nat.mul_comm b, Nat.mul_comm a]; exact this, by have := this.bu; rw [Nat.mul_comm b, Nat.mul_comm a]; exact this⟩
theorem Sim.odd {a b x0 y0 H α β cnt x y a0 b0 a1 b1 A B : Nat} (h : Sim a b x0 y0 H α β cnt x y a0 b0 a1 b1 A B) (hc : cnt % 2 ≠ 0) : A + a * a0 = b * b0 ∧ B + b * b1 = a * a1 := by
  have := h.half
  rw [if_neg hc] at this
  exact ⟨by have := this.au; rw [Nat.mul_comm b, Nat.mul_comm a]; exact this, by have := this.bu; rw [Nat.mul_comm b, Nat.mul_comm a]; exact this⟩
/-- The first 64 bits of a number of n + 2 words, of which s are cut. -/
theorem top_word (z s n : Nat) (hs : s < 64) (hz : z < W64 ^ (n + 1) * 2 ^ (64 - s)) : z / (W64 ^ n * 2 ^ (64 - s)) = dig z (n + 1) * 2 ^ s + dig z n / 2 ^ (64 - s) ∧ dig z n / 2 ^ (64 - s) < 2 ^ s ∧ dig z (n + 1) * 2 ^ s + dig z n / 2 ^ (64 - s) < W64 := by
  have hp : 0 < 2 ^ (64 - s) := Nat.pow_pos (by decide)
  have hW : W64 = 2 ^ s * 2 ^ (64 - s) := by rw [← Nat.pow_add, show s + (64 - s) = 64 by omega]; rfl
  have h2 : z < W64 ^ (n + 2) := by
    refine Nat.lt_of_lt_of_le hz ?_
    rw [Nat.pow_succ W64 (n + 1)]
    refine Nat.mul_le_mul_left _ ?_
    rw [hW]; exact Nat.le_mul_of_pos_left _ (Nat.pow_pos (by decide))
  have e := two_words z n h2
  have h3 : dig z n / 2 ^ (64 - s) < 2 ^ s := by rw [Nat.div_lt_iff_lt_mul hp, ← hW]; exact dig_lt z n
  have h4 : dig z (n + 1) < 2 ^ (64 - s) := by
    have h5 : dig z (n + 1) = z / W64 ^ (n + 1) := by
      unfold dig
      rw [Nat.mod_eq_of_lt]
      rw [Nat.div_lt_iff_lt_mul (W64_pow_pos _), ← Nat.pow_succ']
      exact h2
    rw [h5, Nat.div_lt_iff_lt_mul (W64_pow_pos _), Nat.mul_comm]
    exact hz
  refine ⟨?_, h3, ?_⟩
  · rw [← Nat.div_div_eq_div_mul, ← e, hW, ← Nat.mul_assoc, Nat.mul_comm (_ * _) (2 ^ (64 - s)), Nat.mul_add_div hp]
  · have h6 : (dig z (n + 1) + 1) * 2 ^ s ≤ 2 ^ (64 - s) * 2 ^ s := Nat.mul_le_mul_right _ h4
    rw [Nat.succ_mul, Nat.mul_comm (2 ^ (64 - s)), ← hW] at h6
    omega
end Go.Proofs.YtnfncdalneifnaaGreatDoor
end

/- Plain numbers: how sums, products and quotients of rational numbers in lowest terms are found. No condition. -/
section
namespace Go.Proofs.YtnfncdalneifnaaGreatDoor

/-- The integer of a sign and a size. -/
def sInt (s : Bool) (a : Nat) : Int := if s then -(a : Int) else a
theorem sInt_natAbs (s : Bool) (a : Nat) : (sInt s a).natAbs = a := by unfold sInt; split <;> omega
theorem sInt_of (n : Int) : sInt (decide (n < 0)) n.natAbs = n := by
  unfold sInt
  by_cases h : n < 0
  · simp [h]; omega
  · simp [h]; omega
theorem rat_of {q : Rat} {N : Int} {D : Nat} (n : Int) (d : Nat) (hq : q = mkRat N D) (hD : D ≠ 0) (hd : d ≠ 0) (hc : n.natAbs.gcd d = 1) (h : n * D = N * d) : q.num = n ∧ q.den = d := by
  have e : q = ⟨n, d, hd, hc⟩ := by
    rw [hq, ← Rat.mkRat_self ⟨n, d, hd, hc⟩, Rat.mkRat_eq_iff hD hd]
    exact h.symm
  rw [e]
  exact ⟨rfl, rfl⟩
theorem rat_add (p q : Rat) (g e1 e2 c : Nat) (M : Int) (hg : g = Nat.gcd p.den q.den) (h1 : e1 = p.den / g) (h2 : e2 = q.den / g) (hM : M = p.num * e2 + q.num * e1) (hc : c = Nat.gcd M.natAbs g) :
    (p + q).num = M / c ∧ (p + q).den = e1 * (q.den / c) := by
  have hp := p.den_pos
  have hq := q.den_pos
  have hg0 : 0 < g := by rw [hg]; exact Nat.gcd_pos_of_pos_left _ hp
  have hg1 : g ∣ p.den := by rw [hg]; exact Nat.gcd_dvd_left _ _
  have hg2 : g ∣ q.den := by rw [hg]; exact Nat.gcd_dvd_right _ _
  have hcg : c ∣ g := by rw [hc]; exact Nat.gcd_dvd_right _ _
  have hc0 : 0 < c := Nat.pos_of_dvd_of_pos hcg hg0
  have hcq : c ∣ q.den := Nat.dvd_trans hcg hg2
  have e1p : p.den = g * e1 := by rw [h1, Nat.mul_div_cancel' hg1]
  have e2q : q.den = g * e2 := by rw [h2, Nat.mul_div_cancel' hg2]
  have he1 : 0 < e1 := by rcases Nat.eq_zero_or_pos e1 with h | h; (· rw [h, Nat.mul_zero] at e1p; omega); exact h
  have hcd : c = Nat.gcd M.natAbs (e1 * q.den) := by
    have h9 := Rat.add.aux p q hg h1 h2
    simp only at h9
    rw [← hM] at h9
    rw [hc]; exact h9
  have hcM : (c : Int) ∣ M := by
    rw [← Int.natAbs_dvd_natAbs]
    rw [hc]; exact Nat.gcd_dvd_left _ _
  have hdiv : e1 * (q.den / c) = e1 * q.den / c := (Nat.mul_div_assoc _ hcq).symm
  refine rat_of (M / c) (e1 * (q.den / c)) (Rat.add_def' p q) (by have := Nat.mul_pos hp hq; omega) ?_ ?_ ?_
  · have : 0 < q.den / c := Nat.div_pos (Nat.le_of_dvd hq hcq) hc0
    have := Nat.mul_pos he1 this
    omega
  · rw [Int.natAbs_ediv_of_dvd hcM, Int.natAbs_natCast, hdiv, hcd]
    refine Nat.coprime_div_gcd_div_gcd ?_
    exact Nat.gcd_pos_of_pos_right _ (Nat.mul_pos he1 hq)
  · obtain ⟨m, hm⟩ := hcM
    obtain ⟨k, hk⟩ := hcq
    have a1 : M / c = m := by rw [hm]; exact Int.mul_ediv_cancel_left _ (by omega)
    have a2 : q.den / c = k := by rw [hk]; exact Nat.mul_div_cancel_left _ hc0
    rw [a1, a2]
    have a3 : p.num * q.den + q.num * p.den = g * M := by rw [e1p, e2q, hM]; push_cast; grind
    rw [a3, hm, hk, e1p]
    push_cast
    grind
theorem rat_mul (p q : Rat) (a b : Nat) (ha : a = Nat.gcd p.num.natAbs q.den) (hb : b = Nat.gcd q.num.natAbs p.den) :
    (p * q).num = p.num / a * (q.num / b) ∧ (p * q).den = p.den / b * (q.den / a) := by
  have hp := p.den_pos
  have hq := q.den_pos
  have ha0 : 0 < a := by rw [ha]; exact Nat.gcd_pos_of_pos_right _ hq
  have hb0 : 0 < b := by rw [hb]; exact Nat.gcd_pos_of_pos_right _ hp
  have hap : (a : Int) ∣ p.num := by rw [← Int.natAbs_dvd_natAbs, ha]; exact Nat.gcd_dvd_left _ _
  have hbq : (b : Int) ∣ q.num := by rw [← Int.natAbs_dvd_natAbs, hb]; exact Nat.gcd_dvd_left _ _
  have haq : a ∣ q.den := by rw [ha]; exact Nat.gcd_dvd_right _ _
  have hbp : b ∣ p.den := by rw [hb]; exact Nat.gcd_dvd_right _ _
  have k1 : 0 < p.den / b := Nat.div_pos (Nat.le_of_dvd hp hbp) hb0
  have k2 : 0 < q.den / a := Nat.div_pos (Nat.le_of_dvd hq haq) ha0
  refine rat_of _ _ (Rat.mul_def' p q) (by have := Nat.mul_pos hp hq; omega) (by have := Nat.mul_pos k1 k2; omega) ?_ ?_
  · rw [Int.natAbs_mul, Int.natAbs_ediv_of_dvd hap, Int.natAbs_ediv_of_dvd hbq, Int.natAbs_natCast, Int.natAbs_natCast]
    have hpr := p.reduced
    have hqr := q.reduced
    have c1 : Nat.Coprime (p.num.natAbs / a) (p.den / b) := (hpr.coprime_div_left (by rw [ha]; exact Nat.gcd_dvd_left _ _)).coprime_div_right hbp
    have c2 : Nat.Coprime (p.num.natAbs / a) (q.den / a) := by rw [ha]; exact Nat.coprime_div_gcd_div_gcd (Nat.gcd_pos_of_pos_right _ hq)
    have c3 : Nat.Coprime (q.num.natAbs / b) (p.den / b) := by rw [hb]; exact Nat.coprime_div_gcd_div_gcd (Nat.gcd_pos_of_pos_right _ hp)
    have c4 : Nat.Coprime (q.num.natAbs / b) (q.den / a) := (hqr.coprime_div_left (by rw [hb]; exact Nat.gcd_dvd_left _ _)).coprime_div_right haq
    exact Nat.coprime_mul_iff_left.2 ⟨Nat.coprime_mul_iff_right.2 ⟨c1, c2⟩, Nat.coprime_mul_iff_right.2 ⟨c3, c4⟩⟩
  · obtain ⟨x, hx⟩ := hap
    obtain ⟨y, hy⟩ := hbq
    obtain ⟨z, hz⟩ := haq
    obtain ⟨t, ht⟩ := hbp
    rw [hx, hy, hz, ht, Int.mul_ediv_cancel_left _ (by omega), Int.mul_ediv_cancel_left _ (by omega), Nat.mul_div_cancel_left _ ha0, Nat.mul_div_cancel_left _ hb0]
    push_cast
    grind
theorem rat_inv (q : Rat) (h : q.num ≠ 0) : (q⁻¹).num = sInt (decide (q.num < 0)) q.den ∧ (q⁻¹).den = q.num.natAbs := by
  show (Rat.inv q).num = _ ∧ (Rat.inv q).den = _
  unfold Rat.inv sInt
  by_cases h1 : q.num < 0
  · simp [h1]
  · have h2 : 0 < q.num := by omega
    simp [h1, h2]
end Go.Proofs.YtnfncdalneifnaaGreatDoor
end

/- Decimal digits in parts. No condition. -/
section
namespace Go.Proofs.YtnfncdalneifnaaGreatDoor

end Go.Proofs.YtnfncdalneifnaaGreatDoor
end

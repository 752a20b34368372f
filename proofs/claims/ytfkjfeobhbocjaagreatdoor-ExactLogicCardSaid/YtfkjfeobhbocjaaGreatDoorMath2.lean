/- Plain numbers: the steps of carrying. No condition. -/
import Derived.Test.YtfkjfeobhbocjaaGreatDoorMath
namespace Go.Proofs.YtfkjfeobhbocjaaGreatDoor
theorem mod_div_mul (s P : Nat) : s % W64 * P + s / W64 * (P * W64) = s * P := by
  have h := Nat.div_add_mod s W64
  conv => rhs; rw [← h]
  generalize s / W64 = q; generalize s % W64 = r
  grind
theorem add_step (f gx gy f' : Nat → Nat) (k cy : Nat) (hf : ∀ j, j < k → f' j = f j) (h1 : f' k = (gx k + gy k + cy) % W64)
    (h : vl f k + cy * W64 ^ k = vl gx k + vl gy k) : vl f' (k + 1) + (gx k + gy k + cy) / W64 * W64 ^ (k + 1) = vl gx (k + 1) + vl gy (k + 1) := by
  rw [vl_succ, vl_succ, vl_succ, vl_congr f' f k hf, h1, Nat.pow_succ]
  have := mod_div_mul (gx k + gy k + cy) (W64 ^ k)
  have e : (gx k + gy k + cy) * W64 ^ k = gx k * W64 ^ k + gy k * W64 ^ k + cy * W64 ^ k := by rw [Nat.add_mul, Nat.add_mul]
  omega
theorem sub_mod_step (a b c : Nat) (ha : a < W64) (hb : b < W64) (hc : c ≤ 1) (P : Nat) :
    (a + 2 * W64 - b - c) % W64 * P + b * P + c * P = a * P + (if a < b + c then 1 else 0) * (P * W64) := by
  have e : (a + 2 * W64 - b - c) % W64 + b + c = a + (if a < b + c then 1 else 0) * W64 := by
    unfold W64 at *
    split <;> omega
  rw [← Nat.add_mul, ← Nat.add_mul, e, Nat.add_mul, Nat.mul_comm P W64, Nat.mul_assoc]
/-- f with the value v at k. -/
def upd (f : Nat → Nat) (k v : Nat) (j : Nat) : Nat := if j = k then v else f j
theorem upd_same (f : Nat → Nat) (k v : Nat) : upd f k v k = v := if_pos rfl
theorem upd_ne (f : Nat → Nat) (k v j : Nat) (h : j ≠ k) : upd f k v j = f j := if_neg h
theorem upd_lt (f : Nat → Nat) (k v m : Nat) (hf : ∀ j, j < m → j ≠ k → f j < W64) (hv : v < W64) : ∀ j, j < m → upd f k v j < W64 := fun j hj => by
  by_cases e : j = k
  · subst e; rw [upd_same]; exact hv
  · rw [upd_ne _ _ _ _ e]; exact hf j hj e
theorem vl_upd (f : Nat → Nat) (k v : Nat) : vl (upd f k v) (k + 1) = vl f k + v * W64 ^ k := by
  rw [vl_succ, vl_congr _ f k (fun j hj => upd_ne _ _ _ _ (by omega)), upd_same]
end Go.Proofs.YtfkjfeobhbocjaaGreatDoor

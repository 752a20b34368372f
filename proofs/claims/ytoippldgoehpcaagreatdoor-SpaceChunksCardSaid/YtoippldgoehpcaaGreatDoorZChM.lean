/- Chunks and their neighbours: arithmetic. -/
import Derived.Test.YtoippldgoehpcaaGreatDoorZSpJ
import Derived.Test.YtoippldgoehpcaaGreatDoorZCmpS
namespace Go.Proofs.YtoippldgoehpcaaGreatDoor
open Go Go.RowKit Go.Deep

/-- The number whose digits are d, from place k on, m of them. -/
def valC (e d : Nat → Nat) : Nat → Nat → Nat
  | _, 0 => 0
  | k, m + 1 => d k * cntC e (k + 1) m + valC e d (k + 1) m
theorem valC_lt {e d : Nat → Nat} : ∀ m k, (∀ j, k ≤ j → j < k + m → d j < e j) → valC e d k m < cntC e k m
  | 0, k, _ => by unfold valC cntC; omega
  | m + 1, k, h => by
    have h1 := valC_lt m (k + 1) fun j h1 h2 => h j (by omega) (by omega)
    have h2 := h k (Nat.le_refl _) (by omega)
    rw [valC, cntC]
    generalize cntC e (k + 1) m = V at *
    generalize valC e d (k + 1) m = r at *
    have h3 : (d k + 1) * V ≤ e k * V := Nat.mul_le_mul_right _ h2
    rw [Nat.add_mul, Nat.one_mul] at h3
    omega
theorem valC_dig {e d : Nat → Nat} {n : Nat} : ∀ m k, k + m = n → (∀ j, k ≤ j → j < n → d j < e j) → ∀ q j, k ≤ j → j < n → digC e n (valC e d k m + q * volC e n k) j = d j
  | 0, k, hk, _, q, j, h1, h2 => by omega
  | m + 1, k, hk, h, q, j, h1, h2 => by
    have hv : volC e n k = e k * volC e n (k + 1) := volC_step (by omega)
    have hc : cntC e (k + 1) m = volC e n (k + 1) := by unfold volC; rw [show n - (k + 1) = m by omega]
    have hr : valC e d (k + 1) m < volC e n (k + 1) := by
      rw [← hc]
      exact valC_lt m (k + 1) fun j h3 h4 => h j (by omega) (by omega)
    have e1 : valC e d k (m + 1) + q * volC e n k = valC e d (k + 1) m + (d k + q * e k) * volC e n (k + 1) := by
      rw [valC, hv, hc, Nat.add_mul, Nat.mul_assoc]
      omega
    rw [e1]
    by_cases hj : j = k
    · subst hj
      have hd := h j (Nat.le_refl _) h2
      unfold digC
      rw [Nat.add_mul_div_right _ _ (by omega), Nat.div_eq_of_lt hr, Nat.zero_add, Nat.add_mul_mod_self_right, Nat.mod_eq_of_lt hd]
    · exact valC_dig m (k + 1) (by omega) (fun j h3 h4 => h j (by omega) h4) _ j (by omega) h2
/-- Each list of digits is that of a number. -/
theorem dig_onto {e d : Nat → Nat} {n : Nat} (h : ∀ j, j < n → d j < e j) : ∃ t, t < volC e n 0 ∧ ∀ j, j < n → digC e n t j = d j := by
  refine ⟨valC e d 0 n, ?_, fun j hj => ?_⟩
  · unfold volC
    rw [Nat.sub_zero]
    exact valC_lt n 0 fun j _ h2 => h j (by omega)
  · have := valC_dig n 0 (by omega) (fun j _ h2 => h j h2) 0 j (Nat.zero_le _) hj
    rwa [Nat.zero_mul, Nat.add_zero] at this
/-- Where the carry ends. -/
theorem carry_at {e : Nat → Nat} {n t : Nat} (he : ∀ k, k < n → 1 ≤ e k) (ht : t + 1 < volC e n 0) : ∃ k, k < n ∧ volC e n (k + 1) ∣ t + 1 ∧ digC e n t k ≠ e k - 1 := by
  have key : ∀ m k, k + m = n → (volC e n k ∣ t + 1) ∨ ∃ j, k ≤ j ∧ j < n ∧ volC e n (j + 1) ∣ t + 1 ∧ digC e n t j ≠ e j - 1 := by
    intro m
    induction m with
    | zero => intro k hk; obtain rfl : k = n := by omega
              exact .inl (by rw [volC_end]; exact Nat.one_dvd _)
    | succ m ih =>
      intro k hk
      rcases ih (k + 1) (by omega) with h | ⟨j, h1, h2⟩
      · by_cases h3 : digC e n t k = e k - 1
        · exact .inl (carry_on he (by omega) h h3)
        · exact .inr ⟨k, Nat.le_refl _, by omega, h, h3⟩
      · exact .inr ⟨j, by omega, h2⟩
  rcases key n 0 (by omega) with h | ⟨j, _, h⟩
  · exact absurd (Nat.le_of_dvd (by omega) h) (by omega)
  · exact ⟨j, h⟩
theorem cmpTo_alike {f g : Nat → Int} {m n : Nat} (h : ∀ k, k < n → f k = g k) (hm : n ≤ m) : ∀ k, k ≤ n → cmpTo f g m k = 0
  | 0, _ => rfl
  | k + 1, hk => by
    rw [cmpTo, cmpTo_alike h hm k (by omega), if_pos rfl, if_neg (by omega), h k (by omega)]
    unfold Lib.compareInt
    rw [if_neg (by omega), if_neg (by omega)]
/-- Coordinates in their order: each is less than the next. -/
theorem crd_less {lo : Nat → Int} {e : Nat → Nat} {n t : Nat} (he : ∀ k, k < n → 1 ≤ e k) (ht : t + 1 < volC e n 0) : cmpS n n (crdZ lo e n t) (crdZ lo e n (t + 1)) = -1 := by
  obtain ⟨k, hk, h1, h2⟩ := carry_at he ht
  obtain ⟨h3, h4, _⟩ := carry_end he hk h1 h2
  have e0 : cmpTo (crdZ lo e n t) (crdZ lo e n (t + 1)) n k = 0 := cmpTo_alike (n := k) (fun j hj => by unfold crdZ; rw [h4 j hj]) (by omega) k (Nat.le_refl _)
  have e1 : cmpTo (crdZ lo e n t) (crdZ lo e n (t + 1)) n (k + 1) = -1 := by
    rw [cmpTo, e0, if_pos rfl, if_neg (by omega)]
    unfold Lib.compareInt crdZ
    rw [h3, if_pos (by omega)]
  have e2 := cmpTo_le (n := n) (show cmpTo (crdZ lo e n t) (crdZ lo e n (t + 1)) n (k + 1) ≠ 0 by rw [e1]; decide) (by omega)
  unfold cmpS
  rw [e2, e1]
  rfl
/-- Coordinates of a box are among those that are yielded, and no others. -/
theorem crd_onto {lo hi : Nat → Int} {n : Nat} {e : Nat → Nat} (he : ∀ k, k < n → hi k = lo k + e k - 1) {v : Nat → Int} (hv : ∀ k, k < n → lo k ≤ v k ∧ v k ≤ hi k) : ∃ t, t < volC e n 0 ∧ ∀ k, k < n → crdZ lo e n t k = v k := by
  obtain ⟨t, ht, h⟩ := dig_onto (e := e) (d := fun k => (v k - lo k).toNat) (n := n) (fun j hj => by have := he j hj; have := hv j hj; omega)
  refine ⟨t, ht, fun k hk => ?_⟩
  unfold crdZ
  rw [h k hk]
  have := hv k hk
  show lo k + ((v k - lo k).toNat : Int) = v k
  omega
theorem crd_in {lo hi : Nat → Int} {n : Nat} {e : Nat → Nat} (he : ∀ k, k < n → 1 ≤ e k ∧ hi k = lo k + e k - 1) (t : Nat) {k : Nat} (hk : k < n) : lo k ≤ crdZ lo e n t k ∧ crdZ lo e n t k ≤ hi k := by
  have h := digC_lt (e := e) (n := n) (t := t) (fun k hk => (he k hk).1) hk
  have := (he k hk).2
  unfold crdZ
  omega

/-- Along one dimension: a chunk is a home exactly if the coordinate is in its wide part. -/
theorem home_wide {y L s o c : Int} (h1 : 0 ≤ y) (h2 : y ≤ L) (h3 : 1 ≤ s) (h4 : 0 ≤ o) (h6 : 0 ≤ c) (h7 : c ≤ L / s) :
    (max (y - o) 0 / s ≤ c ∧ c ≤ min ((y + o) / s) (L / s)) ↔ (max (c * s - o) 0 ≤ y ∧ y ≤ min (min (c * s + s - 1) L + o) L) := by
  have a1 : max (y - o) 0 / s ≤ c ↔ max (y - o) 0 < (c + 1) * s := by
    rw [show max (y - o) 0 / s ≤ c ↔ max (y - o) 0 / s < c + 1 by omega]
    exact Int.ediv_lt_iff_lt_mul (by omega)
  have a2 : c ≤ (y + o) / s ↔ c * s ≤ y + o := Int.le_ediv_iff_mul_le (by omega)
  have a3 : 0 ≤ c * s := Int.mul_nonneg h6 (by omega)
  rw [Int.add_mul, Int.one_mul] at a1
  omega
/-- The chunk of a coordinate, along one dimension. -/
theorem chunk_in {y L s : Int} (h1 : 0 ≤ y) (h2 : y ≤ L) (h3 : 1 ≤ s) : 0 ≤ y / s ∧ y / s ≤ L / s ∧ y / s * s ≤ y ∧ y ≤ y / s * s + s - 1 := by
  have a1 : 0 ≤ y / s := Int.ediv_nonneg h1 (by omega)
  have a2 : y / s ≤ L / s := Int.ediv_le_ediv (by omega) h2
  have a3 := Int.ediv_mul_le y (by omega : s ≠ 0)
  have a4 := Int.lt_ediv_add_one_mul_self y (by omega : 0 < s)
  rw [Int.add_mul, Int.one_mul] at a4
  omega
/-- Behind the last chunk nothing comes; another one begins where its core ends. -/
theorem chunk_next {L s c : Int} (h3 : 1 ≤ s) : (L / s < c + 1 ↔ L < c * s + s) ∧ (c + 1 ≤ L / s ↔ c * s + s ≤ L) := by
  have a1 : L / s < c + 1 ↔ L < (c + 1) * s := Int.ediv_lt_iff_lt_mul (by omega)
  have a2 : c + 1 ≤ L / s ↔ (c + 1) * s ≤ L := Int.le_ediv_iff_mul_le (by omega)
  rw [Int.add_mul, Int.one_mul] at a1 a2
  exact ⟨a1, a2⟩
end Go.Proofs.YtoippldgoehpcaaGreatDoor

/- Guessing a word of a quotient: the arithmetic, and what the call returns. -/
import Derived.Test.YtmhggphkhabjlaaGreatDoorZDivG

/- Guessing a word of a quotient: the arithmetic, and what the call returns. -/
section
namespace Go.Proofs.YtmhggphkhabjlaaGreatDoor
open Go.RowKit Go.Deep

/-- q is a guess of (a W + d) / (p W + l), or of the greatest word, not too small; r is what a leaves. -/
structure GuessW (a d p l q r : Nat) : Prop where
  eq : a = q * p + r
  ge : min ((a * W64 + d) / (p * W64 + l)) (W64 - 1) ≤ q
  le : q ≤ W64 - 1
theorem GuessW.done {a d p l q r : Nat} (hp : 0 < p) (g : GuessW a d p l q r) (hc : q * l ≤ W64 * r + d) : q = min ((a * W64 + d) / (p * W64 + l)) (W64 - 1) := by
  refine Nat.le_antisymm ?_ g.ge
  have hY : 0 < p * W64 + l := by have := Nat.mul_pos hp W64_pos; omega
  refine Nat.le_min.2 ⟨?_, g.le⟩
  rw [Nat.le_div_iff_mul_le hY]
  have e1 : a * W64 = q * (p * W64) + W64 * r := by rw [g.eq, Nat.add_mul, Nat.mul_assoc, Nat.mul_comm r]
  have e2 : q * (p * W64 + l) = q * (p * W64) + q * l := Nat.mul_add ..
  omega
theorem GuessW.more {a d p l q r : Nat} (hp : 0 < p) (g : GuessW a d p l q r) (hc : W64 * r + d < q * l) : 0 < q ∧ GuessW a d p l (q - 1) (r + p) := by
  have hq : 0 < q := Nat.pos_of_ne_zero fun e => by subst e; simp at hc
  have hY : 0 < p * W64 + l := by have := Nat.mul_pos hp W64_pos; omega
  refine ⟨hq, ?_, ?_, by have := g.le; omega⟩
  · obtain ⟨k, rfl⟩ : ∃ k, q = k + 1 := ⟨q - 1, by omega⟩
    have := g.eq
    rw [Nat.succ_mul] at this
    simp only [Nat.add_sub_cancel]
    omega
  · have key : (a * W64 + d) / (p * W64 + l) < q := by
      rw [Nat.div_lt_iff_lt_mul hY]
      have e1 : a * W64 = q * (p * W64) + W64 * r := by rw [g.eq, Nat.add_mul, Nat.mul_assoc, Nat.mul_comm r]
      have e2 : q * (p * W64 + l) = q * (p * W64) + q * l := Nat.mul_add ..
      omega
    have := Nat.min_le_left ((a * W64 + d) / (p * W64 + l)) (W64 - 1)
    omega
theorem GuessW.out {a d p l q r : Nat} (hp : 0 < p) (hl : l < W64) (g : GuessW a d p l q r) (hr : W64 ≤ r) : q = min ((a * W64 + d) / (p * W64 + l)) (W64 - 1) := by
  refine g.done hp ?_
  have h1 : q * l ≤ W64 * l := Nat.mul_le_mul_right _ (by have := g.le; omega)
  have h2 : W64 * l ≤ W64 * r := Nat.mul_le_mul_left _ (by omega)
  omega
theorem GuessW.first (a2 a1 d p l : Nat) (hp : 0 < p) (h1 : a1 < W64) (hd : d < W64) (h2 : a2 < p) : GuessW (a2 * W64 + a1) d p l ((a2 * W64 + a1) / p) ((a2 * W64 + a1) % p) := by
  refine ⟨div_eqn _ _, ?_, ?_⟩
  · generalize a2 * W64 + a1 = a
    have h3 : (a * W64 + d) / (p * W64 + l) ≤ (a * W64 + d) / (p * W64) := Nat.div_le_div_left (by omega) (Nat.mul_pos hp W64_pos)
    have h4 : (a * W64 + d) / (p * W64) = a / p := by
      rw [Nat.mul_comm p, ← Nat.div_div_eq_div_mul, Nat.mul_comm a, Nat.mul_add_div W64_pos, Nat.div_eq_of_lt hd, Nat.add_zero]
    have := Nat.min_le_left ((a * W64 + d) / (p * W64 + l)) (W64 - 1)
    omega
  · have : (a2 * W64 + a1) / p < W64 := by
      rw [Nat.div_lt_iff_lt_mul hp]
      have h5 : (a2 + 1) * W64 ≤ p * W64 := Nat.mul_le_mul_right _ h2
      rw [Nat.succ_mul] at h5
      rw [Nat.mul_comm W64]; omega
    omega
theorem GuessW.top (a1 d p l : Nat) : GuessW (p * W64 + a1) d p l (W64 - 1) (a1 + p) := by
  refine ⟨?_, Nat.min_le_right _ _, Nat.le_refl _⟩
  have : p * W64 = (W64 - 1) * p + p := by rw [Nat.mul_comm p, ← Nat.succ_mul]; rfl
  omega
end Go.Proofs.YtmhggphkhabjlaaGreatDoor
end

/- Shifting a natural number to the left in new memory: what the call returns. -/
section
namespace Go.Proofs.YtmhggphkhabjlaaGreatDoor
open Go.RowKit Go.Deep

end Go.Proofs.YtmhggphkhabjlaaGreatDoor
end

/- Subtracting a natural number times a word in place: what the call leaves. -/
section
namespace Go.Proofs.YtmhggphkhabjlaaGreatDoor
open Go.RowKit Go.Deep

end Go.Proofs.YtmhggphkhabjlaaGreatDoor
end

/- Products added to, and subtracted from, a part of a row in place: no other block changes. -/
section
namespace Go.Proofs.YtmhggphkhabjlaaGreatDoor
open Go.RowKit Go.Deep

/-- No block but b has changed. -/
def Apart (b : Nat) (w w' : World) : Prop := ∀ k, k ≠ b → w'.heap[k]? = w.heap[k]?
theorem Apart.refl (b : Nat) (w : World) : Apart b w w := fun _ _ => rfl
theorem Apart.setCell {b : Nat} {w w' : World} (h : Apart b w w') (o : Nat) (v : Value) : Apart b w (w'.setCell ⟨b, o, none⟩ v) := fun k hk => (Below.heap_setCell _ _ _ _ hk).trans (h k hk)
theorem Apart.row {b c t n : Nat} {w w' : World} {F : Nat → Value} (h : Apart b w w') (hne : c ≠ b) (hr : w.rowIs c t n F) : w'.rowIs c t n F := by
  obtain ⟨cur, h1, h2⟩ := hr
  exact ⟨cur, (h c hne).trans h1, h2⟩
theorem Apart.drewN {b : Nat} {w w' : World} (h : Apart b w w') (n : Nat) : Apart b w (w'.drewN n) := h
theorem Apart.trans {b : Nat} {w w' w'' : World} (h : Apart b w w') (h' : Apart b w' w'') : Apart b w w'' := fun k hk => (h' k hk).trans (h k hk)

end Go.Proofs.YtmhggphkhabjlaaGreatDoor
end

/- Shifting a natural number to the right: what the call returns. -/
section
namespace Go.Proofs.YtmhggphkhabjlaaGreatDoor
open Go.RowKit Go.Deep

end Go.Proofs.YtmhggphkhabjlaaGreatDoor
end

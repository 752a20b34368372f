/- Long division of natural numbers: what the call returns. -/
import Derived.Test.YtogmbehomilalaaGreatDoorZDif
import Derived.Test.YtogmbehomilalaaGreatDoorZGcd
import Derived.Deep.RegionWith
import Derived.Deep.RegionHeld3
import Derived.Deep.DeepCutAuto
import Derived.Test.YtogmbehomilalaaGreatDoorZRangeOwn

/- Long division of natural numbers: what the call returns. -/
section
namespace Go.Proofs.YtogmbehomilalaaGreatDoor
open Go.RowKit Go.Deep

theorem row_below {B b t n : Nat} {w w' : World} {F : Nat → Value} (hb : Below B w w') (hlt : b < B) (hr : w.rowIs b t n F) : w'.rowIs b t n F := by
  obtain ⟨cur, h1, h2⟩ := hr
  exact ⟨cur, (hb.block b hlt).trans h1, h2⟩
end Go.Proofs.YtogmbehomilalaaGreatDoor
end

/- Dividing natural numbers of any size: what each call returns. -/
section
namespace Go.Proofs.YtogmbehomilalaaGreatDoor
open Go.RowKit Go.Deep

end Go.Proofs.YtogmbehomilalaaGreatDoor
end

/- Plain numbers: several steps of Euclid's algorithm at once. No condition. -/
section
namespace Go.Proofs.YtogmbehomilalaaGreatDoor

/-- A and B are p0 u - r0 v and r1 v - p1 u; x and y are those of the first places of u and v. -/
structure Half (u v H α β x y A B p0 p1 r0 r1 : Nat) : Prop where
  ax : A + r0 * β = x * H + p0 * α
  bx : B + p1 * α = y * H + r1 * β
  au : A + r0 * v = p0 * u
  bu : B + p1 * u = r1 * v
theorem Half.step {u v H α β x y A B p0 p1 r0 r1 q rest : Nat} (h : Half u v H α β x y A B p0 p1 r0 r1) (hq : x = q * y + rest) (hα : α < H) (hβ : β < H)
    (h1 : r0 + q * r1 ≤ rest) (h2 : rest + (p1 + (p0 + q * p1)) ≤ y) (h3 : 1 ≤ p1 + (p0 + q * p1)) :
    ∃ C, A = q * B + C ∧ C < B ∧ Half v u H β α y rest B C r1 (r0 + q * r1) p1 (p0 + q * p1) := by
  obtain ⟨ax, bx, au, bu⟩ := h
  -- q B is not greater than A
  have e1 : A + (r0 + q * r1) * β = q * B + (rest * H + (p0 + q * p1) * α) := by
    have := congrArg (q * ·) bx
    simp only [Nat.mul_add] at this
    subst hq
    grind
  have b1 : (r0 + q * r1) * β ≤ rest * H := Nat.mul_le_mul h1 (by omega)
  have e2 : q * B ≤ A := by omega
  obtain ⟨C, hC⟩ : ∃ C, A = q * B + C := ⟨A - q * B, by omega⟩
  have e3 : C + (r0 + q * r1) * β = rest * H + (p0 + q * p1) * α := by omega
  have e4 : C < B := by
    -- B - C = (y - rest) H + (r1 + r2) β - (p1 + p2) α
    have f1 : rest * H + (p1 + (p0 + q * p1)) * H ≤ y * H := by rw [← Nat.add_mul]; exact Nat.mul_le_mul_right _ h2
    have f2 : (p1 + (p0 + q * p1)) * (α + 1) ≤ (p1 + (p0 + q * p1)) * H := Nat.mul_le_mul_left _ hα
    rw [Nat.mul_succ, Nat.add_mul] at f2
    have f3 : p1 * α + (p0 + q * p1) * α + (p1 + (p0 + q * p1)) + rest * H ≤ y * H := by omega
    omega
  refine ⟨C, hC, e4, ⟨bx, e3, bu, ?_⟩⟩
  subst hC
  have := congrArg (q * ·) bu
  simp only [Nat.mul_add] at this
  grind

/-- After so many steps. -/
structure Sim (a b x0 y0 H α β cnt x y a0 b0 a1 b1 A B : Nat) : Prop where
  half : if cnt % 2 = 0 then Half a b H α β x y A B a0 a1 b0 b1 else Half b a H β α x y A B b0 b1 a0 a1
  xs : x0 = b1 * x + b0 * y
  ys : y0 = a1 * x + a0 * y
  l1 : a1 ≤ b1
  l01 : a0 + a1 ≤ b0 + b1
  l0 : cnt % 2 = 1 → a0 ≤ b0
  pos : 1 ≤ a0 + a1
  xy : y ≤ x
  AB : B ≤ A
  g : Nat.gcd A B = Nat.gcd a b
  none : cnt = 0 → A = a ∧ B = b
  some : 0 < cnt → B < b ∧ A ≤ b
theorem Sim.step {a b x0 y0 H α β cnt x y a0 b0 a1 b1 A B : Nat} (h : Sim a b x0 y0 H α β cnt x y a0 b0 a1 b1 A B) (hα : α < H) (hβ : β < H) (hy : 0 < y)
    (h1 : b0 + x / y * b1 ≤ x % y) (h2 : b1 + (b0 + x / y * b1) ≤ y - x % y) :
    ∃ C, Sim a b x0 y0 H α β (cnt + 1) y (x % y) a1 b1 (a0 + x / y * a1) (b0 + x / y * b1) B C := by
  have e := Nat.div_add_mod x y
  have hr := Nat.mod_lt x hy
  have hq : 1 ≤ x / y := Nat.div_pos h.xy hy
  have hxs := h.xs
  have hys := h.ys
  have hl1 := h.l1
  have hl01 := h.l01
  have hl0 := h.l0
  have hpos := h.pos
  have hg := h.g
  have hhalf := h.half
  have hAB := h.AB
  have hsm := h.some
  have hnn := h.none
  clear h
  generalize x / y = q at *
  generalize x % y = r at *
  have hq1 : q * a1 ≤ q * b1 := Nat.mul_le_mul_left _ hl1
  have hxq : x = q * y + r := by rw [Nat.mul_comm]; omega
  have la2 : a0 + q * a1 ≤ b0 + q * b1 := by
    obtain ⟨k, rfl⟩ : ∃ k, q = k + 1 := ⟨q - 1, by omega⟩
    have hk : k * a1 ≤ k * b1 := Nat.mul_le_mul_left _ hl1
    rw [Nat.succ_mul, Nat.succ_mul]
    omega
  have key : ∃ C, A = q * B + C ∧ C < B ∧ (if (cnt + 1) % 2 = 0 then Half a b H α β y r B C a1 (a0 + q * a1) b1 (b0 + q * b1) else Half b a H β α y r B C b1 (b0 + q * b1) a1 (a0 + q * a1)) := by
    by_cases hp : cnt % 2 = 0
    · rw [if_pos hp] at hhalf
      simp only [if_neg (show ¬ (cnt + 1) % 2 = 0 by omega)]
      exact hhalf.step hxq hα hβ h1 (by omega) (by omega)
    · rw [if_neg hp] at hhalf
      simp only [if_pos (show (cnt + 1) % 2 = 0 by omega)]
      exact hhalf.step hxq hβ hα (by omega) (by omega) (by omega)
  obtain ⟨C, hC, hCB, hH⟩ := key
  refine ⟨C, hH, ?_, ?_, la2, by omega, fun _ => hl1, by omega, by omega, by omega, ?_, fun h => absurd h (by omega), fun _ => ?_⟩
  · rw [hxs, ← e]; grind
  · rw [hys, ← e]; grind
  · rw [← hg, hC, Nat.gcd_comm (q * B + C), Nat.mul_comm q, Nat.gcd_mul_left_add_right]
  · rcases Nat.eq_zero_or_pos cnt with h0 | h0
    · obtain ⟨_, rfl⟩ := hnn h0
      exact ⟨hCB, Nat.le_refl _⟩
    · have := hsm h0
      omega
end Go.Proofs.YtogmbehomilalaaGreatDoor
end

/- Foreseeing several steps of Euclid's algorithm: what the call returns. -/
section
namespace Go.Proofs.YtogmbehomilalaaGreatDoor
open Go.RowKit Go.Deep

end Go.Proofs.YtogmbehomilalaaGreatDoor
end

/- Doing several steps of Euclid's algorithm: what the call returns. -/
section
namespace Go.Proofs.YtogmbehomilalaaGreatDoor
open Go.RowKit Go.Deep

end Go.Proofs.YtogmbehomilalaaGreatDoor
end

/- Greatest common divisors of natural numbers of any size: what the call returns. -/
section
namespace Go.Proofs.YtogmbehomilalaaGreatDoor
open Go.RowKit Go.Deep

end Go.Proofs.YtogmbehomilalaaGreatDoor
end

/- Sums of rational numbers of any size: what the call returns. -/
section
namespace Go.Proofs.YtogmbehomilalaaGreatDoor
open Go.RowKit Go.Deep

end Go.Proofs.YtogmbehomilalaaGreatDoor
end

/- Products of rational numbers of any size: what the call returns. -/
section
namespace Go.Proofs.YtogmbehomilalaaGreatDoor
open Go.RowKit Go.Deep

end Go.Proofs.YtogmbehomilalaaGreatDoor
end

/- Plain numbers: how sums, products and quotients of rational numbers in lowest terms are found. No condition. -/
section
namespace Go.Proofs.YtogmbehomilalaaGreatDoor

end Go.Proofs.YtogmbehomilalaaGreatDoor
end

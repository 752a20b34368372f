/- Numbers as quotients of integers: how many words they have. -/
import Derived.Test.YtnfncdalneifnaaGreatDoorZRatV
import Derived.Test.YtnfncdalneifnaaGreatDoorZWk
namespace Go.Proofs.YtnfncdalneifnaaGreatDoor
open Go.RowKit Go.Deep

theorem RatW.mono {q : Rat} {a b : Nat} (h : RatW q a) (hab : a ≤ b) : RatW q b := ⟨Nat.le_trans h.1 hab, Nat.le_trans h.2 hab⟩
/-- A slice of n pairs of integers. -/
def Pairs (w : World) (A : Option Addr) (n : Nat) (ts us : Nat → Int) : Prop :=
  0 < n → ∃ b o, A = some ⟨b, o, none⟩ ∧ b < w.heap.size ∧ ∀ k, k < n → w.cell? ⟨b, o + k * 2, none⟩ = some (.int .i64 (ts k)) ∧ w.cell? ⟨b, o + k * 2 + 1, none⟩ = some (.int .i64 (us k)) ∧
    (-9223372036854775808 ≤ ts k ∧ ts k ≤ 9223372036854775807) ∧ (-9223372036854775808 ≤ us k ∧ us k ≤ 9223372036854775807)
theorem Pairs.below {w w' : World} {A : Option Addr} {n : Nat} {ts us : Nat → Int} (h : Pairs w A n ts us) (hb : Below w.heap.size w w') : Pairs w' A n ts us := by
  intro hn
  obtain ⟨b, o, e, hlt, hc⟩ := h hn
  exact ⟨b, o, e, Nat.lt_of_lt_of_le hlt hb.size, fun k hk => ⟨(hb.cell (p := ⟨b, o + k * 2, none⟩) hlt).trans (hc k hk).1, (hb.cell (p := ⟨b, o + k * 2 + 1, none⟩) hlt).trans (hc k hk).2.1, (hc k hk).2.2⟩⟩

end Go.Proofs.YtnfncdalneifnaaGreatDoor

/- From the row's condition to the walk: a list of integers. -/
import Derived.Test.YtogmbehomilalaaGreatDoorZWka
import Derived.Test.YtogmbehomilalaaGreatDoorZCmpS

/- From the row's condition to the walk: a list of integers. -/
section
namespace Go.Proofs.YtogmbehomilalaaGreatDoor
open Go Go.ChangeShapes Go.WideShapes Go.ChangeAt Go.RowKit

section
variable {H : Type} {enc : TypeId × Value → H} {w : World} {base : Nat} {spare : Nat → Bool} {held : Bool}
theorem open_intsAt {fuel : Nat} {A : Option Addr} {n cap : Nat} {x : DataW H × List MemPlace} (h : DataW.trod enc Tryz.prog w base spare held fuel 35 [.slice A n cap] = some x) :
    ∃ xs : Nat → Int, IntsAt w A n xs ∧ n ≤ 9223372036854775807 ∧ ∀ k, k < n → -9223372036854775808 ≤ xs k ∧ xs k ≤ 9223372036854775807 := by
  have c1 : Tryz.prog.cellsOf 3 = 1 := by kernel_rfl
  rcases open_ints Tryz.underlying35 Tryz.underlying3 c1 h with ⟨hcs, _⟩ | ⟨a, len, cap', zs, hcs, _, hl, hm, hz, hx, hcell, hwf⟩
  · obtain ⟨rfl, rfl, rfl⟩ : A = none ∧ n = 0 ∧ cap = 0 := by simpa using hcs
    exact ⟨fun _ => 0, fun h9 => absurd h9 (by omega), by omega, fun _ h9 => absurd h9 (by omega)⟩
  · obtain ⟨rfl, rfl, rfl⟩ : A = some a ∧ n = len ∧ cap = cap' := by simpa using hcs
    have hlen : n ≤ zs.length := by rw [hz]; split <;> omega
    refine ⟨fun k => zs.getD k 0, fun hn => ?_, Nat.le_trans hl (Nat.le_trans hm (by decide)), fun k hk => ?_⟩
    · obtain ⟨b, o, rfl, hc⟩ := ints_at hcell (by omega)
      exact ⟨b, o, rfl, cell_lt (hc 0 (by omega)), fun k hk => hc k (by omega)⟩
    · have e : zs.getD k 0 = zs[k]'(by omega) := by simp [List.getD, List.getElem?_eq_getElem (show k < zs.length by omega)]
      show -9223372036854775808 ≤ zs.getD k 0 ∧ zs.getD k 0 ≤ 9223372036854775807
      rw [e]
      exact bounds_i64 (hwf _ (List.getElem_mem _))
end
end Go.Proofs.YtogmbehomilalaaGreatDoor
end

/- From the row's condition to the walk: a box. -/
section
namespace Go.Proofs.YtogmbehomilalaaGreatDoor
open Go Go.ChangeShapes Go.WideShapes Go.ChangeAt Go.RowKit

theorem box_fields : ∃ f0 f1 : Field, Tryz.prog.underlying 45 = some (.struct #[f0, f1]) ∧ f0.type = 35 ∧ f0.offset = 0 ∧ f1.type = 35 ∧ f1.offset = 1 :=
  ⟨_, _, Tryz.underlying45, rfl, rfl, rfl, rfl⟩
section
variable {H : Type} {enc : TypeId × Value → H} {w : World} {base : Nat} {spare : Nat → Bool} {held : Bool}
theorem open_ints1 {fuel : Nat} {c0 : Value} {x : DataW H × List MemPlace} (h : DataW.trod enc Tryz.prog w base spare held fuel 35 [c0] = some x) :
    ∃ (A : Option Addr) (n cap : Nat) (xs : Nat → Int), c0 = .slice A n cap ∧ IntsAt w A n xs ∧ n ≤ 9223372036854775807 := by
  have h' := h
  have c1 : Tryz.prog.cellsOf 3 = 1 := by kernel_rfl
  rcases open_ints Tryz.underlying35 Tryz.underlying3 c1 h with ⟨hcs, _⟩ | ⟨a, len, cap', zs, hcs, _⟩
  · obtain rfl : c0 = .slice none 0 0 := by simpa using hcs
    obtain ⟨xs, h1, h2, _⟩ := open_intsAt h'
    exact ⟨_, _, _, xs, rfl, h1, h2⟩
  · obtain rfl : c0 = .slice (some a) len cap' := by simpa using hcs
    obtain ⟨xs, h1, h2, _⟩ := open_intsAt h'
    exact ⟨_, _, _, xs, rfl, h1, h2⟩
end
end Go.Proofs.YtogmbehomilalaaGreatDoor
end

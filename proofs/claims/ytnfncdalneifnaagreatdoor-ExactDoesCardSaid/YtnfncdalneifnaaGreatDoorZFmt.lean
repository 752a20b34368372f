/- The decimal digits of a word: what the call returns, given the library's table of powers of ten. -/
import Derived.Test.YtnfncdalneifnaaGreatDoorZDec
import Derived.Lib.ItoaMem
import Derived.Lib.AppendIntMem
import Derived.BigCall
import Derived.BigGuard
import Derived.Test.YtnfncdalneifnaaGreatDoorZMath
import Derived.Test.YtnfncdalneifnaaGreatDoorZProd2
import Derived.Test.YtnfncdalneifnaaGreatDoorZRatV

/- The decimal digits of a word: what the call returns, given the library's table of powers of ten. -/
section
namespace Go.Proofs.YtnfncdalneifnaaGreatDoor
open Go Go.RowKit Go.Deep Go.Sort Go.Lib Go.Shelf

/-- The library's table of powers of ten reads as the program's text lays it. -/
def Tab (w : World) : Prop := Lib.TabIs Tryz.prog w "internal/strconv.uint64pow10" .u64 Lib.pow10Tab
theorem tab_lt {w : World} (h : Tab w) : ∃ g, Tryz.prog.globalNamed "internal/strconv.uint64pow10" = some g ∧ g < w.heap.size := by
  unfold Tab Lib.TabIs World.var? at h
  cases hg : Tryz.prog.globalNamed "internal/strconv.uint64pow10" with
  | none => simp [hg] at h
  | some g =>
    refine ⟨g, rfl, ?_⟩
    rcases Nat.lt_or_ge g w.heap.size with h' | h'
    · exact h'
    · simp only [hg, Option.bind_some] at h
      rw [Array.getElem?_eq_none h'] at h; simp at h
theorem Tab.below {w w' : World} (h : Tab w) (hb : Below w.heap.size w w') : Tab w' := by
  obtain ⟨g, hg, hlt⟩ := tab_lt h
  unfold Tab Lib.TabIs World.var? at *
  simp only [hg, Option.bind_some] at h ⊢
  rw [hb.block g hlt]
  exact h
theorem Tab.drewN {w : World} (h : Tab w) (n : Nat) : Tab (w.drewN n) := h

end Go.Proofs.YtnfncdalneifnaaGreatDoor
end

/- The decimal digits of a natural number of any size, and the string of a rational number: what each call returns, given the library's table of powers of ten. -/
section
namespace Go.Proofs.YtnfncdalneifnaaGreatDoor
open Go Go.RowKit Go.Deep

end Go.Proofs.YtnfncdalneifnaaGreatDoor
end

/- What the laws ask of the driver. -/
import Derived.Test.YtoippldgoehpcaaGreatDoorZSpE
import Derived.Test.YtoippldgoehpcaaGreatDoorZLS
import Derived.Test.YtoippldgoehpcaaGreatDoorZWk2

/- What the laws ask of the driver. -/
section
namespace Go.Proofs.YtoippldgoehpcaaGreatDoor
open Go Go.RowKit Go.Deep

/-- The examples of the chapter hold in whatever world goes on from here. -/
def WorksAt (w : World) : Prop := ∀ W, Below w.heap.size w W → Calls Tryz.prog 16 #[] W fun e w' => e = .returned (.bool true) ∧ Below W.heap.size W w'
theorem ints_none (w : World) (f : Nat → Int) : IntsAt w none 0 f := fun h => absurd h (by omega)
end Go.Proofs.YtoippldgoehpcaaGreatDoor
end

/- The driver's works, behind whatever went before. -/
section
namespace Go.Proofs.YtoippldgoehpcaaGreatDoor
open Go.ChangeShapes Go.WideShapes Go.ChangeAt Go.RowKit

theorem works_at {W : World} {ml : Int} (htab : Tab W) (htt : TyTab W) (hml : W.cell? ⟨6, 0, none⟩ = some (.int .i64 ml)) : WorksAt W := fun V hV =>
  w_works V ml (htab.below hV) (fun t h1 h2 => (hV.cell (p := ⟨0, t, none⟩) (cell_lt (htt t h1 h2))).trans (htt t h1 h2)) ((hV.cell (p := ⟨6, 0, none⟩) (cell_lt hml)).trans hml)

end Go.Proofs.YtoippldgoehpcaaGreatDoor
end

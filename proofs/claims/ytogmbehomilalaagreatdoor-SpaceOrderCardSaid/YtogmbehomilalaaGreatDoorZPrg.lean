/- What rows and cards say of the program. -/
import Derived.Test.YtogmbehomilalaaGreatDoorTie
import Derived.Test.YtogmbehomilalaaGreatDoorCards
import Derived.SevenTiedAt
namespace Go.Proofs.YtogmbehomilalaaGreatDoor
open Go.ChangeShapes Go.WideShapes
set_option maxRecDepth 100000
theorem prg_heard : Tryz.prog.stopsHeard = true := by kernel_rfl
theorem prg_enter : Tryz.prog.mayEnter = true := by kernel_rfl
theorem prg_laid : laidOutB Tryz.prog = true := by kernel_rfl
theorem prg_looks : false = Tryz.prog.looks [] := by kernel_rfl
end Go.Proofs.YtogmbehomilalaaGreatDoor

/- SpaceCheck: what its row and its card say of the program, fact by fact. -/
import Derived.Test.YtoippldgoehpcaaGreatDoorZPrg
namespace Go.Proofs.YtoippldgoehpcaaGreatDoor
open Go.ChangeShapes Go.WideShapes
set_option maxRecDepth 100000
theorem claima_j1 : (Rows.spaceCheckRow.inPlace == Tryz.prog.inPlace 3) = true := by kernel_rfl
theorem claima_j2 : (Rows.spaceCheckRow.unfollowed == Tryz.prog.unfollowed 3) = true := by kernel_rfl
theorem claima_j3 : (Rows.spaceCheckRow.recurses == Tryz.prog.recurses 3) = true := by kernel_rfl
theorem claima_j4 : (Rows.spaceCheckRow.named == Tryz.prog.varsNamed 3) = true := by kernel_rfl
theorem claima_j5 : (Rows.spaceCheckRow.plainKeys == Tryz.prog.plainKeys) = true := by kernel_rfl
theorem claima_j8 : (Rows.spaceCheckRow.lifted == Tryz.prog.liftsFinal) = true := by kernel_rfl
theorem claima_jn : joinedFacts Tryz.prog 3 Tryz.f3 Rows.spaceCheckSpec Rows.spaceCheckRow = true := by
  unfold joinedFacts
  rw [claima_j1, claima_j2, claima_j3, claima_j4, claima_j5, prg_heard, prg_enter, claima_j8, prg_laid]
  kernel_rfl
theorem claima_c1 : Rows.spaceCheckRow.wfByText (OpenSpec.ofChange Rows.spaceCheckSpec) = true := by kernel_rfl
theorem claima_c2 : false = Rows.spaceCheckRow.goesBy Tryz.prog := by kernel_rfl
theorem claima_c3 : ([26].all fun u => !Tryz.prog.wantsStandIn u) = true := by kernel_rfl
end Go.Proofs.YtoippldgoehpcaaGreatDoor

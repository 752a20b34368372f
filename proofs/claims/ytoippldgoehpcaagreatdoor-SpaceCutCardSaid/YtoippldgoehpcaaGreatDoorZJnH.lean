/- SpaceCut: what its row and its card say of the program, fact by fact. -/
import Derived.Test.YtoippldgoehpcaaGreatDoorZPrg
namespace Go.Proofs.YtoippldgoehpcaaGreatDoor
open Go.ChangeShapes Go.WideShapes
set_option maxRecDepth 100000
theorem claimh_j1 : (Rows.spaceCutRow.inPlace == Tryz.prog.inPlace 8) = true := by kernel_rfl
theorem claimh_j2 : (Rows.spaceCutRow.unfollowed == Tryz.prog.unfollowed 8) = true := by kernel_rfl
theorem claimh_j3 : (Rows.spaceCutRow.recurses == Tryz.prog.recurses 8) = true := by kernel_rfl
theorem claimh_j4 : (Rows.spaceCutRow.named == Tryz.prog.varsNamed 8) = true := by kernel_rfl
theorem claimh_j5 : (Rows.spaceCutRow.plainKeys == Tryz.prog.plainKeys) = true := by kernel_rfl
theorem claimh_j8 : (Rows.spaceCutRow.lifted == Tryz.prog.liftsFinal) = true := by kernel_rfl
theorem claimh_jn : joinedFacts Tryz.prog 8 Tryz.f8 Rows.spaceCutSpec Rows.spaceCutRow = true := by
  unfold joinedFacts
  rw [claimh_j1, claimh_j2, claimh_j3, claimh_j4, claimh_j5, prg_heard, prg_enter, claimh_j8, prg_laid]
  kernel_rfl
theorem claimh_c1 : Rows.spaceCutRow.wfByText (OpenSpec.ofChange Rows.spaceCutSpec) = true := by kernel_rfl
theorem claimh_c2 : false = Rows.spaceCutRow.goesBy Tryz.prog := by kernel_rfl
theorem claimh_c3 : ([26, 66].all fun u => !Tryz.prog.wantsStandIn u) = true := by kernel_rfl
end Go.Proofs.YtoippldgoehpcaaGreatDoor

/- SpaceGets: what its row and its card say of the program, fact by fact. -/
import Derived.Test.YtoippldgoehpcaaGreatDoorZPrg
namespace Go.Proofs.YtoippldgoehpcaaGreatDoor
open Go.ChangeShapes Go.WideShapes
set_option maxRecDepth 100000
theorem claimt_j1 : (Rows.spaceGetsRow.inPlace == Tryz.prog.inPlace 6) = true := by kernel_rfl
theorem claimt_j2 : (Rows.spaceGetsRow.unfollowed == Tryz.prog.unfollowed 6) = true := by kernel_rfl
theorem claimt_j3 : (Rows.spaceGetsRow.recurses == Tryz.prog.recurses 6) = true := by kernel_rfl
theorem claimt_j4 : (Rows.spaceGetsRow.named == Tryz.prog.varsNamed 6) = true := by kernel_rfl
theorem claimt_j5 : (Rows.spaceGetsRow.plainKeys == Tryz.prog.plainKeys) = true := by kernel_rfl
theorem claimt_j8 : (Rows.spaceGetsRow.lifted == Tryz.prog.liftsFinal) = true := by kernel_rfl
theorem claimt_jn : joinedFacts Tryz.prog 6 Tryz.f6 Rows.spaceGetsSpec Rows.spaceGetsRow = true := by
  unfold joinedFacts
  rw [claimt_j1, claimt_j2, claimt_j3, claimt_j4, claimt_j5, prg_heard, prg_enter, claimt_j8, prg_laid]
  kernel_rfl
theorem claimt_c1 : Rows.spaceGetsRow.wfByText (OpenSpec.ofChange Rows.spaceGetsSpec) = true := by kernel_rfl
theorem claimt_c2 : false = Rows.spaceGetsRow.goesBy Tryz.prog := by kernel_rfl
theorem claimt_c3 : ([26, 26, 55].all fun u => !Tryz.prog.wantsStandIn u) = true := by kernel_rfl
end Go.Proofs.YtoippldgoehpcaaGreatDoor

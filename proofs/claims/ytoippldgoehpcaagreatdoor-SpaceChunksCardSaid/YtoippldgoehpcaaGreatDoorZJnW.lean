/- SpaceChunks: what its row and its card say of the program, fact by fact. -/
import Derived.Test.YtoippldgoehpcaaGreatDoorZPrg
namespace Go.Proofs.YtoippldgoehpcaaGreatDoor
open Go.ChangeShapes Go.WideShapes
set_option maxRecDepth 100000
theorem claimw_j1 : (Rows.spaceChunksRow.inPlace == Tryz.prog.inPlace 11) = true := by kernel_rfl
theorem claimw_j2 : (Rows.spaceChunksRow.unfollowed == Tryz.prog.unfollowed 11) = true := by kernel_rfl
theorem claimw_j3 : (Rows.spaceChunksRow.recurses == Tryz.prog.recurses 11) = true := by kernel_rfl
theorem claimw_j4 : (Rows.spaceChunksRow.named == Tryz.prog.varsNamed 11) = true := by kernel_rfl
theorem claimw_j5 : (Rows.spaceChunksRow.plainKeys == Tryz.prog.plainKeys) = true := by kernel_rfl
theorem claimw_j8 : (Rows.spaceChunksRow.lifted == Tryz.prog.liftsFinal) = true := by kernel_rfl
theorem claimw_jn : joinedFacts Tryz.prog 11 Tryz.f11 Rows.spaceChunksSpec Rows.spaceChunksRow = true := by
  unfold joinedFacts
  rw [claimw_j1, claimw_j2, claimw_j3, claimw_j4, claimw_j5, prg_heard, prg_enter, claimw_j8, prg_laid]
  kernel_rfl
theorem claimw_c1 : Rows.spaceChunksRow.wfByText (OpenSpec.ofChange Rows.spaceChunksSpec) = true := by kernel_rfl
theorem claimw_c2 : false = Rows.spaceChunksRow.goesBy Tryz.prog := by kernel_rfl
theorem claimw_c3 : ([22, 75, 38].all fun u => !Tryz.prog.wantsStandIn u) = true := by kernel_rfl
end Go.Proofs.YtoippldgoehpcaaGreatDoor

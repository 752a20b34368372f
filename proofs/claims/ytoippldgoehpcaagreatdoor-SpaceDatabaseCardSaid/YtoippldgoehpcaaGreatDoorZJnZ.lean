/- SpaceDatabase: what its row and its card say of the program, fact by fact. -/
import Derived.Test.YtoippldgoehpcaaGreatDoorZPrg
namespace Go.Proofs.YtoippldgoehpcaaGreatDoor
open Go.ChangeShapes Go.WideShapes
set_option maxRecDepth 100000
theorem claimz_j1 : (Rows.spaceDatabaseRow.inPlace == Tryz.prog.inPlace 7) = true := by kernel_rfl
theorem claimz_j2 : (Rows.spaceDatabaseRow.unfollowed == Tryz.prog.unfollowed 7) = true := by kernel_rfl
theorem claimz_j3 : (Rows.spaceDatabaseRow.recurses == Tryz.prog.recurses 7) = true := by kernel_rfl
theorem claimz_j4 : (Rows.spaceDatabaseRow.named == Tryz.prog.varsNamed 7) = true := by kernel_rfl
theorem claimz_j5 : (Rows.spaceDatabaseRow.plainKeys == Tryz.prog.plainKeys) = true := by kernel_rfl
theorem claimz_j8 : (Rows.spaceDatabaseRow.lifted == Tryz.prog.liftsFinal) = true := by kernel_rfl
theorem claimz_jn : joinedFacts Tryz.prog 7 Tryz.f7 Rows.spaceDatabaseSpec Rows.spaceDatabaseRow = true := by
  unfold joinedFacts
  rw [claimz_j1, claimz_j2, claimz_j3, claimz_j4, claimz_j5, prg_heard, prg_enter, claimz_j8, prg_laid]
  kernel_rfl
theorem claimz_c1 : Rows.spaceDatabaseRow.wfByText (OpenSpec.ofChange Rows.spaceDatabaseSpec) = true := by kernel_rfl
theorem claimz_c2 : false = Rows.spaceDatabaseRow.goesBy Tryz.prog := by kernel_rfl
theorem claimz_c3 : ([53, 9].all fun u => !Tryz.prog.wantsStandIn u) = true := by kernel_rfl
end Go.Proofs.YtoippldgoehpcaaGreatDoor

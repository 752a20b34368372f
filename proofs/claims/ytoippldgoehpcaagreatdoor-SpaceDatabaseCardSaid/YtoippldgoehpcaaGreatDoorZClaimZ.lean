/- SpaceDatabase: whatever the arrays and the name, Database and Find return what the document's own account returns: the law returns true. Its row lists package-level variables, tied to the program's text by the card. -/
import Derived.Test.YtoippldgoehpcaaGreatDoorZLiftZ
import Derived.Test.YtoippldgoehpcaaGreatDoorZJnZ
namespace Go.Proofs.YtoippldgoehpcaaGreatDoor
open Go.ChangeShapes Go.WideShapes Go.ChangeAt Go.RowKit

set_option maxRecDepth 100000
theorem claimz_row : Rows.SpaceDatabaseSaid :=
  OpenClaim.holds_of_wide 7 Tryz.f7 rfl rfl rfl rfl rfl rfl rfl ⟨rfl, rfl, rfl, rfl, rfl⟩ rfl rfl rfl rfl rfl (by kernel_rfl) Tryz.func7 claimz_jn
    (of_decide_eq_true (by kernel_rfl)) (by unfold Func.isWrapper; first | (rw [if_pos (by decide +kernel)]; kernel_rfl) | (rw [if_neg (by decide +kernel)]; exact ⟨rfl, rfl⟩))
    (fun os started H enc _ => claimz_lifted os started H enc)

theorem claimz_card : Rows.SpaceDatabaseCardSaid :=
  Claim7.holds_tied_plain_at .later [] Rows.spaceDatabaseCard.laidKinds true Rows.spaceDatabaseCard.stood.harness false
    claimz_row (fun _ h => by cases h) claimz_c1 (fun _ h => by cases h) spaceDatabase_row_tie rfl ⟨rfl, rfl⟩ (by kernel_rfl) rfl
    (fun f fn hf hfn => by
      obtain rfl : f = 7 := Option.some.inj ((show Tryz.prog.funcNamed "tesseract/tesseractlaw02.SpaceDatabase" = some 7 by kernel_rfl).symm.trans hf) |>.symm
      obtain rfl : fn = Tryz.f7 := (Option.some.inj (Tryz.func7.symm.trans hfn)).symm
      exact ⟨prg_looks, fun j t ht => by
        rw [Tryz.params7] at ht
        have hin : t ∈ [53, 9] := by simpa using Array.mem_of_getElem? ht
        exact (show Tryz.prog.wantsStandIn t = false by simpa using List.all_eq_true.1 claimz_c3 t hin)⟩)
    claimz_c2
end Go.Proofs.YtoippldgoehpcaaGreatDoor

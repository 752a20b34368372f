/- SpaceCut: whatever the array and the box, Whole, Hull and Cut return what the document's own account returns: the law returns true. Its row lists package-level variables, tied to the program's text by the card. -/
import Derived.Test.YtoippldgoehpcaaGreatDoorZLiftH
import Derived.Test.YtoippldgoehpcaaGreatDoorZJnH
namespace Go.Proofs.YtoippldgoehpcaaGreatDoor
open Go.ChangeShapes Go.WideShapes Go.ChangeAt Go.RowKit

set_option maxRecDepth 100000
theorem claimh_row : Rows.SpaceCutSaid :=
  OpenClaim.holds_of_wide 8 Tryz.f8 rfl rfl rfl rfl rfl rfl rfl ⟨rfl, rfl, rfl, rfl, rfl⟩ rfl rfl rfl rfl rfl (by kernel_rfl) Tryz.func8 claimh_jn
    (of_decide_eq_true (by kernel_rfl)) (by unfold Func.isWrapper; first | (rw [if_pos (by decide +kernel)]; kernel_rfl) | (rw [if_neg (by decide +kernel)]; exact ⟨rfl, rfl⟩))
    (fun os started H enc _ => claimh_lifted os started H enc)

theorem claimh_card : Rows.SpaceCutCardSaid :=
  Claim7.holds_tied_plain_at .later [] Rows.spaceCutCard.laidKinds true Rows.spaceCutCard.stood.harness false
    claimh_row (fun _ h => by cases h) claimh_c1 (fun _ h => by cases h) spaceCut_row_tie rfl ⟨rfl, rfl⟩ (by kernel_rfl) rfl
    (fun f fn hf hfn => by
      obtain rfl : f = 8 := Option.some.inj ((show Tryz.prog.funcNamed "tesseract/tesseractlaw02.SpaceCut" = some 8 by kernel_rfl).symm.trans hf) |>.symm
      obtain rfl : fn = Tryz.f8 := (Option.some.inj (Tryz.func8.symm.trans hfn)).symm
      exact ⟨prg_looks, fun j t ht => by
        rw [Tryz.params8] at ht
        have hin : t ∈ [26, 66] := by simpa using Array.mem_of_getElem? ht
        exact (show Tryz.prog.wantsStandIn t = false by simpa using List.all_eq_true.1 claimh_c3 t hin)⟩)
    claimh_c2
end Go.Proofs.YtoippldgoehpcaaGreatDoor

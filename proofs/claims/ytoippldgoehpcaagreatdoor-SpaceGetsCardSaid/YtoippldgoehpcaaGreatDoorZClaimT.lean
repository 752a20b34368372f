/- SpaceGets: whatever the arrays and the coordinates, Compare, Same and Get return what the document's own account returns: the law returns true. Its row lists package-level variables, tied to the program's text by the card. -/
import Derived.Test.YtoippldgoehpcaaGreatDoorZLiftT
import Derived.Test.YtoippldgoehpcaaGreatDoorZJnT
namespace Go.Proofs.YtoippldgoehpcaaGreatDoor
open Go.ChangeShapes Go.WideShapes Go.ChangeAt Go.RowKit

set_option maxRecDepth 100000
theorem claimt_row : Rows.SpaceGetsSaid :=
  OpenClaim.holds_of_wide 6 Tryz.f6 rfl rfl rfl rfl rfl rfl rfl ⟨rfl, rfl, rfl, rfl, rfl⟩ rfl rfl rfl rfl rfl (by kernel_rfl) Tryz.func6 claimt_jn
    (of_decide_eq_true (by kernel_rfl)) (by unfold Func.isWrapper; first | (rw [if_pos (by decide +kernel)]; kernel_rfl) | (rw [if_neg (by decide +kernel)]; exact ⟨rfl, rfl⟩))
    (fun os started H enc _ => claimt_lifted os started H enc)

theorem claimt_card : Rows.SpaceGetsCardSaid :=
  Claim7.holds_tied_plain_at .later [] Rows.spaceGetsCard.laidKinds true Rows.spaceGetsCard.stood.harness false
    claimt_row (fun _ h => by cases h) claimt_c1 (fun _ h => by cases h) spaceGets_row_tie rfl ⟨rfl, rfl⟩ (by kernel_rfl) rfl
    (fun f fn hf hfn => by
      obtain rfl : f = 6 := Option.some.inj ((show Tryz.prog.funcNamed "tesseract/tesseractlaw02.SpaceGets" = some 6 by kernel_rfl).symm.trans hf) |>.symm
      obtain rfl : fn = Tryz.f6 := (Option.some.inj (Tryz.func6.symm.trans hfn)).symm
      exact ⟨prg_looks, fun j t ht => by
        rw [Tryz.params6] at ht
        have hin : t ∈ [26, 26, 55] := by simpa using Array.mem_of_getElem? ht
        exact (show Tryz.prog.wantsStandIn t = false by simpa using List.all_eq_true.1 claimt_c3 t hin)⟩)
    claimt_c2
end Go.Proofs.YtoippldgoehpcaaGreatDoor

/- SpaceCheck: whatever the array, Check returns what the document's own account returns: the law returns true. Its row lists package-level variables, tied to the program's text by the card. -/
import Derived.Test.YtoippldgoehpcaaGreatDoorZLiftA
import Derived.Test.YtoippldgoehpcaaGreatDoorZJnA
namespace Go.Proofs.YtoippldgoehpcaaGreatDoor
open Go.ChangeShapes Go.WideShapes Go.ChangeAt Go.RowKit

set_option maxRecDepth 100000
theorem claima_row : Rows.SpaceCheckSaid :=
  OpenClaim.holds_of_wide 3 Tryz.f3 rfl rfl rfl rfl rfl rfl rfl ⟨rfl, rfl, rfl, rfl, rfl⟩ rfl rfl rfl rfl rfl (by kernel_rfl) Tryz.func3 claima_jn
    (of_decide_eq_true (by kernel_rfl)) (by unfold Func.isWrapper; first | (rw [if_pos (by decide +kernel)]; kernel_rfl) | (rw [if_neg (by decide +kernel)]; exact ⟨rfl, rfl⟩))
    (fun os started H enc _ => claima_lifted os started H enc)

theorem claima_card : Rows.SpaceCheckCardSaid :=
  Claim7.holds_tied_plain_at .later [] Rows.spaceCheckCard.laidKinds true Rows.spaceCheckCard.stood.harness false
    claima_row (fun _ h => by cases h) claima_c1 (fun _ h => by cases h) spaceCheck_row_tie rfl ⟨rfl, rfl⟩ (by kernel_rfl) rfl
    (fun f fn hf hfn => by
      obtain rfl : f = 3 := Option.some.inj ((show Tryz.prog.funcNamed "tesseract/tesseractlaw02.SpaceCheck" = some 3 by kernel_rfl).symm.trans hf) |>.symm
      obtain rfl : fn = Tryz.f3 := (Option.some.inj (Tryz.func3.symm.trans hfn)).symm
      exact ⟨prg_looks, fun j t ht => by
        rw [Tryz.params3] at ht
        have hin : t ∈ [26] := by simpa using Array.mem_of_getElem? ht
        exact (show Tryz.prog.wantsStandIn t = false by simpa using List.all_eq_true.1 claima_c3 t hin)⟩)
    claima_c2
end Go.Proofs.YtoippldgoehpcaaGreatDoor

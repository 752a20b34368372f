/- SpaceChunks: whatever the dimensions, the layout and the coordinates, Chunk, Homes, Core and Wide agree as the document's laws ask: the law returns true. Its row lists package-level variables, tied to the program's text by the card. -/
import Derived.Test.YtoippldgoehpcaaGreatDoorZLiftW
import Derived.Test.YtoippldgoehpcaaGreatDoorZJnW
namespace Go.Proofs.YtoippldgoehpcaaGreatDoor
open Go.ChangeShapes Go.WideShapes Go.ChangeAt Go.RowKit

set_option maxRecDepth 100000
theorem claimw_row : Rows.SpaceChunksSaid :=
  OpenClaim.holds_of_wide 11 Tryz.f11 rfl rfl rfl rfl rfl rfl rfl ⟨rfl, rfl, rfl, rfl, rfl⟩ rfl rfl rfl rfl rfl (by kernel_rfl) Tryz.func11 claimw_jn
    (of_decide_eq_true (by kernel_rfl)) (by unfold Func.isWrapper; first | (rw [if_pos (by decide +kernel)]; kernel_rfl) | (rw [if_neg (by decide +kernel)]; exact ⟨rfl, rfl⟩))
    (fun os started H enc _ => claimw_lifted os started H enc)

theorem claimw_card : Rows.SpaceChunksCardSaid :=
  Claim7.holds_tied_plain_at .later [] Rows.spaceChunksCard.laidKinds true Rows.spaceChunksCard.stood.harness false
    claimw_row (fun _ h => by cases h) claimw_c1 (fun _ h => by cases h) spaceChunks_row_tie rfl ⟨rfl, rfl⟩ (by kernel_rfl) rfl
    (fun f fn hf hfn => by
      obtain rfl : f = 11 := Option.some.inj ((show Tryz.prog.funcNamed "tesseract/tesseractlaw02.SpaceChunks" = some 11 by kernel_rfl).symm.trans hf) |>.symm
      obtain rfl : fn = Tryz.f11 := (Option.some.inj (Tryz.func11.symm.trans hfn)).symm
      exact ⟨prg_looks, fun j t ht => by
        rw [Tryz.params11] at ht
        have hin : t ∈ [22, 75, 38] := by simpa using Array.mem_of_getElem? ht
        exact (show Tryz.prog.wantsStandIn t = false by simpa using List.all_eq_true.1 claimw_c3 t hin)⟩)
    claimw_c2
end Go.Proofs.YtoippldgoehpcaaGreatDoor

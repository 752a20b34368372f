/- SpaceMany: whatever the number, an array of up to 4096 cells is made and is valid, and one of more is not: the law returns true. Its row lists package-level variables, tied to the program's text by the card. -/
import Derived.Test.YthmnmologmmeaaaGreatDoorTie
import Derived.Test.YthmnmologmmeaaaGreatDoorCards
import Derived.Test.YthmnmologmmeaaaGreatDoorZWka
import Derived.Test.YthmnmologmmeaaaGreatDoorZLMn
import Derived.SevenTiedAt
import Derived.Test.YthmnmologmmeaaaGreatDoorZPrg

/- SpaceMany: from the row's condition to the walk. -/
section
namespace Go.Proofs.YthmnmologmmeaaaGreatDoor
open Go.ChangeShapes Go.WideShapes Go.ChangeAt Go.RowKit

set_option maxRecDepth 100000 in
theorem claimn2_lifted (os : Os) (started : os.Started) (H : Type) (enc : TypeId × Value → H) :
    ReturnsInHanded {} Tryz.checked os 4 .any (fun w args => (Rows.spaceManySpec.pre enc Tryz.prog Tryz.f4 [] false w args ∧ laidMetH Tryz.prog Rows.spaceManyRow.laid w) ∧ sizedMet enc Tryz.prog Tryz.f4 (OpenSpec.ofChange Rows.spaceManySpec) false w args)
      (Rows.spaceManySpec.post enc Tryz.prog Tryz.f4 false true false false) := by
  refine handed_laid_shaped (C := Tryz.checked) (X := fun w _ => laidMetH Tryz.prog Rows.spaceManyRow.laid w) (fun _ _ _ hh h => h.of_heap hh) own started (by kernel_rfl) Tryz.func4
    (ChangeSpec.witness_shaped (enc := enc) (C := Tryz.checked) (os := os) (X := fun w _ => laidMetH Tryz.prog Rows.spaceManyRow.laid w) false (World.laidAll Tryz.prog os Rows.spaceManyRow.laid) #[.int .u8 0] 8 (World.laidAll_os _ _ _)
      (World.shaped_of_ZipB (by kernel_rfl) (by kernel_rfl)) (by kernel_rfl) (by kernel_rfl) (by kernel_rfl)
      (by rw [MakeChecks.laidMetH_plain _ _ _ (by kernel_rfl)]; exact laidMet_laidAll _ (by kernel_rfl) (by kernel_rfl))) ?_
  intro W base args ds gs before hval0 hW hlaid hsh
  have hval : ∀ (j : Nat) t v, Tryz.f4.params[j]? = some t → args[j]? = some v → Value.okWide Tryz.prog W .any base t v := hval0
  rw [MakeChecks.laidMetH_plain _ _ _ (by kernel_rfl)] at hlaid
  have htab : Tab W := tab_of hlaid
  have htt : TyTab W := tyTab_of hlaid
  have hW' := hW
  obtain ⟨p0, q, hA0, hV, rfl, _, _⟩ := hW
  have hA : DataW.TrodAll enc Tryz.prog W 0 (fun _ => true) true Tryz.f4.params.toList args.toList ds p0 := hA0
  rw [Tryz.params4] at hA hval
  obtain ⟨v0, d0, rfl, rfl, h0⟩ := trodAll_one hA
  obtain ⟨rfl, rfl⟩ := trodVars_none hV
  obtain ⟨more, rfl, rfl, rfl, wmore⟩ := open_int Tryz.underlying5 (hval 0 5 v0 rfl rfl) h0
  have bmore := bounds_u8 wmore
  clear hA0 hval0
  simp only [List.append_nil] at hW'
  obtain ⟨m9, hm9⟩ := maxLen_cell hsh

  refine (l_many W more bmore (works_at htab htt hm9)).mono fun e W' ⟨he, hb⟩ => ?_
  subst he

  exact ⟨_, rfl, ⟨_, _, _, [], _, [], hW', trodAll_mk1 (shut_bool Tryz.underlying4 _), trodAll_mk1 (shut_int Tryz.underlying5 wmore), rfl, hb.frame _, fun h => by cases h⟩⟩

end Go.Proofs.YthmnmologmmeaaaGreatDoor
end

/- SpaceMany: what its row and its card say of the program, fact by fact. -/
section
namespace Go.Proofs.YthmnmologmmeaaaGreatDoor
open Go.ChangeShapes Go.WideShapes
set_option maxRecDepth 100000
theorem claimn2_j1 : (Rows.spaceManyRow.inPlace == Tryz.prog.inPlace 4) = true := by kernel_rfl
theorem claimn2_j2 : (Rows.spaceManyRow.unfollowed == Tryz.prog.unfollowed 4) = true := by kernel_rfl
theorem claimn2_j3 : (Rows.spaceManyRow.recurses == Tryz.prog.recurses 4) = true := by kernel_rfl
theorem claimn2_j4 : (Rows.spaceManyRow.named == Tryz.prog.varsNamed 4) = true := by kernel_rfl
theorem claimn2_j5 : (Rows.spaceManyRow.plainKeys == Tryz.prog.plainKeys) = true := by kernel_rfl
theorem claimn2_j8 : (Rows.spaceManyRow.lifted == Tryz.prog.liftsFinal) = true := by kernel_rfl
theorem claimn2_jn : joinedFacts Tryz.prog 4 Tryz.f4 Rows.spaceManySpec Rows.spaceManyRow = true := by
  unfold joinedFacts
  rw [claimn2_j1, claimn2_j2, claimn2_j3, claimn2_j4, claimn2_j5, prg_heard, prg_enter, claimn2_j8, prg_laid]
  kernel_rfl
theorem claimn2_c1 : Rows.spaceManyRow.wfByText (OpenSpec.ofChange Rows.spaceManySpec) = true := by kernel_rfl
theorem claimn2_c2 : false = Rows.spaceManyRow.goesBy Tryz.prog := by kernel_rfl
theorem claimn2_c3 : ([5].all fun u => !Tryz.prog.wantsStandIn u) = true := by kernel_rfl
end Go.Proofs.YthmnmologmmeaaaGreatDoor
end

/- SpaceMany: whatever the number, an array of up to 4096 cells is made and is valid, and one of more is not: the law returns true. Its row lists package-level variables, tied to the program's text by the card. -/
section
namespace Go.Proofs.YthmnmologmmeaaaGreatDoor
open Go.ChangeShapes Go.WideShapes Go.ChangeAt Go.RowKit

set_option maxRecDepth 100000
theorem claimn2_row : Rows.SpaceManySaid :=
  OpenClaim.holds_of_wide 4 Tryz.f4 rfl rfl rfl rfl rfl rfl rfl ⟨rfl, rfl, rfl, rfl, rfl⟩ rfl rfl rfl rfl rfl (by kernel_rfl) Tryz.func4 claimn2_jn
    (of_decide_eq_true (by kernel_rfl)) (by unfold Func.isWrapper; first | (rw [if_pos (by decide +kernel)]; kernel_rfl) | (rw [if_neg (by decide +kernel)]; exact ⟨rfl, rfl⟩))
    (fun os started H enc _ => claimn2_lifted os started H enc)

theorem claimn2_card : Rows.SpaceManyCardSaid :=
  Claim7.holds_tied_plain_at .later [] Rows.spaceManyCard.laidKinds true Rows.spaceManyCard.stood.harness false
    claimn2_row (fun _ h => by cases h) claimn2_c1 (fun _ h => by cases h) spaceMany_row_tie rfl ⟨rfl, rfl⟩ (by kernel_rfl) rfl
    (fun f fn hf hfn => by
      obtain rfl : f = 4 := Option.some.inj ((show Tryz.prog.funcNamed "tesseract/tesseractlaw02.SpaceMany" = some 4 by kernel_rfl).symm.trans hf) |>.symm
      obtain rfl : fn = Tryz.f4 := (Option.some.inj (Tryz.func4.symm.trans hfn)).symm
      exact ⟨prg_looks, fun j t ht => by
        rw [Tryz.params4] at ht
        have hin : t ∈ [5] := by simpa using Array.mem_of_getElem? ht
        exact (show Tryz.prog.wantsStandIn t = false by simpa using List.all_eq_true.1 claimn2_c3 t hin)⟩)
    claimn2_c2
end Go.Proofs.YthmnmologmmeaaaGreatDoor
end

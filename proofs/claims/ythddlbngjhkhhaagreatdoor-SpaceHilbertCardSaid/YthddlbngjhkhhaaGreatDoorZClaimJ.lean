/- SpaceHilbert: Seq of a cube in the Hilbert order has all its coordinates, begins with the least ones, and goes from each to a neighbor: the law returns true. Its row lists package-level variables, tied to the program's text by the card. -/
import Derived.Test.YthddlbngjhkhhaaGreatDoorTie
import Derived.Test.YthddlbngjhkhhaaGreatDoorCards
import Derived.Test.YthddlbngjhkhhaaGreatDoorZWka
import Derived.Test.YthddlbngjhkhhaaGreatDoorZLHb
import Derived.SevenTiedAt
import Derived.Test.YthddlbngjhkhhaaGreatDoorZPrg

/- SpaceHilbert: from the row's condition to the walk. -/
section
namespace Go.Proofs.YthddlbngjhkhhaaGreatDoor
open Go.ChangeShapes Go.WideShapes Go.ChangeAt Go.RowKit

set_option maxRecDepth 100000 in
theorem claimj_lifted (os : Os) (started : os.Started) (H : Type) (enc : TypeId × Value → H) :
    ReturnsInHanded {} Tryz.checked os 3 .any (fun w args => (Rows.spaceHilbertSpec.pre enc Tryz.prog Tryz.f3 [] false w args ∧ laidMetH Tryz.prog Rows.spaceHilbertRow.laid w) ∧ sizedMet enc Tryz.prog Tryz.f3 (OpenSpec.ofChange Rows.spaceHilbertSpec) false w args)
      (Rows.spaceHilbertSpec.post enc Tryz.prog Tryz.f3 false true false false) := by
  refine handed_laid_shaped (C := Tryz.checked) (X := fun w _ => laidMetH Tryz.prog Rows.spaceHilbertRow.laid w) (fun _ _ _ hh h => h.of_heap hh) own started (by kernel_rfl) Tryz.func3
    (ChangeSpec.witness_shaped (enc := enc) (C := Tryz.checked) (os := os) (X := fun w _ => laidMetH Tryz.prog Rows.spaceHilbertRow.laid w) false (World.laidAll Tryz.prog os Rows.spaceHilbertRow.laid) #[.int .u8 0, .int .u8 0, .int .i16 0] 8 (World.laidAll_os _ _ _)
      (World.shaped_of_ZipB (by kernel_rfl) (by kernel_rfl)) (by kernel_rfl) (by kernel_rfl) (by kernel_rfl)
      (by rw [MakeChecks.laidMetH_plain _ _ _ (by kernel_rfl)]; exact laidMet_laidAll _ (by kernel_rfl) (by kernel_rfl))) ?_
  intro W base args ds gs before hval0 hW hlaid hsh
  have hval : ∀ (j : Nat) t v, Tryz.f3.params[j]? = some t → args[j]? = some v → Value.okWide Tryz.prog W .any base t v := hval0
  rw [MakeChecks.laidMetH_plain _ _ _ (by kernel_rfl)] at hlaid
  have htab : Tab W := tab_of hlaid
  have htt : TyTab W := tyTab_of hlaid
  have hW' := hW
  obtain ⟨p, q, hA0, hV, rfl, _, _⟩ := hW
  have hA : DataW.TrodAll enc Tryz.prog W 0 (fun _ => true) true Tryz.f3.params.toList args.toList ds p := hA0
  rw [Tryz.params3] at hA hval
  obtain ⟨v0, v1, v2, d0, d1, d2, p0, p1, p2, rfl, rfl, rfl, h0, h1, h2⟩ := trodAll_three hA
  obtain ⟨rfl, rfl⟩ := trodVars_none hV
  obtain ⟨dm, rfl, rfl, rfl, wdm⟩ := open_int Tryz.underlying5 (hval 0 5 v0 rfl rfl) h0
  have bdm := bounds_u8 wdm
  obtain ⟨bt, rfl, rfl, rfl, wbt⟩ := open_int Tryz.underlying5 (hval 1 5 v1 rfl rfl) h1
  have bbt := bounds_u8 wbt
  obtain ⟨lz, rfl, rfl, rfl, wlz⟩ := open_int Tryz.underlying22 (hval 2 22 v2 rfl rfl) h2
  have blz := bounds_i16 wlz
  clear hA0 hval0
  simp only [List.append_nil] at hW'
  obtain ⟨m9, hm9⟩ := maxLen_cell hsh

  refine (l_hilbert W dm bt lz bdm bbt blz (works_at htab htt hm9)).mono fun e W' ⟨he, hb⟩ => ?_
  subst he

  exact ⟨_, rfl, ⟨_, _, _, [], _, [], hW', trodAll_mk1 (shut_bool Tryz.underlying4 _), trodAll_mk3 (shut_int Tryz.underlying5 wdm) (shut_int Tryz.underlying5 wbt) (shut_int Tryz.underlying22 wlz), rfl, hb.frame _, fun h => by cases h⟩⟩

end Go.Proofs.YthddlbngjhkhhaaGreatDoor
end

/- SpaceHilbert: what its row and its card say of the program, fact by fact. -/
section
namespace Go.Proofs.YthddlbngjhkhhaaGreatDoor
open Go.ChangeShapes Go.WideShapes
set_option maxRecDepth 100000
theorem claimj_j1 : (Rows.spaceHilbertRow.inPlace == Tryz.prog.inPlace 3) = true := by kernel_rfl
theorem claimj_j2 : (Rows.spaceHilbertRow.unfollowed == Tryz.prog.unfollowed 3) = true := by kernel_rfl
theorem claimj_j3 : (Rows.spaceHilbertRow.recurses == Tryz.prog.recurses 3) = true := by kernel_rfl
theorem claimj_j4 : (Rows.spaceHilbertRow.named == Tryz.prog.varsNamed 3) = true := by kernel_rfl
theorem claimj_j5 : (Rows.spaceHilbertRow.plainKeys == Tryz.prog.plainKeys) = true := by kernel_rfl
theorem claimj_j8 : (Rows.spaceHilbertRow.lifted == Tryz.prog.liftsFinal) = true := by kernel_rfl
theorem claimj_jn : joinedFacts Tryz.prog 3 Tryz.f3 Rows.spaceHilbertSpec Rows.spaceHilbertRow = true := by
  unfold joinedFacts
  rw [claimj_j1, claimj_j2, claimj_j3, claimj_j4, claimj_j5, prg_heard, prg_enter, claimj_j8, prg_laid]
  kernel_rfl
theorem claimj_c1 : Rows.spaceHilbertRow.wfByText (OpenSpec.ofChange Rows.spaceHilbertSpec) = true := by kernel_rfl
theorem claimj_c2 : false = Rows.spaceHilbertRow.goesBy Tryz.prog := by kernel_rfl
theorem claimj_c3 : ([5, 5, 22].all fun u => !Tryz.prog.wantsStandIn u) = true := by kernel_rfl
end Go.Proofs.YthddlbngjhkhhaaGreatDoor
end

/- SpaceHilbert: Seq of a cube in the Hilbert order has all its coordinates, begins with the least ones, and goes from each to a neighbor: the law returns true. Its row lists package-level variables, tied to the program's text by the card. -/
section
namespace Go.Proofs.YthddlbngjhkhhaaGreatDoor
open Go.ChangeShapes Go.WideShapes Go.ChangeAt Go.RowKit

set_option maxRecDepth 100000
theorem claimj_row : Rows.SpaceHilbertSaid :=
  OpenClaim.holds_of_wide 3 Tryz.f3 rfl rfl rfl rfl rfl rfl rfl ⟨rfl, rfl, rfl, rfl, rfl⟩ rfl rfl rfl rfl rfl (by kernel_rfl) Tryz.func3 claimj_jn
    (of_decide_eq_true (by kernel_rfl)) (by unfold Func.isWrapper; first | (rw [if_pos (by decide +kernel)]; kernel_rfl) | (rw [if_neg (by decide +kernel)]; exact ⟨rfl, rfl⟩))
    (fun os started H enc _ => claimj_lifted os started H enc)

theorem claimj_card : Rows.SpaceHilbertCardSaid :=
  Claim7.holds_tied_plain_at .later [] Rows.spaceHilbertCard.laidKinds true Rows.spaceHilbertCard.stood.harness false
    claimj_row (fun _ h => by cases h) claimj_c1 (fun _ h => by cases h) spaceHilbert_row_tie rfl ⟨rfl, rfl⟩ (by kernel_rfl) rfl
    (fun f fn hf hfn => by
      obtain rfl : f = 3 := Option.some.inj ((show Tryz.prog.funcNamed "tesseract/tesseractlaw02.SpaceHilbert" = some 3 by kernel_rfl).symm.trans hf) |>.symm
      obtain rfl : fn = Tryz.f3 := (Option.some.inj (Tryz.func3.symm.trans hfn)).symm
      exact ⟨prg_looks, fun j t ht => by
        rw [Tryz.params3] at ht
        have hin : t ∈ [5, 5, 22] := by simpa using Array.mem_of_getElem? ht
        exact (show Tryz.prog.wantsStandIn t = false by simpa using List.all_eq_true.1 claimj_c3 t hin)⟩)
    claimj_c2
end Go.Proofs.YthddlbngjhkhhaaGreatDoor
end

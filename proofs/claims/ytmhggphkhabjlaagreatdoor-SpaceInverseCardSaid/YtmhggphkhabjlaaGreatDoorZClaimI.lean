/- SpaceInverse: whatever the dimensions and the numbers, coordinates with a number have that number, and are compared as the numbers are: the law returns true. Its row lists package-level variables, tied to the program's text by the card. -/
import Derived.Test.YtmhggphkhabjlaaGreatDoorTie
import Derived.Test.YtmhggphkhabjlaaGreatDoorCards
import Derived.Test.YtmhggphkhabjlaaGreatDoorZIdx
import Derived.Test.YtmhggphkhabjlaaGreatDoorZLI
import Derived.Test.YtmhggphkhabjlaaGreatDoorZWk2
import Derived.SevenTiedAt
namespace Go.Proofs.YtmhggphkhabjlaaGreatDoor
open Go.ChangeShapes Go.WideShapes Go.ChangeAt Go.RowKit

theorem works_at {W : World} {ml : Int} (htab : Tab W) (htt : TyTab W) (hml : W.cell? ⟨6, 0, none⟩ = some (.int .i64 ml)) : WorksAt W := fun V hV =>
  w_works V ml (htab.below hV) (fun t h1 h2 => (hV.cell (p := ⟨0, t, none⟩) (cell_lt (htt t h1 h2))).trans (htt t h1 h2)) ((hV.cell (p := ⟨6, 0, none⟩) (cell_lt hml)).trans hml)

set_option maxRecDepth 100000 in
theorem inverse_lifted (os : Os) (started : os.Started) (H : Type) (enc : TypeId × Value → H) :
    ReturnsInHanded {} Tryz.checked os 8 .any (fun w args => (Rows.spaceInverseSpec.pre enc Tryz.prog Tryz.f8 [] false w args ∧ laidMetH Tryz.prog Rows.spaceInverseRow.laid w) ∧ sizedMet enc Tryz.prog Tryz.f8 (OpenSpec.ofChange Rows.spaceInverseSpec) false w args)
      (Rows.spaceInverseSpec.post enc Tryz.prog Tryz.f8 false true false false) := by
  refine handed_laid_shaped (C := Tryz.checked) (X := fun w _ => laidMetH Tryz.prog Rows.spaceInverseRow.laid w) (fun _ _ _ hh h => h.of_heap hh) own started (by kernel_rfl) Tryz.func8
    (ChangeSpec.witness_shaped (enc := enc) (C := Tryz.checked) (os := os) (X := fun w _ => laidMetH Tryz.prog Rows.spaceInverseRow.laid w) false (World.laidAll Tryz.prog os Rows.spaceInverseRow.laid) #[.slice none 0 0, .int .u64 0, .int .u64 0] 8 (World.laidAll_os _ _ _)
      (World.shaped_of_ZipB (by kernel_rfl) (by kernel_rfl)) (by kernel_rfl) (by kernel_rfl) (by kernel_rfl)
      (by rw [MakeChecks.laidMetH_plain _ _ _ (by kernel_rfl)]; exact laidMet_laidAll _ (by kernel_rfl) (by kernel_rfl))) ?_
  intro W base args ds gs before hval0 hW hlaid hsh
  have hval : ∀ (j : Nat) t v, Tryz.f8.params[j]? = some t → args[j]? = some v → Value.okWide Tryz.prog W .any base t v := hval0
  rw [MakeChecks.laidMetH_plain _ _ _ (by kernel_rfl)] at hlaid
  have htab : Tab W := tab_of hlaid
  have htt : TyTab W := tyTab_of hlaid
  have hW' := hW
  obtain ⟨p, q, hA0, hV, rfl, _, _⟩ := hW
  have hA : DataW.TrodAll enc Tryz.prog W 0 (fun _ => true) true Tryz.f8.params.toList args.toList ds p := hA0
  rw [Tryz.params8] at hA hval
  obtain ⟨v0, v1, v2, d0, d1, d2, p0, p1, p2, rfl, rfl, rfl, h0, h1, h2⟩ := trodAll_three hA
  obtain ⟨rfl, rfl⟩ := trodVars_none hV
  obtain ⟨A, n, cap, rfl⟩ := okWide_slice Tryz.underlying22 (hval 0 22 v0 rfl rfl)
  obtain ⟨a, rfl, rfl, rfl, wa⟩ := open_int Tryz.underlying63 (hval 1 63 v1 rfl rfl) h1
  obtain ⟨b, rfl, rfl, rfl, wb⟩ := open_int Tryz.underlying63 (hval 2 63 v2 rfl rfl) h2
  clear hA0 hval0
  simp only [List.append_nil] at hW'
  obtain ⟨m, hm⟩ := maxLen_cell hsh
  have hlt : ∀ x ∈ p0, x.block < W.heap.size := fun x hx => hW'.lt x (by simp [hx])
  have h0k := h0
  obtain ⟨_, f0⟩ := h0
  obtain ⟨nm, lo, hi, hd, hn, hs⟩ := open_dims f0
  have ba := bounds_u64 wa
  have bb := bounds_u64 wb
  refine (l_inverse W A n cap nm lo hi a b hd (fun k hk => (hs k hk).1) hn (by omega) (by omega) (by omega) (by omega) (works_at htab htt hm)).mono fun e W' ⟨he, hb⟩ => ?_
  subst he
  exact ⟨_, rfl, ⟨_, _, _, [], _, [], hW', trodAll_mk1 (shut_bool Tryz.underlying4 _), trodAll_mk3 (Below.trod laidOut' (by kernel_rfl) (of_decide_eq_true (by kernel_rfl)) h0k hb hlt) (shut_int Tryz.underlying63 wa) (shut_int Tryz.underlying63 wb), rfl, hb.frame _, fun h => by cases h⟩⟩

theorem inverse_row : Rows.SpaceInverseSaid :=
  OpenClaim.holds_of_wide 8 Tryz.f8 rfl rfl rfl rfl rfl rfl rfl ⟨rfl, rfl, rfl, rfl, rfl⟩ rfl rfl rfl rfl rfl (by kernel_rfl) Tryz.func8 (by kernel_rfl)
    (of_decide_eq_true (by kernel_rfl)) (by unfold Func.isWrapper; first | (rw [if_pos (by decide +kernel)]; kernel_rfl) | (rw [if_neg (by decide +kernel)]; exact ⟨rfl, rfl⟩))
    (fun os started H enc _ => inverse_lifted os started H enc)

theorem inverse_card : Rows.SpaceInverseCardSaid :=
  Claim7.holds_tied_plain_at .later [] Rows.spaceInverseCard.laidKinds true Rows.spaceInverseCard.stood.harness false
    inverse_row (fun _ h => by cases h) (by kernel_rfl) (fun _ h => by cases h) spaceInverse_row_tie rfl ⟨rfl, rfl⟩ (by kernel_rfl) rfl
    (fun f fn hf hfn => by
      obtain rfl : f = 8 := Option.some.inj ((show Tryz.prog.funcNamed "tesseract/tesseractlaw02.SpaceInverse" = some 8 by kernel_rfl).symm.trans hf) |>.symm
      obtain rfl : fn = Tryz.f8 := (Option.some.inj (Tryz.func8.symm.trans hfn)).symm
      exact ⟨by kernel_rfl, fun j t ht => by
        rw [Tryz.params8] at ht
        have hin : t ∈ [22, 63, 63] := by simpa using Array.mem_of_getElem? ht
        have hall : ([22, 63, 63].all fun u => !Tryz.prog.wantsStandIn u) = true := by kernel_rfl
        exact (show Tryz.prog.wantsStandIn t = false by simpa using List.all_eq_true.1 hall t hin)⟩)
    (by kernel_rfl)
end Go.Proofs.YtmhggphkhabjlaaGreatDoor

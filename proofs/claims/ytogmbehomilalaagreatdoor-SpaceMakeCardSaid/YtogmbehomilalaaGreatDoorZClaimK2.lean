/- SpaceMake: whatever the dimensions, the attributes and the cells, in whatever order, Make returns what the document's own account returns, and what it returned stays when its arguments are written to: the law returns true. Its row lists package-level variables, tied to the program's text by the card. -/
import Derived.Test.YtogmbehomilalaaGreatDoorTie
import Derived.Test.YtogmbehomilalaaGreatDoorCards
import Derived.Test.YtogmbehomilalaaGreatDoorZWka
import Derived.Test.YtogmbehomilalaaGreatDoorZVaC
import Derived.Test.YtogmbehomilalaaGreatDoorZLMk
import Derived.SevenTiedAt
import Derived.Test.YtogmbehomilalaaGreatDoorZPrg

/- SpaceMake: from the row's condition to the walk. -/
section
namespace Go.Proofs.YtogmbehomilalaaGreatDoor
open Go.ChangeShapes Go.WideShapes Go.ChangeAt Go.RowKit

set_option maxRecDepth 100000 in
theorem claimk2_lifted (os : Os) (started : os.Started) (H : Type) (enc : TypeId × Value → H) :
    ReturnsInHanded {} Tryz.checked os 3 .any (fun w args => (Rows.spaceMakeSpec.pre enc Tryz.prog Tryz.f3 [] false w args ∧ laidMetH Tryz.prog Rows.spaceMakeRow.laid w) ∧ sizedMet enc Tryz.prog Tryz.f3 (OpenSpec.ofChange Rows.spaceMakeSpec) false w args)
      (Rows.spaceMakeSpec.post enc Tryz.prog Tryz.f3 false true false false) := by
  refine handed_laid_shaped (C := Tryz.checked) (X := fun w _ => laidMetH Tryz.prog Rows.spaceMakeRow.laid w) (fun _ _ _ hh h => h.of_heap hh) own started (by kernel_rfl) Tryz.func3
    (ChangeSpec.witness_shaped (enc := enc) (C := Tryz.checked) (os := os) (X := fun w _ => laidMetH Tryz.prog Rows.spaceMakeRow.laid w) false (World.laidAll Tryz.prog os Rows.spaceMakeRow.laid) #[.slice none 0 0, .slice none 0 0, .slice none 0 0] 8 (World.laidAll_os _ _ _)
      (World.shaped_of_ZipB (by kernel_rfl) (by kernel_rfl)) (by kernel_rfl) (by kernel_rfl) (by kernel_rfl)
      (by rw [MakeChecks.laidMetH_plain _ _ _ (by kernel_rfl)]; exact laidMet_laidAll _ (by kernel_rfl) (by kernel_rfl))) ?_
  intro W base args ds gs before hval0 hW hlaid hsh
  have hval : ∀ (j : Nat) t v, Tryz.f3.params[j]? = some t → args[j]? = some v → Value.okWide Tryz.prog W .any base t v := hval0
  rw [MakeChecks.laidMetH_plain _ _ _ (by kernel_rfl)] at hlaid
  have htab : Tab W := tab_of hlaid
  have htt : TyTab W := tyTab_of hlaid
  have hW' := hW
  obtain ⟨p, q, hA0, hV, rfl, _, _⟩ := hW
  have hA : DataW.TrodAll enc Tryz.prog W 0 (fun _ => true) true Tryz.f3.params.toList args.toList ds p := hA0
  rw [Tryz.params3] at hA hval
  obtain ⟨v0, v1, v2, d0, d1, d2, p0, p1, p2, rfl, rfl, rfl, h0, h1, h2⟩ := trodAll_three hA
  obtain ⟨rfl, rfl⟩ := trodVars_none hV
  obtain ⟨A, n, cap, rfl⟩ := okWide_slice Tryz.underlying22 (hval 0 22 v0 rfl rfl)
  obtain ⟨B, m, c2, rfl⟩ := okWide_slice Tryz.underlying23 (hval 1 23 v1 rfl rfl)
  obtain ⟨C, N, c3, rfl⟩ := okWide_slice Tryz.underlying24 (hval 2 24 v2 rfl rfl)
  clear hA0 hval0
  simp only [List.append_nil] at hW'
  obtain ⟨m9, hm9⟩ := maxLen_cell hsh
  have hlt0 : ∀ x ∈ p0, x.block < W.heap.size := fun x hx => hW'.lt x (by simp [hx])
  have hlt1 : ∀ x ∈ p1, x.block < W.heap.size := fun x hx => hW'.lt x (by simp [hx])
  have hlt2 : ∀ x ∈ p2, x.block < W.heap.size := fun x hx => hW'.lt x (by simp [hx])
  have k0 := h0
  obtain ⟨_, f0⟩ := h0
  obtain ⟨nm, lo, hi, hd, hn, hs⟩ := open_dims f0
  have k1 := h1
  obtain ⟨_, f1⟩ := h1
  obtain ⟨an, ty, ha, hm, hs2⟩ := open_attrs f1
  have k2 := h2
  obtain ⟨_, f2⟩ := h2
  obtain ⟨ln, vl, x, vk, vn, vd, vs, hF⟩ := open_cells f2
  refine (l_make W A B C n cap m c2 N c3 nm lo hi an ty ⟨ln, vl, x, vk, vn, vd, vs⟩ hd ha hF.1 (fun k hk => (hs k hk).1) (fun k hk => (hs2 k hk).1) hF.2.2 (cells_cap f2) (works_at htab htt hm9)).mono fun e W' ⟨he, hb⟩ => ?_
  subst he
  have tr0 := Below.trod laidOut' (t := 22) (by kernel_rfl) (of_decide_eq_true (by kernel_rfl)) k0 hb hlt0
  have tr1 := Below.trod laidOut' (t := 23) (by kernel_rfl) (of_decide_eq_true (by kernel_rfl)) k1 hb hlt1
  have tr2 := Below.trod laidOut' (t := 24) (by kernel_rfl) (of_decide_eq_true (by kernel_rfl)) k2 hb hlt2
  exact ⟨_, rfl, ⟨_, _, _, [], _, [], hW', trodAll_mk1 (shut_bool Tryz.underlying4 _), trodAll_mk3 tr0 tr1 tr2, rfl, hb.frame _, fun h => by cases h⟩⟩

end Go.Proofs.YtogmbehomilalaaGreatDoor
end

/- SpaceMake: what its row and its card say of the program, fact by fact. -/
section
namespace Go.Proofs.YtogmbehomilalaaGreatDoor
open Go.ChangeShapes Go.WideShapes
set_option maxRecDepth 100000
theorem claimk2_j1 : (Rows.spaceMakeRow.inPlace == Tryz.prog.inPlace 3) = true := by kernel_rfl
theorem claimk2_j2 : (Rows.spaceMakeRow.unfollowed == Tryz.prog.unfollowed 3) = true := by kernel_rfl
theorem claimk2_j3 : (Rows.spaceMakeRow.recurses == Tryz.prog.recurses 3) = true := by kernel_rfl
theorem claimk2_j4 : (Rows.spaceMakeRow.named == Tryz.prog.varsNamed 3) = true := by kernel_rfl
theorem claimk2_j5 : (Rows.spaceMakeRow.plainKeys == Tryz.prog.plainKeys) = true := by kernel_rfl
theorem claimk2_j8 : (Rows.spaceMakeRow.lifted == Tryz.prog.liftsFinal) = true := by kernel_rfl
theorem claimk2_jn : joinedFacts Tryz.prog 3 Tryz.f3 Rows.spaceMakeSpec Rows.spaceMakeRow = true := by
  unfold joinedFacts
  rw [claimk2_j1, claimk2_j2, claimk2_j3, claimk2_j4, claimk2_j5, prg_heard, prg_enter, claimk2_j8, prg_laid]
  kernel_rfl
theorem claimk2_c1 : Rows.spaceMakeRow.wfByText (OpenSpec.ofChange Rows.spaceMakeSpec) = true := by kernel_rfl
theorem claimk2_c2 : false = Rows.spaceMakeRow.goesBy Tryz.prog := by kernel_rfl
theorem claimk2_c3 : ([22, 23, 24].all fun u => !Tryz.prog.wantsStandIn u) = true := by kernel_rfl
end Go.Proofs.YtogmbehomilalaaGreatDoor
end

/- SpaceMake: whatever the dimensions, the attributes and the cells, in whatever order, Make returns what the document's own account returns, and what it returned stays when its arguments are written to: the law returns true. Its row lists package-level variables, tied to the program's text by the card. -/
section
namespace Go.Proofs.YtogmbehomilalaaGreatDoor
open Go.ChangeShapes Go.WideShapes Go.ChangeAt Go.RowKit

set_option maxRecDepth 100000
theorem claimk2_row : Rows.SpaceMakeSaid :=
  OpenClaim.holds_of_wide 3 Tryz.f3 rfl rfl rfl rfl rfl rfl rfl ⟨rfl, rfl, rfl, rfl, rfl⟩ rfl rfl rfl rfl rfl (by kernel_rfl) Tryz.func3 claimk2_jn
    (of_decide_eq_true (by kernel_rfl)) (by unfold Func.isWrapper; first | (rw [if_pos (by decide +kernel)]; kernel_rfl) | (rw [if_neg (by decide +kernel)]; exact ⟨rfl, rfl⟩))
    (fun os started H enc _ => claimk2_lifted os started H enc)

theorem claimk2_card : Rows.SpaceMakeCardSaid :=
  Claim7.holds_tied_plain_at .later [] Rows.spaceMakeCard.laidKinds true Rows.spaceMakeCard.stood.harness false
    claimk2_row (fun _ h => by cases h) claimk2_c1 (fun _ h => by cases h) spaceMake_row_tie rfl ⟨rfl, rfl⟩ (by kernel_rfl) rfl
    (fun f fn hf hfn => by
      obtain rfl : f = 3 := Option.some.inj ((show Tryz.prog.funcNamed "tesseract/tesseractlaw02.SpaceMake" = some 3 by kernel_rfl).symm.trans hf) |>.symm
      obtain rfl : fn = Tryz.f3 := (Option.some.inj (Tryz.func3.symm.trans hfn)).symm
      exact ⟨prg_looks, fun j t ht => by
        rw [Tryz.params3] at ht
        have hin : t ∈ [22, 23, 24] := by simpa using Array.mem_of_getElem? ht
        exact (show Tryz.prog.wantsStandIn t = false by simpa using List.all_eq_true.1 claimk2_c3 t hin)⟩)
    claimk2_c2
end Go.Proofs.YtogmbehomilalaaGreatDoor
end

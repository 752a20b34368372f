/- SpaceHull: whatever the array and the two boxes, Cut by the hull is the array, a cell's own box has this cell alone, and cutting twice is cutting by the common part: the law returns true. Its row lists package-level variables, tied to the program's text by the card. -/
import Derived.Test.YtkckoanphciddaaGreatDoorTie
import Derived.Test.YtkckoanphciddaaGreatDoorCards
import Derived.Test.YtkckoanphciddaaGreatDoorZWka
import Derived.Test.YtkckoanphciddaaGreatDoorZRfA
import Derived.Test.YtkckoanphciddaaGreatDoorZLHu
import Derived.SevenTiedAt
import Derived.Test.YtkckoanphciddaaGreatDoorZPrg

/- SpaceHull: from the row's condition to the walk. -/
section
namespace Go.Proofs.YtkckoanphciddaaGreatDoor
open Go.ChangeShapes Go.WideShapes Go.ChangeAt Go.RowKit

set_option maxRecDepth 100000 in
theorem claimu_lifted (os : Os) (started : os.Started) (H : Type) (enc : TypeId × Value → H) :
    ReturnsInHanded {} Tryz.checked os 8 .any (fun w args => (Rows.spaceHullSpec.pre enc Tryz.prog Tryz.f8 [] false w args ∧ laidMetH Tryz.prog Rows.spaceHullRow.laid w) ∧ sizedMet enc Tryz.prog Tryz.f8 (OpenSpec.ofChange Rows.spaceHullSpec) false w args)
      (Rows.spaceHullSpec.post enc Tryz.prog Tryz.f8 false true false false) := by
  refine handed_laid_shaped (C := Tryz.checked) (X := fun w _ => laidMetH Tryz.prog Rows.spaceHullRow.laid w) (fun _ _ _ hh h => h.of_heap hh) own started (by kernel_rfl) Tryz.func8
    (ChangeSpec.witness_shaped (enc := enc) (C := Tryz.checked) (os := os) (X := fun w _ => laidMetH Tryz.prog Rows.spaceHullRow.laid w) false (World.laidAll Tryz.prog os Rows.spaceHullRow.laid) #[.agg #[.slice none 0 0, .slice none 0 0, .slice none 0 0], .agg #[.slice none 0 0, .slice none 0 0], .agg #[.slice none 0 0, .slice none 0 0]] 8 (World.laidAll_os _ _ _)
      (World.shaped_of_ZipB (by kernel_rfl) (by kernel_rfl)) (by kernel_rfl) (by kernel_rfl) (by kernel_rfl)
      (by rw [MakeChecks.laidMetH_plain _ _ _ (by kernel_rfl)]; exact laidMet_laidAll _ (by kernel_rfl) (by kernel_rfl))) ?_
  intro W base args ds gs before hval0 hW hlaid hsh
  have hval : ∀ (j : Nat) t v, Tryz.f8.params[j]? = some t → args[j]? = some v → Value.okWide Tryz.prog W .any base t v := hval0
  rw [MakeChecks.laidMetH_plain _ _ _ (by kernel_rfl)] at hlaid
  have htab : Tab W := tab_of hlaid
  have htt : TyTab W := tyTab_of hlaid
  have hW' := hW
  obtain ⟨p, q, hA0, hV, rfl, _, _⟩ := hW
  have hA : DataW.TrodAll enc Tryz.prog W 0 (fun _ => true) true Tryz.f8.params.toList args.toList ds p := hA0
  rw [Tryz.params8] at hA hval
  obtain ⟨v0, v1, v2, d0, d1, d2, p0, p1, p2, rfl, rfl, rfl, h0, h1, h2⟩ := trodAll_three hA
  obtain ⟨rfl, rfl⟩ := trodVars_none hV
  have k0 := h0
  obtain ⟨A, n, cap, B, m, bcap, C, N, ccap, nm, lo, hi, an, ty, ln, vl, x, vk, vn, vd, vs, rfl, hR⟩ := open_arrA (hval 0 29 v0 rfl rfl) h0
  have k1 := h1
  obtain ⟨A1, A2, na, ca, ma, da, al, ah, rfl, ha1, ha2⟩ := open_boxA (hval 1 66 v1 rfl rfl) h1
  have k2 := h2
  obtain ⟨B1, B2, nb, cb, mb, db, bl, bh, rfl, hb1, hb2⟩ := open_boxA (hval 2 66 v2 rfl rfl) h2
  clear hA0 hval0
  simp only [List.append_nil] at hW'
  obtain ⟨m9, hm9⟩ := maxLen_cell hsh
  have hlt0 : ∀ x ∈ p0, x.block < W.heap.size := fun x hx => hW'.lt x (by simp [hx])
  have hlt1 : ∀ x ∈ p1, x.block < W.heap.size := fun x hx => hW'.lt x (by simp [hx])
  have hlt2 : ∀ x ∈ p2, x.block < W.heap.size := fun x hx => hW'.lt x (by simp [hx])
  refine (l_hull W ⟨A, cap, B, bcap, C, ccap⟩ ⟨n, nm, lo, hi, m, an, ty, N, ⟨ln, vl, x, vk, vn, vd, vs⟩⟩ A1 A2 B1 B2 na ca ma da nb cb mb db al ah bl bh hR ha1 ha2 hb1 hb2 (works_at htab htt hm9)).mono fun e W' ⟨he, hb⟩ => ?_
  subst he
  have tr0 := Below.trod laidOut' (t := 29) (by kernel_rfl) (of_decide_eq_true (by kernel_rfl)) k0 hb hlt0
  have tr1 := Below.trod laidOut' (t := 66) (by kernel_rfl) (of_decide_eq_true (by kernel_rfl)) k1 hb hlt1
  have tr2 := Below.trod laidOut' (t := 66) (by kernel_rfl) (of_decide_eq_true (by kernel_rfl)) k2 hb hlt2
  exact ⟨_, rfl, ⟨_, _, _, [], _, [], hW', trodAll_mk1 (shut_bool Tryz.underlying4 _), trodAll_mk3 tr0 tr1 tr2, rfl, hb.frame _, fun h => by cases h⟩⟩

end Go.Proofs.YtkckoanphciddaaGreatDoor
end

/- SpaceHull: what its row and its card say of the program, fact by fact. -/
section
namespace Go.Proofs.YtkckoanphciddaaGreatDoor
open Go.ChangeShapes Go.WideShapes
set_option maxRecDepth 100000
theorem claimu_j1 : (Rows.spaceHullRow.inPlace == Tryz.prog.inPlace 8) = true := by kernel_rfl
theorem claimu_j2 : (Rows.spaceHullRow.unfollowed == Tryz.prog.unfollowed 8) = true := by kernel_rfl
theorem claimu_j3 : (Rows.spaceHullRow.recurses == Tryz.prog.recurses 8) = true := by kernel_rfl
theorem claimu_j4 : (Rows.spaceHullRow.named == Tryz.prog.varsNamed 8) = true := by kernel_rfl
theorem claimu_j5 : (Rows.spaceHullRow.plainKeys == Tryz.prog.plainKeys) = true := by kernel_rfl
theorem claimu_j8 : (Rows.spaceHullRow.lifted == Tryz.prog.liftsFinal) = true := by kernel_rfl
theorem claimu_jn : joinedFacts Tryz.prog 8 Tryz.f8 Rows.spaceHullSpec Rows.spaceHullRow = true := by
  unfold joinedFacts
  rw [claimu_j1, claimu_j2, claimu_j3, claimu_j4, claimu_j5, prg_heard, prg_enter, claimu_j8, prg_laid]
  kernel_rfl
theorem claimu_c1 : Rows.spaceHullRow.wfByText (OpenSpec.ofChange Rows.spaceHullSpec) = true := by kernel_rfl
theorem claimu_c2 : false = Rows.spaceHullRow.goesBy Tryz.prog := by kernel_rfl
theorem claimu_c3 : ([29, 66, 66].all fun u => !Tryz.prog.wantsStandIn u) = true := by kernel_rfl
end Go.Proofs.YtkckoanphciddaaGreatDoor
end

/- SpaceHull: whatever the array and the two boxes, Cut by the hull is the array, a cell's own box has this cell alone, and cutting twice is cutting by the common part: the law returns true. Its row lists package-level variables, tied to the program's text by the card. -/
section
namespace Go.Proofs.YtkckoanphciddaaGreatDoor
open Go.ChangeShapes Go.WideShapes Go.ChangeAt Go.RowKit

set_option maxRecDepth 100000
theorem claimu_row : Rows.SpaceHullSaid :=
  OpenClaim.holds_of_wide 8 Tryz.f8 rfl rfl rfl rfl rfl rfl rfl ⟨rfl, rfl, rfl, rfl, rfl⟩ rfl rfl rfl rfl rfl (by kernel_rfl) Tryz.func8 claimu_jn
    (of_decide_eq_true (by kernel_rfl)) (by unfold Func.isWrapper; first | (rw [if_pos (by decide +kernel)]; kernel_rfl) | (rw [if_neg (by decide +kernel)]; exact ⟨rfl, rfl⟩))
    (fun os started H enc _ => claimu_lifted os started H enc)

theorem claimu_card : Rows.SpaceHullCardSaid :=
  Claim7.holds_tied_plain_at .later [] Rows.spaceHullCard.laidKinds true Rows.spaceHullCard.stood.harness false
    claimu_row (fun _ h => by cases h) claimu_c1 (fun _ h => by cases h) spaceHull_row_tie rfl ⟨rfl, rfl⟩ (by kernel_rfl) rfl
    (fun f fn hf hfn => by
      obtain rfl : f = 8 := Option.some.inj ((show Tryz.prog.funcNamed "tesseract/tesseractlaw02.SpaceHull" = some 8 by kernel_rfl).symm.trans hf) |>.symm
      obtain rfl : fn = Tryz.f8 := (Option.some.inj (Tryz.func8.symm.trans hfn)).symm
      exact ⟨prg_looks, fun j t ht => by
        rw [Tryz.params8] at ht
        have hin : t ∈ [29, 66, 66] := by simpa using Array.mem_of_getElem? ht
        exact (show Tryz.prog.wantsStandIn t = false by simpa using List.all_eq_true.1 claimu_c3 t hin)⟩)
    claimu_c2
end Go.Proofs.YtkckoanphciddaaGreatDoor
end

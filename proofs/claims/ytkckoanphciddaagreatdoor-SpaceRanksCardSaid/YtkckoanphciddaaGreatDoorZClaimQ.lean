/- SpaceRanks: whatever the layout and the cube, Seq returns all coordinates of the box, each once, and Rank numbers them in this order, or the order is none: the law returns true. Its row lists package-level variables, tied to the program's text by the card. -/
import Derived.Test.YtkckoanphciddaaGreatDoorTie
import Derived.Test.YtkckoanphciddaaGreatDoorCards
import Derived.Test.YtkckoanphciddaaGreatDoorZWka
import Derived.Test.YtkckoanphciddaaGreatDoorZOpC
import Derived.Test.YtkckoanphciddaaGreatDoorZLRk
import Derived.SevenTiedAt
import Derived.Test.YtkckoanphciddaaGreatDoorZPrg

/- SpaceRanks: from the row's condition to the walk. -/
section
namespace Go.Proofs.YtkckoanphciddaaGreatDoor
open Go.ChangeShapes Go.WideShapes Go.ChangeAt Go.RowKit

set_option maxRecDepth 100000 in
theorem claimq_lifted (os : Os) (started : os.Started) (H : Type) (enc : TypeId × Value → H) :
    ReturnsInHanded {} Tryz.checked os 7 .any (fun w args => (Rows.spaceRanksSpec.pre enc Tryz.prog Tryz.f7 [] false w args ∧ laidMetH Tryz.prog Rows.spaceRanksRow.laid w) ∧ sizedMet enc Tryz.prog Tryz.f7 (OpenSpec.ofChange Rows.spaceRanksSpec) false w args)
      (Rows.spaceRanksSpec.post enc Tryz.prog Tryz.f7 false true false false) := by
  refine handed_laid_shaped (C := Tryz.checked) (X := fun w _ => laidMetH Tryz.prog Rows.spaceRanksRow.laid w) (fun _ _ _ hh h => h.of_heap hh) own started (by kernel_rfl) Tryz.func7
    (ChangeSpec.witness_shaped (enc := enc) (C := Tryz.checked) (os := os) (X := fun w _ => laidMetH Tryz.prog Rows.spaceRanksRow.laid w) false (World.laidAll Tryz.prog os Rows.spaceRanksRow.laid) #[.agg #[.slice none 0 0, .slice none 0 0, .int .i64 0, .int .i64 0, .int .i64 0, .int .i64 0], .agg #[.slice none 0 0, .int .u8 0, .int .u8 0, .int .u8 0, .int .u8 0]] 8 (World.laidAll_os _ _ _)
      (World.shaped_of_ZipB (by kernel_rfl) (by kernel_rfl)) (by kernel_rfl) (by kernel_rfl) (by kernel_rfl)
      (by rw [MakeChecks.laidMetH_plain _ _ _ (by kernel_rfl)]; exact laidMet_laidAll _ (by kernel_rfl) (by kernel_rfl))) ?_
  intro W base args ds gs before hval0 hW hlaid hsh
  have hval : ∀ (j : Nat) t v, Tryz.f7.params[j]? = some t → args[j]? = some v → Value.okWide Tryz.prog W .any base t v := hval0
  rw [MakeChecks.laidMetH_plain _ _ _ (by kernel_rfl)] at hlaid
  have htab : Tab W := tab_of hlaid
  have htt : TyTab W := tyTab_of hlaid
  have hW' := hW
  obtain ⟨p, q, hA0, hV, rfl, _, _⟩ := hW
  have hA : DataW.TrodAll enc Tryz.prog W 0 (fun _ => true) true Tryz.f7.params.toList args.toList ds p := hA0
  rw [Tryz.params7] at hA hval
  obtain ⟨v0, v1, d0, d1, p0, p1, rfl, rfl, rfl, h0, h1⟩ := trodAll_two hA
  obtain ⟨rfl, rfl⟩ := trodVars_none hV
  have k0 := h0
  obtain ⟨S, O, s, sc, o, oc, sd0, ov0, ord, tile, form, codec, rfl, hls, hlo⟩ := open_layA (hval 0 54 v0 rfl rfl) h0
  have k1 := h1
  obtain ⟨A, n, c9, xs, sd, rfl, hA, hx, hs⟩ := open_cubeA (hval 1 79 v1 rfl rfl) h1
  clear hA0 hval0
  simp only [List.append_nil] at hW'
  obtain ⟨m9, hm9⟩ := maxLen_cell hsh
  have hlt0 : ∀ x ∈ p0, x.block < W.heap.size := fun x hx => hW'.lt x (by simp [hx])
  have hlt1 : ∀ x ∈ p1, x.block < W.heap.size := fun x hx => hW'.lt x (by simp [hx])
  refine (l_ranks W S O A s sc o oc n c9 ord tile form codec xs sd hA hx hs (works_at htab htt hm9)).mono fun e W' ⟨he, hb⟩ => ?_
  subst he
  have tr0 := Below.trod laidOut' (t := 54) (by kernel_rfl) (of_decide_eq_true (by kernel_rfl)) k0 hb hlt0
  have tr1 := Below.trod laidOut' (t := 79) (by kernel_rfl) (of_decide_eq_true (by kernel_rfl)) k1 hb hlt1
  exact ⟨_, rfl, ⟨_, _, _, [], _, [], hW', trodAll_mk1 (shut_bool Tryz.underlying4 _), trodAll_mk2 tr0 tr1, rfl, hb.frame _, fun h => by cases h⟩⟩

end Go.Proofs.YtkckoanphciddaaGreatDoor
end

/- SpaceRanks: what its row and its card say of the program, fact by fact. -/
section
namespace Go.Proofs.YtkckoanphciddaaGreatDoor
open Go.ChangeShapes Go.WideShapes
set_option maxRecDepth 100000
theorem claimq_j1 : (Rows.spaceRanksRow.inPlace == Tryz.prog.inPlace 7) = true := by kernel_rfl
theorem claimq_j2 : (Rows.spaceRanksRow.unfollowed == Tryz.prog.unfollowed 7) = true := by kernel_rfl
theorem claimq_j3 : (Rows.spaceRanksRow.recurses == Tryz.prog.recurses 7) = true := by kernel_rfl
theorem claimq_j4 : (Rows.spaceRanksRow.named == Tryz.prog.varsNamed 7) = true := by kernel_rfl
theorem claimq_j5 : (Rows.spaceRanksRow.plainKeys == Tryz.prog.plainKeys) = true := by kernel_rfl
theorem claimq_j8 : (Rows.spaceRanksRow.lifted == Tryz.prog.liftsFinal) = true := by kernel_rfl
theorem claimq_jn : joinedFacts Tryz.prog 7 Tryz.f7 Rows.spaceRanksSpec Rows.spaceRanksRow = true := by
  unfold joinedFacts
  rw [claimq_j1, claimq_j2, claimq_j3, claimq_j4, claimq_j5, prg_heard, prg_enter, claimq_j8, prg_laid]
  kernel_rfl
theorem claimq_c1 : Rows.spaceRanksRow.wfByText (OpenSpec.ofChange Rows.spaceRanksSpec) = true := by kernel_rfl
theorem claimq_c2 : false = Rows.spaceRanksRow.goesBy Tryz.prog := by kernel_rfl
theorem claimq_c3 : ([54, 79].all fun u => !Tryz.prog.wantsStandIn u) = true := by kernel_rfl
end Go.Proofs.YtkckoanphciddaaGreatDoor
end

/- SpaceRanks: whatever the layout and the cube, Seq returns all coordinates of the box, each once, and Rank numbers them in this order, or the order is none: the law returns true. Its row lists package-level variables, tied to the program's text by the card. -/
section
namespace Go.Proofs.YtkckoanphciddaaGreatDoor
open Go.ChangeShapes Go.WideShapes Go.ChangeAt Go.RowKit

set_option maxRecDepth 100000
theorem claimq_row : Rows.SpaceRanksSaid :=
  OpenClaim.holds_of_wide 7 Tryz.f7 rfl rfl rfl rfl rfl rfl rfl ⟨rfl, rfl, rfl, rfl, rfl⟩ rfl rfl rfl rfl rfl (by kernel_rfl) Tryz.func7 claimq_jn
    (of_decide_eq_true (by kernel_rfl)) (by unfold Func.isWrapper; first | (rw [if_pos (by decide +kernel)]; kernel_rfl) | (rw [if_neg (by decide +kernel)]; exact ⟨rfl, rfl⟩))
    (fun os started H enc _ => claimq_lifted os started H enc)

theorem claimq_card : Rows.SpaceRanksCardSaid :=
  Claim7.holds_tied_plain_at .later [] Rows.spaceRanksCard.laidKinds true Rows.spaceRanksCard.stood.harness false
    claimq_row (fun _ h => by cases h) claimq_c1 (fun _ h => by cases h) spaceRanks_row_tie rfl ⟨rfl, rfl⟩ (by kernel_rfl) rfl
    (fun f fn hf hfn => by
      obtain rfl : f = 7 := Option.some.inj ((show Tryz.prog.funcNamed "tesseract/tesseractlaw02.SpaceRanks" = some 7 by kernel_rfl).symm.trans hf) |>.symm
      obtain rfl : fn = Tryz.f7 := (Option.some.inj (Tryz.func7.symm.trans hfn)).symm
      exact ⟨prg_looks, fun j t ht => by
        rw [Tryz.params7] at ht
        have hin : t ∈ [54, 79] := by simpa using Array.mem_of_getElem? ht
        exact (show Tryz.prog.wantsStandIn t = false by simpa using List.all_eq_true.1 claimq_c3 t hin)⟩)
    claimq_c2
end Go.Proofs.YtkckoanphciddaaGreatDoor
end

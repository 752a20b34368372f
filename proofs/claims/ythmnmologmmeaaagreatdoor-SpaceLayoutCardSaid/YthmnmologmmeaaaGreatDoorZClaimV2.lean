/- SpaceLayout: whatever the dimensions, the layout and the two lists of coordinates, Layout, Chunk, Homes, Core and Wide return what the document's own account returns: the law returns true. Its row lists package-level variables, tied to the program's text by the card. -/
import Derived.Test.YthmnmologmmeaaaGreatDoorTie
import Derived.Test.YthmnmologmmeaaaGreatDoorCards
import Derived.Test.YthmnmologmmeaaaGreatDoorZWka
import Derived.Test.YthmnmologmmeaaaGreatDoorZOpB
import Derived.Test.YthmnmologmmeaaaGreatDoorZChF
import Derived.Test.YthmnmologmmeaaaGreatDoorZLLy
import Derived.SevenTiedAt
import Derived.Test.YthmnmologmmeaaaGreatDoorZPrg

/- SpaceLayout: from the row's condition to the walk. -/
section
namespace Go.Proofs.YthmnmologmmeaaaGreatDoor
open Go.ChangeShapes Go.WideShapes Go.ChangeAt Go.RowKit

set_option maxRecDepth 100000 in
theorem claimv2_lifted (os : Os) (started : os.Started) (H : Type) (enc : TypeId × Value → H) :
    ReturnsInHanded {} Tryz.checked os 5 .any (fun w args => (Rows.spaceLayoutSpec.pre enc Tryz.prog Tryz.f5 [] false w args ∧ laidMetH Tryz.prog Rows.spaceLayoutRow.laid w) ∧ sizedMet enc Tryz.prog Tryz.f5 (OpenSpec.ofChange Rows.spaceLayoutSpec) false w args)
      (Rows.spaceLayoutSpec.post enc Tryz.prog Tryz.f5 false true false false) := by
  refine handed_laid_shaped (C := Tryz.checked) (X := fun w _ => laidMetH Tryz.prog Rows.spaceLayoutRow.laid w) (fun _ _ _ hh h => h.of_heap hh) own started (by kernel_rfl) Tryz.func5
    (ChangeSpec.witness_shaped (enc := enc) (C := Tryz.checked) (os := os) (X := fun w _ => laidMetH Tryz.prog Rows.spaceLayoutRow.laid w) false (World.laidAll Tryz.prog os Rows.spaceLayoutRow.laid) #[.slice none 0 0, .agg #[.slice none 0 0, .slice none 0 0, .int .i64 0, .int .i64 0, .int .i64 0, .int .i64 0], .agg #[.slice none 0 0, .slice none 0 0]] 8 (World.laidAll_os _ _ _)
      (World.shaped_of_ZipB (by kernel_rfl) (by kernel_rfl)) (by kernel_rfl) (by kernel_rfl) (by kernel_rfl)
      (by rw [MakeChecks.laidMetH_plain _ _ _ (by kernel_rfl)]; exact laidMet_laidAll _ (by kernel_rfl) (by kernel_rfl))) ?_
  intro W base args ds gs before hval0 hW hlaid hsh
  have hval : ∀ (j : Nat) t v, Tryz.f5.params[j]? = some t → args[j]? = some v → Value.okWide Tryz.prog W .any base t v := hval0
  rw [MakeChecks.laidMetH_plain _ _ _ (by kernel_rfl)] at hlaid
  have htab : Tab W := tab_of hlaid
  have htt : TyTab W := tyTab_of hlaid
  have hW' := hW
  obtain ⟨p, q, hA0, hV, rfl, _, _⟩ := hW
  have hA : DataW.TrodAll enc Tryz.prog W 0 (fun _ => true) true Tryz.f5.params.toList args.toList ds p := hA0
  rw [Tryz.params5] at hA hval
  obtain ⟨v0, v1, v2, d0, d1, d2, p0, p1, p2, rfl, rfl, rfl, h0, h1, h2⟩ := trodAll_three hA
  obtain ⟨rfl, rfl⟩ := trodVars_none hV
  obtain ⟨A, n, cap, rfl⟩ := okWide_slice Tryz.underlying22 (hval 0 22 v0 rfl rfl)
  have k1 := h1
  obtain ⟨S, O, s, sc, o, oc, sd, ov, ord, tile, form, codec, rfl, hls, hlo⟩ := open_layA (hval 1 54 v1 rfl rfl) h1
  have k2 := h2
  obtain ⟨X, Y, m, mc, p9, pc, xs, ys, rfl, hx, hy, hmb, hpb⟩ := open_twoA (hval 2 55 v2 rfl rfl) h2
  clear hA0 hval0
  simp only [List.append_nil] at hW'
  obtain ⟨m9, hm9⟩ := maxLen_cell hsh
  have hlt0 : ∀ x ∈ p0, x.block < W.heap.size := fun x hx => hW'.lt x (by simp [hx])
  have hlt1 : ∀ x ∈ p1, x.block < W.heap.size := fun x hx => hW'.lt x (by simp [hx])
  have hlt2 : ∀ x ∈ p2, x.block < W.heap.size := fun x hx => hW'.lt x (by simp [hx])
  have k0 := h0
  obtain ⟨_, f0⟩ := h0
  obtain ⟨nm, lo, hi, hd, hn, hs⟩ := open_dims f0
  refine (l_lay W A S O X Y n cap s sc o oc m mc p9 pc nm lo hi sd ov xs ys ord tile form codec hd (fun k hk => (hs k hk).1) hn hls hlo hx hy (works_at htab htt hm9)).mono fun e W' ⟨he, hb⟩ => ?_
  subst he
  have tr0 := Below.trod laidOut' (t := 22) (by kernel_rfl) (of_decide_eq_true (by kernel_rfl)) k0 hb hlt0
  have tr1 := Below.trod laidOut' (t := 54) (by kernel_rfl) (of_decide_eq_true (by kernel_rfl)) k1 hb hlt1
  have tr2 := Below.trod laidOut' (t := 55) (by kernel_rfl) (of_decide_eq_true (by kernel_rfl)) k2 hb hlt2
  exact ⟨_, rfl, ⟨_, _, _, [], _, [], hW', trodAll_mk1 (shut_bool Tryz.underlying4 _), trodAll_mk3 tr0 tr1 tr2, rfl, hb.frame _, fun h => by cases h⟩⟩

end Go.Proofs.YthmnmologmmeaaaGreatDoor
end

/- SpaceLayout: what its row and its card say of the program, fact by fact. -/
section
namespace Go.Proofs.YthmnmologmmeaaaGreatDoor
open Go.ChangeShapes Go.WideShapes
set_option maxRecDepth 100000
theorem claimv2_j1 : (Rows.spaceLayoutRow.inPlace == Tryz.prog.inPlace 5) = true := by kernel_rfl
theorem claimv2_j2 : (Rows.spaceLayoutRow.unfollowed == Tryz.prog.unfollowed 5) = true := by kernel_rfl
theorem claimv2_j3 : (Rows.spaceLayoutRow.recurses == Tryz.prog.recurses 5) = true := by kernel_rfl
theorem claimv2_j4 : (Rows.spaceLayoutRow.named == Tryz.prog.varsNamed 5) = true := by kernel_rfl
theorem claimv2_j5 : (Rows.spaceLayoutRow.plainKeys == Tryz.prog.plainKeys) = true := by kernel_rfl
theorem claimv2_j8 : (Rows.spaceLayoutRow.lifted == Tryz.prog.liftsFinal) = true := by kernel_rfl
theorem claimv2_jn : joinedFacts Tryz.prog 5 Tryz.f5 Rows.spaceLayoutSpec Rows.spaceLayoutRow = true := by
  unfold joinedFacts
  rw [claimv2_j1, claimv2_j2, claimv2_j3, claimv2_j4, claimv2_j5, prg_heard, prg_enter, claimv2_j8, prg_laid]
  kernel_rfl
theorem claimv2_c1 : Rows.spaceLayoutRow.wfByText (OpenSpec.ofChange Rows.spaceLayoutSpec) = true := by kernel_rfl
theorem claimv2_c2 : false = Rows.spaceLayoutRow.goesBy Tryz.prog := by kernel_rfl
theorem claimv2_c3 : ([22, 54, 55].all fun u => !Tryz.prog.wantsStandIn u) = true := by kernel_rfl
end Go.Proofs.YthmnmologmmeaaaGreatDoor
end

/- SpaceLayout: whatever the dimensions, the layout and the two lists of coordinates, Layout, Chunk, Homes, Core and Wide return what the document's own account returns: the law returns true. Its row lists package-level variables, tied to the program's text by the card. -/
section
namespace Go.Proofs.YthmnmologmmeaaaGreatDoor
open Go.ChangeShapes Go.WideShapes Go.ChangeAt Go.RowKit

set_option maxRecDepth 100000
theorem claimv2_row : Rows.SpaceLayoutSaid :=
  OpenClaim.holds_of_wide 5 Tryz.f5 rfl rfl rfl rfl rfl rfl rfl ⟨rfl, rfl, rfl, rfl, rfl⟩ rfl rfl rfl rfl rfl (by kernel_rfl) Tryz.func5 claimv2_jn
    (of_decide_eq_true (by kernel_rfl)) (by unfold Func.isWrapper; first | (rw [if_pos (by decide +kernel)]; kernel_rfl) | (rw [if_neg (by decide +kernel)]; exact ⟨rfl, rfl⟩))
    (fun os started H enc _ => claimv2_lifted os started H enc)

theorem claimv2_card : Rows.SpaceLayoutCardSaid :=
  Claim7.holds_tied_plain_at .later [] Rows.spaceLayoutCard.laidKinds true Rows.spaceLayoutCard.stood.harness false
    claimv2_row (fun _ h => by cases h) claimv2_c1 (fun _ h => by cases h) spaceLayout_row_tie rfl ⟨rfl, rfl⟩ (by kernel_rfl) rfl
    (fun f fn hf hfn => by
      obtain rfl : f = 5 := Option.some.inj ((show Tryz.prog.funcNamed "tesseract/tesseractlaw02.SpaceLayout" = some 5 by kernel_rfl).symm.trans hf) |>.symm
      obtain rfl : fn = Tryz.f5 := (Option.some.inj (Tryz.func5.symm.trans hfn)).symm
      exact ⟨prg_looks, fun j t ht => by
        rw [Tryz.params5] at ht
        have hin : t ∈ [22, 54, 55] := by simpa using Array.mem_of_getElem? ht
        exact (show Tryz.prog.wantsStandIn t = false by simpa using List.all_eq_true.1 claimv2_c3 t hin)⟩)
    claimv2_c2
end Go.Proofs.YthmnmologmmeaaaGreatDoor
end

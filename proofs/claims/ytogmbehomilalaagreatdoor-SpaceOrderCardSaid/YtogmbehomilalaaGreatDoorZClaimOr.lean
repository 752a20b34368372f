/- SpaceOrder: whatever the layout, the box and the coordinates, Seq and Rank return what the document's own account returns: the law returns true. Its row lists package-level variables, tied to the program's text by the card. -/
import Derived.Test.YtogmbehomilalaaGreatDoorTie
import Derived.Test.YtogmbehomilalaaGreatDoorCards
import Derived.Test.YtogmbehomilalaaGreatDoorZWka
import Derived.Test.YtogmbehomilalaaGreatDoorZOpB
import Derived.Test.YtogmbehomilalaaGreatDoorZSmA
import Derived.Test.YtogmbehomilalaaGreatDoorZLOr
import Derived.SevenTiedAt
import Derived.Test.YtogmbehomilalaaGreatDoorZPrg

/- SpaceOrder: from the row's condition to the walk. -/
section
namespace Go.Proofs.YtogmbehomilalaaGreatDoor
open Go.ChangeShapes Go.WideShapes Go.ChangeAt Go.RowKit

set_option maxRecDepth 100000 in
theorem claimor_lifted (os : Os) (started : os.Started) (H : Type) (enc : TypeId × Value → H) :
    ReturnsInHanded {} Tryz.checked os 4 .any (fun w args => (Rows.spaceOrderSpec.pre enc Tryz.prog Tryz.f4 [] false w args ∧ laidMetH Tryz.prog Rows.spaceOrderRow.laid w) ∧ sizedMet enc Tryz.prog Tryz.f4 (OpenSpec.ofChange Rows.spaceOrderSpec) false w args)
      (Rows.spaceOrderSpec.post enc Tryz.prog Tryz.f4 false true false false) := by
  refine handed_laid_shaped (C := Tryz.checked) (X := fun w _ => laidMetH Tryz.prog Rows.spaceOrderRow.laid w) (fun _ _ _ hh h => h.of_heap hh) own started (by kernel_rfl) Tryz.func4
    (ChangeSpec.witness_shaped (enc := enc) (C := Tryz.checked) (os := os) (X := fun w _ => laidMetH Tryz.prog Rows.spaceOrderRow.laid w) false (World.laidAll Tryz.prog os Rows.spaceOrderRow.laid) #[.agg #[.slice none 0 0, .slice none 0 0, .int .i64 0, .int .i64 0, .int .i64 0, .int .i64 0], .agg #[.slice none 0 0, .slice none 0 0], .slice none 0 0] 8 (World.laidAll_os _ _ _)
      (World.shaped_of_ZipB (by kernel_rfl) (by kernel_rfl)) (by kernel_rfl) (by kernel_rfl) (by kernel_rfl)
      (by rw [MakeChecks.laidMetH_plain _ _ _ (by kernel_rfl)]; exact laidMet_laidAll _ (by kernel_rfl) (by kernel_rfl))) ?_
  intro W base args ds gs before hval0 hW hlaid hsh
  have hval : ∀ (j : Nat) t v, Tryz.f4.params[j]? = some t → args[j]? = some v → Value.okWide Tryz.prog W .any base t v := hval0
  rw [MakeChecks.laidMetH_plain _ _ _ (by kernel_rfl)] at hlaid
  have htab : Tab W := tab_of hlaid
  have htt : TyTab W := tyTab_of hlaid
  have hW' := hW
  obtain ⟨p, q, hA0, hV, rfl, _, _⟩ := hW
  have hA : DataW.TrodAll enc Tryz.prog W 0 (fun _ => true) true Tryz.f4.params.toList args.toList ds p := hA0
  rw [Tryz.params4] at hA hval
  obtain ⟨v0, v1, v2, d0, d1, d2, p0, p1, p2, rfl, rfl, rfl, h0, h1, h2⟩ := trodAll_three hA
  obtain ⟨rfl, rfl⟩ := trodVars_none hV
  have k0 := h0
  obtain ⟨S, O, s, sc, o, oc, sd, ov, ord, tile, form, codec, rfl, hls, hlo⟩ := open_layA (hval 0 43 v0 rfl rfl) h0
  have k1 := h1
  obtain ⟨A1, A2, n, c1, m, c2, al, ah, rfl, ha1, ha2, hb1, hb2⟩ := open_boxB (hval 1 45 v1 rfl rfl) h1
  obtain ⟨X, r, rc, rfl⟩ := okWide_slice Tryz.underlying35 (hval 2 35 v2 rfl rfl)
  clear hA0 hval0
  simp only [List.append_nil] at hW'
  obtain ⟨m9, hm9⟩ := maxLen_cell hsh
  have hlt0 : ∀ x ∈ p0, x.block < W.heap.size := fun x hx => hW'.lt x (by simp [hx])
  have hlt1 : ∀ x ∈ p1, x.block < W.heap.size := fun x hx => hW'.lt x (by simp [hx])
  have hlt2 : ∀ x ∈ p2, x.block < W.heap.size := fun x hx => hW'.lt x (by simp [hx])
  have k2 := h2
  obtain ⟨_, f2⟩ := h2
  obtain ⟨xs, hx, hr, hxb⟩ := open_intsAt f2
  refine (l_order W S O A1 A2 X s sc o oc n c1 m c2 r rc ord tile form codec al ah xs ha1 ha2 hx hb1 hb2 (works_at htab htt hm9)).mono fun e W' ⟨he, hb⟩ => ?_
  subst he
  have tr0 := Below.trod laidOut' (t := 43) (by kernel_rfl) (of_decide_eq_true (by kernel_rfl)) k0 hb hlt0
  have tr1 := Below.trod laidOut' (t := 45) (by kernel_rfl) (of_decide_eq_true (by kernel_rfl)) k1 hb hlt1
  have tr2 := Below.trod laidOut' (t := 35) (by kernel_rfl) (of_decide_eq_true (by kernel_rfl)) k2 hb hlt2
  exact ⟨_, rfl, ⟨_, _, _, [], _, [], hW', trodAll_mk1 (shut_bool Tryz.underlying4 _), trodAll_mk3 tr0 tr1 tr2, rfl, hb.frame _, fun h => by cases h⟩⟩

end Go.Proofs.YtogmbehomilalaaGreatDoor
end

/- SpaceOrder: what its row and its card say of the program, fact by fact. -/
section
namespace Go.Proofs.YtogmbehomilalaaGreatDoor
open Go.ChangeShapes Go.WideShapes
set_option maxRecDepth 100000
theorem claimor_j1 : (Rows.spaceOrderRow.inPlace == Tryz.prog.inPlace 4) = true := by kernel_rfl
theorem claimor_j2 : (Rows.spaceOrderRow.unfollowed == Tryz.prog.unfollowed 4) = true := by kernel_rfl
theorem claimor_j3 : (Rows.spaceOrderRow.recurses == Tryz.prog.recurses 4) = true := by kernel_rfl
theorem claimor_j4 : (Rows.spaceOrderRow.named == Tryz.prog.varsNamed 4) = true := by kernel_rfl
theorem claimor_j5 : (Rows.spaceOrderRow.plainKeys == Tryz.prog.plainKeys) = true := by kernel_rfl
theorem claimor_j8 : (Rows.spaceOrderRow.lifted == Tryz.prog.liftsFinal) = true := by kernel_rfl
theorem claimor_jn : joinedFacts Tryz.prog 4 Tryz.f4 Rows.spaceOrderSpec Rows.spaceOrderRow = true := by
  unfold joinedFacts
  rw [claimor_j1, claimor_j2, claimor_j3, claimor_j4, claimor_j5, prg_heard, prg_enter, claimor_j8, prg_laid]
  kernel_rfl
theorem claimor_c1 : Rows.spaceOrderRow.wfByText (OpenSpec.ofChange Rows.spaceOrderSpec) = true := by kernel_rfl
theorem claimor_c2 : false = Rows.spaceOrderRow.goesBy Tryz.prog := by kernel_rfl
theorem claimor_c3 : ([43, 45, 35].all fun u => !Tryz.prog.wantsStandIn u) = true := by kernel_rfl
end Go.Proofs.YtogmbehomilalaaGreatDoor
end

/- SpaceOrder: whatever the layout, the box and the coordinates, Seq and Rank return what the document's own account returns: the law returns true. Its row lists package-level variables, tied to the program's text by the card. -/
section
namespace Go.Proofs.YtogmbehomilalaaGreatDoor
open Go.ChangeShapes Go.WideShapes Go.ChangeAt Go.RowKit

set_option maxRecDepth 100000
theorem claimor_row : Rows.SpaceOrderSaid :=
  OpenClaim.holds_of_wide 4 Tryz.f4 rfl rfl rfl rfl rfl rfl rfl ⟨rfl, rfl, rfl, rfl, rfl⟩ rfl rfl rfl rfl rfl (by kernel_rfl) Tryz.func4 claimor_jn
    (of_decide_eq_true (by kernel_rfl)) (by unfold Func.isWrapper; first | (rw [if_pos (by decide +kernel)]; kernel_rfl) | (rw [if_neg (by decide +kernel)]; exact ⟨rfl, rfl⟩))
    (fun os started H enc _ => claimor_lifted os started H enc)

theorem claimor_card : Rows.SpaceOrderCardSaid :=
  Claim7.holds_tied_plain_at .later [] Rows.spaceOrderCard.laidKinds true Rows.spaceOrderCard.stood.harness false
    claimor_row (fun _ h => by cases h) claimor_c1 (fun _ h => by cases h) spaceOrder_row_tie rfl ⟨rfl, rfl⟩ (by kernel_rfl) rfl
    (fun f fn hf hfn => by
      obtain rfl : f = 4 := Option.some.inj ((show Tryz.prog.funcNamed "tesseract/tesseractlaw02.SpaceOrder" = some 4 by kernel_rfl).symm.trans hf) |>.symm
      obtain rfl : fn = Tryz.f4 := (Option.some.inj (Tryz.func4.symm.trans hfn)).symm
      exact ⟨prg_looks, fun j t ht => by
        rw [Tryz.params4] at ht
        have hin : t ∈ [43, 45, 35] := by simpa using Array.mem_of_getElem? ht
        exact (show Tryz.prog.wantsStandIn t = false by simpa using List.all_eq_true.1 claimor_c3 t hin)⟩)
    claimor_c2
end Go.Proofs.YtogmbehomilalaaGreatDoor
end

/- SpaceIndex: whatever the dimensions, the coordinates and the number, Volume, Index and At return what the document's own account returns: the law returns true. Its row lists package-level variables, tied to the program's text by the card. -/
import Derived.Test.YtmhggphkhabjlaaGreatDoorZRfK
import Derived.Test.YtmhggphkhabjlaaGreatDoorZWka
import Derived.Test.YtmhggphkhabjlaaGreatDoorTie
import Derived.Test.YtmhggphkhabjlaaGreatDoorCards
import Derived.Test.YtmhggphkhabjlaaGreatDoorZOpA
import Derived.SevenTiedAt

/- The walk of SpaceIndex. -/
section
namespace Go.Proofs.YtmhggphkhabjlaaGreatDoor
open Go Go.RowKit Go.Deep

theorem eqTo_refl (f : Nat → Int) : ∀ n, eqTo f f n = true
  | 0 => rfl
  | n + 1 => by rw [eqTo, eqTo_refl f n, beq_self_eq_true]; rfl
theorem sameZ_refl (n : Nat) (f : Nat → Int) : sameZ n n f f = true := by unfold sameZ; rw [beq_self_eq_true, eqTo_refl]; rfl
set_option maxRecDepth 100000 in
set_option maxHeartbeats 8000000 in
theorem l_index (w : World) (A X : Option Addr) (n cap m mc : Nat) (nm : Nat → ByteArray) (lo hi xs : Nat → Int) (index : Int) (hd : DimsAt w A n nm lo hi) (hs : ∀ k, k < n → (nm k).size ≤ 9223372036854775807) (hn : n ≤ 9223372036854775807) (hx : IntsAt w X m xs) (hw : WorksAt w) :
    Calls Tryz.prog 4 #[.slice A n cap, .slice X m mc, .int .i64 index] w fun e w' => e = .returned (.bool true) ∧ Below w.heap.size w w' := by
  have HW := Lib.hid hw
  have HD := Lib.hid hd
  have HI := Lib.hid hx
  have HN := Lib.hid hs
  have HS := Lib.hid (l_schema w A n cap nm lo hi hd hs hn)
  clear hw hd hs hx
  go_enter Tryz.func4, Tryz.ntmps4
  go_wp2_with fail
  refine HS.out.mono ?_
  rintro e w1 ⟨c, rfl, hc, hb1⟩
  have HB1 := Lib.hid hb1
  have HC := Lib.hid hc
  clear HS hc hb1
  cases c
  · clear HC
    go_wp2_with fail
    refine (HW.out _ HB1.out).mono ?_
    rintro e w2 ⟨rfl, hb2⟩
    go_wp2
    go_ret
    exact ⟨rfl, st HB1.out hb2⟩
  · have hn10 : n ≤ 10 := HC.out rfl
    clear HC hn
    by_cases hm : (m : Int) > 10
    · go_wp2_with fail
      refine (HW.out _ HB1.out).mono ?_
      rintro e w2 ⟨rfl, hb2⟩
      go_wp2
      go_ret
      exact ⟨rfl, st HB1.out hb2⟩
    · have hm10 : m ≤ 10 := by omega
      have HV1 : Hid (∀ W, Below w.heap.size w W → Calls Tryz.prog 16 #[.slice A n cap] W fun e w' => e = .returned (.tuple #[.int .i64 (volZ nm lo hi n), .int .i64 (volE nm lo hi n)]) ∧ Below W.heap.size W w') := fun W hW => s_Volume W A n cap nm lo hi (HD.out.below hW)
      have HV2 : Hid (∀ W, Below w.heap.size w W → Calls Tryz.prog 17 #[.slice A n cap] W fun e w' => e = .returned (.tuple #[.int .i64 (volZ nm lo hi n), .int .i64 (volE nm lo hi n)]) ∧ Below W.heap.size W w') := fun W hW => r_Volume W A n cap nm lo hi (HD.out.below hW) HN.out (by omega)
      have HI1 : Hid (∀ W, Below w.heap.size w W → Calls Tryz.prog 18 #[.slice A n cap, .slice X m mc] W fun e w' => e = .returned (.tuple #[.int .i64 (idxZ nm lo hi n xs m), .int .i64 (idxE nm lo hi n xs m)]) ∧ Below W.heap.size W w') := fun W hW => s_Index W A X n cap m mc nm lo hi xs (HD.out.below hW) (HI.out.below hW) (by omega) (by omega)
      have HI2 : Hid (∀ W, Below w.heap.size w W → Calls Tryz.prog 19 #[.slice A n cap, .slice X m mc] W fun e w' => e = .returned (.tuple #[.int .i64 (idxZ nm lo hi n xs m), .int .i64 (idxE nm lo hi n xs m)]) ∧ Below W.heap.size W w') := fun W hW => r_Index W A X n cap m mc nm lo hi xs (HD.out.below hW) (HI.out.below hW) HN.out (by omega) (by omega)
      have HA1 : Hid (∀ W, Below w.heap.size w W → Calls Tryz.prog 20 #[.slice A n cap, .int .i64 index] W fun e w' => ∃ Y l, e = .returned (.tuple #[.slice Y l l, .int .i64 (atsE nm lo hi n index)]) ∧ l = (if atsE nm lo hi n index = 0 then n else 0) ∧ IntsAt w' Y l (atZ lo hi n index) ∧ Below W.heap.size W w') := fun W hW => by
        by_cases h0 : atsE nm lo hi n index = 0
        · refine (s_At W A n cap nm lo hi _ (HD.out.below hW) h0).mono fun e w' ⟨b, h1, _, h2, h3⟩ => ⟨_, n, ?_, (if_pos h0).symm, ints_row h2, h3⟩
          rw [h1, h0]
        · exact (s_At_bad W A n cap nm lo hi _ (HD.out.below hW) h0).mono fun e w' ⟨h1, h3⟩ => ⟨none, 0, h1, (if_neg h0).symm, ints_none _ _, h3⟩
      have HA2 : Hid (∀ W, Below w.heap.size w W → Calls Tryz.prog 21 #[.slice A n cap, .int .i64 index] W fun e w' => ∃ Y l, e = .returned (.tuple #[.slice Y l l, .int .i64 (atsE nm lo hi n index)]) ∧ l = (if atsE nm lo hi n index = 0 then n else 0) ∧ IntsAt w' Y l (atZ lo hi n index) ∧ Below W.heap.size W w') := fun W hW => by
        by_cases h0 : atsE nm lo hi n index = 0
        · refine (r_At W A n cap nm lo hi _ (HD.out.below hW) HN.out (by omega) h0).mono fun e w' ⟨b, h1, _, h2, h3⟩ => ⟨_, n, ?_, (if_pos h0).symm, ints_row h2, h3⟩
          rw [h1, h0]
        · exact (r_At_bad W A n cap nm lo hi _ (HD.out.below hW) HN.out (by omega) h0).mono fun e w' ⟨h1, h3⟩ => ⟨none, 0, h1, (if_neg h0).symm, ints_none _ _, h3⟩
      obtain ⟨L, hL⟩ : ∃ L, (if atsE nm lo hi n index = 0 then n else 0) = L := ⟨_, rfl⟩
      have hL10 : L ≤ 10 := by rw [← hL]; split <;> omega
      rw [hL] at HA1 HA2
      clear hL HN HD HI
      generalize atZ lo hi n index = fa at *
      generalize atsE nm lo hi n index = ae at *
      generalize idxZ nm lo hi n xs m = iz at *
      generalize idxE nm lo hi n xs m = ie at *
      generalize volZ nm lo hi n = vz at *
      generalize volE nm lo hi n = ve at *
      go_wp2_with fail
      refine (HV1.out _ HB1.out).mono ?_
      rintro e w2 ⟨rfl, hb2⟩
      have HB2 : Hid (Below w.heap.size w w2) := st HB1.out hb2
      clear hb2 HB1 HV1
      go_wp2_with fail
      refine (HV2.out _ HB2.out).mono ?_
      rintro e w3 ⟨rfl, hb3⟩
      have HB3 : Hid (Below w.heap.size w w3) := st HB2.out hb3
      clear hb3 HB2 HV2
      go_wp2_with fail
      refine (HI1.out _ HB3.out).mono ?_
      rintro e w4 ⟨rfl, hb4⟩
      have HB4 : Hid (Below w.heap.size w w4) := st HB3.out hb4
      clear hb4 HB3 HI1
      go_wp2_with fail
      refine (HI2.out _ HB4.out).mono ?_
      rintro e w5 ⟨rfl, hb5⟩
      have HB5 : Hid (Below w.heap.size w w5) := st HB4.out hb5
      clear hb5 HB4 HI2
      go_wp2_with fail
      refine (HA1.out _ HB5.out).mono ?_
      rintro e w6 ⟨Y, l1, rfl, rfl, hy, hb6⟩
      have HB6 : Hid (Below w.heap.size w w6) := st HB5.out hb6
      have HY := Lib.hid hy
      clear hb6 HB5 HA1 hy
      go_wp2_with fail
      refine (HA2.out _ HB6.out).mono ?_
      rintro e w7 ⟨Z, l2, rfl, rfl, hz, hb7⟩
      have HB7 : Hid (Below w.heap.size w w7) := st HB6.out hb7
      have HS7 : Hid (Calls Tryz.prog 22 #[.slice Y l2 l2, .slice Z l2 l2] w7 fun e w' => e = .returned (.bool true) ∧ Below w7.heap.size w7 w') := by
        have h := s_SameInts w7 Y Z l2 l2 l2 l2 fa fa (HY.out.below hb7) hz (by omega) (by omega)
        rw [sameZ_refl] at h
        exact h
      clear hb7 HB6 HA2 hz HY
      go_wp2_with (first | (go_at_call 22; refine HS7.out.mono ?_; rintro e w8 ⟨rfl, hb8⟩; have HB8 : Hid (Below w.heap.size w w8) := st HB7.out hb8) | (go_at_call 11; refine (HW.out _ HB8.out).mono ?_; rintro e w9 ⟨rfl, hb9⟩))
      go_ret
      exact ⟨rfl, st HB8.out hb9⟩
end Go.Proofs.YtmhggphkhabjlaaGreatDoor
end

/- SpaceIndex: whatever the dimensions, the coordinates and the number, Volume, Index and At return what the document's own account returns: the law returns true. Its row lists package-level variables, tied to the program's text by the card. -/
section
namespace Go.Proofs.YtmhggphkhabjlaaGreatDoor
open Go.ChangeShapes Go.WideShapes Go.ChangeAt Go.RowKit

set_option maxRecDepth 100000 in
theorem claimx_lifted (os : Os) (started : os.Started) (H : Type) (enc : TypeId × Value → H) :
    ReturnsInHanded {} Tryz.checked os 4 .any (fun w args => (Rows.spaceIndexSpec.pre enc Tryz.prog Tryz.f4 [] false w args ∧ laidMetH Tryz.prog Rows.spaceIndexRow.laid w) ∧ sizedMet enc Tryz.prog Tryz.f4 (OpenSpec.ofChange Rows.spaceIndexSpec) false w args)
      (Rows.spaceIndexSpec.post enc Tryz.prog Tryz.f4 false true false false) := by
  refine handed_laid_shaped (C := Tryz.checked) (X := fun w _ => laidMetH Tryz.prog Rows.spaceIndexRow.laid w) (fun _ _ _ hh h => h.of_heap hh) own started (by kernel_rfl) Tryz.func4
    (ChangeSpec.witness_shaped (enc := enc) (C := Tryz.checked) (os := os) (X := fun w _ => laidMetH Tryz.prog Rows.spaceIndexRow.laid w) false (World.laidAll Tryz.prog os Rows.spaceIndexRow.laid) #[.slice none 0 0, .slice none 0 0, .int .i64 0] 8 (World.laidAll_os _ _ _)
      (World.shaped_of_ZipB (by kernel_rfl) (by kernel_rfl)) (by kernel_rfl) (by kernel_rfl) (by kernel_rfl)
      (by rw [MakeChecks.laidMetH_plain _ _ _ (by kernel_rfl)]; exact laidMet_laidAll _ (by kernel_rfl) (by kernel_rfl))) ?_
  intro W base args ds gs before hval0 hW hlaid hsh
  have hval : ∀ (j : Nat) t v, Tryz.f4.params[j]? = some t → args[j]? = some v → Value.okWide Tryz.prog W .any base t v := hval0
  rw [MakeChecks.laidMetH_plain _ _ _ (by kernel_rfl)] at hlaid
  have htab : Tab W := tab_of hlaid
  have htt : TyTab W := tyTab_of hlaid
  have hW' := hW
  obtain ⟨p, q, hA0, hV, rfl, _, _⟩ := hW
  have hA : DataW.TrodAll enc Tryz.prog W 0 (fun _ => true) true Tryz.f4.params.toList args.toList ds p := hA0
  rw [Tryz.params4] at hA hval
  obtain ⟨v0, v1, v2, d0, d1, d2, p0, p1, p2, rfl, rfl, rfl, h0, h1, h2⟩ := trodAll_three hA
  obtain ⟨rfl, rfl⟩ := trodVars_none hV
  obtain ⟨A, n, cap, rfl⟩ := okWide_slice Tryz.underlying22 (hval 0 22 v0 rfl rfl)
  obtain ⟨B, m, c2, rfl⟩ := okWide_slice Tryz.underlying32 (hval 1 32 v1 rfl rfl)
  obtain ⟨ix, rfl, rfl, rfl, wix⟩ := open_int Tryz.underlying3 (hval 2 3 v2 rfl rfl) h2
  have bix := bounds_i64 wix
  clear hA0 hval0
  simp only [List.append_nil] at hW'
  obtain ⟨m9, hm9⟩ := maxLen_cell hsh
  have hlt0 : ∀ x ∈ p0, x.block < W.heap.size := fun x hx => hW'.lt x (by simp [hx])
  have hlt1 : ∀ x ∈ p1, x.block < W.heap.size := fun x hx => hW'.lt x (by simp [hx])
  have k0 := h0
  obtain ⟨_, f0⟩ := h0
  obtain ⟨nm, lo, hi, hd, hn, hs⟩ := open_dims f0
  have k1 := h1
  obtain ⟨_, f1⟩ := h1
  obtain ⟨xs, hx, hm, hb2⟩ := open_intsAt f1
  refine (l_index W A B n cap m c2 nm lo hi xs ix hd (fun k hk => (hs k hk).1) hn hx (works_at htab htt hm9)).mono fun e W' ⟨he, hb⟩ => ?_
  subst he
  have tr0 := Below.trod laidOut' (t := 22) (by kernel_rfl) (of_decide_eq_true (by kernel_rfl)) k0 hb hlt0
  have tr1 := Below.trod laidOut' (t := 32) (by kernel_rfl) (of_decide_eq_true (by kernel_rfl)) k1 hb hlt1
  exact ⟨_, rfl, ⟨_, _, _, [], _, [], hW', trodAll_mk1 (shut_bool Tryz.underlying4 _), trodAll_mk3 tr0 tr1 (shut_int Tryz.underlying3 wix), rfl, hb.frame _, fun h => by cases h⟩⟩

theorem claimx_row : Rows.SpaceIndexSaid :=
  OpenClaim.holds_of_wide 4 Tryz.f4 rfl rfl rfl rfl rfl rfl rfl ⟨rfl, rfl, rfl, rfl, rfl⟩ rfl rfl rfl rfl rfl (by kernel_rfl) Tryz.func4 (by kernel_rfl)
    (of_decide_eq_true (by kernel_rfl)) (by unfold Func.isWrapper; first | (rw [if_pos (by decide +kernel)]; kernel_rfl) | (rw [if_neg (by decide +kernel)]; exact ⟨rfl, rfl⟩))
    (fun os started H enc _ => claimx_lifted os started H enc)

theorem claimx_card : Rows.SpaceIndexCardSaid :=
  Claim7.holds_tied_plain_at .later [] Rows.spaceIndexCard.laidKinds true Rows.spaceIndexCard.stood.harness false
    claimx_row (fun _ h => by cases h) (by kernel_rfl) (fun _ h => by cases h) spaceIndex_row_tie rfl ⟨rfl, rfl⟩ (by kernel_rfl) rfl
    (fun f fn hf hfn => by
      obtain rfl : f = 4 := Option.some.inj ((show Tryz.prog.funcNamed "tesseract/tesseractlaw02.SpaceIndex" = some 4 by kernel_rfl).symm.trans hf) |>.symm
      obtain rfl : fn = Tryz.f4 := (Option.some.inj (Tryz.func4.symm.trans hfn)).symm
      exact ⟨by kernel_rfl, fun j t ht => by
        rw [Tryz.params4] at ht
        have hin : t ∈ [22, 32, 3] := by simpa using Array.mem_of_getElem? ht
        have hall : ([22, 32, 3].all fun u => !Tryz.prog.wantsStandIn u) = true := by kernel_rfl
        exact (show Tryz.prog.wantsStandIn t = false by simpa using List.all_eq_true.1 hall t hin)⟩)
    (by kernel_rfl)
end Go.Proofs.YtmhggphkhabjlaaGreatDoor
end

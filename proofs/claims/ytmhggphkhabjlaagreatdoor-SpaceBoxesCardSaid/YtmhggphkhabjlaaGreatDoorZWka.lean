/- The walk of SpaceInverse. -/
import Derived.Test.YtmhggphkhabjlaaGreatDoorZLS
import Derived.Test.YtmhggphkhabjlaaGreatDoorZOpA
import Derived.Test.YtmhggphkhabjlaaGreatDoorZWk2

/- The walk of SpaceInverse. -/
section
namespace Go.Proofs.YtmhggphkhabjlaaGreatDoor
open Go Go.RowKit Go.Deep

/-- The examples of the chapter hold in whatever world goes on from here. -/
def WorksAt (w : World) : Prop := ∀ W, Below w.heap.size w W → Calls Tryz.prog 11 #[] W fun e w' => e = .returned (.bool true) ∧ Below W.heap.size W w'
theorem ints_none (w : World) (f : Nat → Int) : IntsAt w none 0 f := fun h => absurd h (by omega)

set_option maxRecDepth 100000 in
set_option maxHeartbeats 8000000 in
theorem l_inverse (w : World) (A : Option Addr) (n cap : Nat) (nm : Nat → ByteArray) (lo hi : Nat → Int) (a b : Int) (hd : DimsAt w A n nm lo hi) (hs : ∀ k, k < n → (nm k).size ≤ 9223372036854775807) (hn : n ≤ 9223372036854775807) (ha : 0 ≤ a) (ha2 : a ≤ 18446744073709551615) (hb : 0 ≤ b) (hb2 : b ≤ 18446744073709551615) (hw : WorksAt w) :
    Calls Tryz.prog 8 #[.slice A n cap, .int .u64 a, .int .u64 b] w fun e w' => e = .returned (.bool true) ∧ Below w.heap.size w w' := by
  have HW := Lib.hid hw
  have HD := Lib.hid hd
  have HS := Lib.hid (l_schema w A n cap nm lo hi hd hs hn)
  clear hw hd hs
  go_enter Tryz.func8, Tryz.ntmps8
  go_wp2_with fail
  refine HS.out.mono ?_
  rintro e w1 ⟨c, rfl, hc, hb1⟩
  have HB1 := Lib.hid hb1
  have HC := Lib.hid hc
  clear HS hc hb1
  cases c
  · clear HC
    go_wp2_with fail
    refine (HW.out _ HB1.out).mono ?_
    rintro e w2 ⟨rfl, hb2⟩
    go_wp2
    go_ret
    exact ⟨rfl, st HB1.out hb2⟩
  · have hn10 : n ≤ 10 := HC.out rfl
    clear HC hn
    have HV := Lib.hid (s_Volume w1 A n cap nm lo hi (HD.out.below HB1.out))
    obtain ⟨ve, hve⟩ : ∃ ve, volE nm lo hi n = ve := ⟨_, rfl⟩
    by_cases h0 : volE nm lo hi n = 0
    · have HZ := Lib.hid (vol_zero h0)
      rw [h0, HZ.out.2.2.2.2.1] at HV
      have HI := Lib.hid (fun i h1 h2 => index_of_at (i := i) h0 h1 h2)
      have HCm := Lib.hid (fun i i' h1 h2 h3 h4 => cmp_ats (i := i) (i' := i') HZ.out.2.2.1 h1 h2 h3 h4)
      have hP1 : 1 ≤ prodZ lo hi n := HZ.out.2.2.2.2.2.1
      have hP2 : prodZ lo hi n ≤ 4611686018427387904 := HZ.out.2.2.2.2.2.2.1
      have ma := Int.emod_nonneg a (by omega : prodZ lo hi n ≠ 0)
      have ma2 := Int.emod_lt_of_pos a (by omega : 0 < prodZ lo hi n)
      have mb := Int.emod_nonneg b (by omega : prodZ lo hi n ≠ 0)
      have mb2 := Int.emod_lt_of_pos b (by omega : 0 < prodZ lo hi n)
      obtain ⟨x1, x2, x3⟩ := HI.out _ ma ma2
      obtain ⟨y1, y2, y3⟩ := HI.out _ mb mb2
      have HA1 : Hid (∀ W, Below w.heap.size w W → Calls Tryz.prog 20 #[.slice A n cap, .int .i64 (a % prodZ lo hi n)] W fun e w' => ∃ b, e = .returned (.tuple #[.slice (some ⟨b, 0, none⟩) n n, .int .i64 0]) ∧ IntsAt w' (some ⟨b, 0, none⟩) n (atZ lo hi n (a % prodZ lo hi n)) ∧ Below W.heap.size W w') := fun W hW => (s_At W A n cap nm lo hi _ (HD.out.below hW) x3).mono fun e w' ⟨b, h1, _, h2, h3⟩ => ⟨b, h1, ints_row h2, h3⟩
      have HA2 : Hid (∀ W, Below w.heap.size w W → Calls Tryz.prog 20 #[.slice A n cap, .int .i64 (b % prodZ lo hi n)] W fun e w' => ∃ b', e = .returned (.tuple #[.slice (some ⟨b', 0, none⟩) n n, .int .i64 0]) ∧ IntsAt w' (some ⟨b', 0, none⟩) n (atZ lo hi n (b % prodZ lo hi n)) ∧ Below W.heap.size W w') := fun W hW => (s_At W A n cap nm lo hi _ (HD.out.below hW) y3).mono fun e w' ⟨b, h1, _, h2, h3⟩ => ⟨b, h1, ints_row h2, h3⟩
      have HX1 : Hid (∀ W X, Below w.heap.size w W → IntsAt W X n (atZ lo hi n (a % prodZ lo hi n)) → Calls Tryz.prog 18 #[.slice A n cap, .slice X n n] W fun e w' => e = .returned (.tuple #[.int .i64 (a % prodZ lo hi n), .int .i64 0]) ∧ Below W.heap.size W w') := fun W X hW hX => by
        have h := s_Index W A X n cap n n nm lo hi _ (HD.out.below hW) hX (by omega) (by omega)
        rw [x1, x2] at h
        exact h
      have HX2 : Hid (∀ W X, Below w.heap.size w W → IntsAt W X n (atZ lo hi n (b % prodZ lo hi n)) → Calls Tryz.prog 18 #[.slice A n cap, .slice X n n] W fun e w' => e = .returned (.tuple #[.int .i64 (b % prodZ lo hi n), .int .i64 0]) ∧ Below W.heap.size W w') := fun W X hW hX => by
        have h := s_Index W A X n cap n n nm lo hi _ (HD.out.below hW) hX (by omega) (by omega)
        rw [y1, y2] at h
        exact h
      have HCC : Hid (∀ W X Y, IntsAt W X n (atZ lo hi n (a % prodZ lo hi n)) → IntsAt W Y n (atZ lo hi n (b % prodZ lo hi n)) → Calls Tryz.prog 42 #[.slice X n n, .slice Y n n] W fun e w' => e = .returned (.int .i64 (cmpI (a % prodZ lo hi n) (b % prodZ lo hi n))) ∧ w' = W) := fun W X Y hX hY => by
        have h := s_Compare W X Y n n n n _ _ hX hY (by omega) (by omega)
        rw [HCm.out _ _ ma ma2 mb mb2] at h
        exact h
      have hca : IntKind.u64.wrap (prodZ lo hi n) = prodZ lo hi n := by rw [IntKind.wrap_u64]; omega
      clear x1 x2 x3 y1 y2 y3 HI HCm HZ hve HD ve h0
      generalize atZ lo hi n (a % prodZ lo hi n) = fa at *
      generalize atZ lo hi n (b % prodZ lo hi n) = fb at *
      generalize prodZ lo hi n = P at *
      have hwa : IntKind.u64.wrap (a % P) = a % P := by rw [IntKind.wrap_u64]; omega
      have hwb : IntKind.u64.wrap (b % P) = b % P := by rw [IntKind.wrap_u64]; omega
      go_wp2_with fail
      refine HV.out.mono ?_
      rintro e w2 ⟨rfl, hb2⟩
      have HB2 : Hid (Below w.heap.size w w2) := st HB1.out hb2
      clear hb2 HB1 HV
      have p1 : ¬ P < 1 := by omega
      have p2 : ¬ P = 0 := by omega
      go_wp2_with fail
      go_quiet (fail)
      have HB2d : Hid (Below w.heap.size w (w2.drewN nq)) := drewB HB2.out _
      generalize w2.drewN nq = w2' at *
      clear HB2
      go_wp2_with fail
      refine (HA1.out _ HB2d.out).mono ?_
      rintro e w3 ⟨bx, rfl, hx3, hb3⟩
      have HX3 := Lib.hid hx3
      have HB3 : Hid (Below w.heap.size w w3) := st HB2d.out hb3
      clear hx3 hb3 HB2d HA1
      go_wp2_with fail
      refine (HA2.out _ HB3.out).mono ?_
      rintro e w4 ⟨by', rfl, hy4, hb4⟩
      have HX4 : Hid (IntsAt w4 (some ⟨bx, 0, none⟩) n fa) := HX3.out.below hb4
      have HY4 := Lib.hid hy4
      have HB4 : Hid (Below w.heap.size w w4) := st HB3.out hb4
      clear hy4 hb4 HB3 HX3 HA2
      go_wp2_with fail
      refine (HX1.out _ _ HB4.out HX4.out).mono ?_
      rintro e w5 ⟨rfl, hb5⟩
      have HX5 : Hid (IntsAt w5 (some ⟨bx, 0, none⟩) n fa) := HX4.out.below hb5
      have HY5 : Hid (IntsAt w5 (some ⟨by', 0, none⟩) n fb) := HY4.out.below hb5
      have HB5 : Hid (Below w.heap.size w w5) := st HB4.out hb5
      clear hb5 HB4 HX4 HY4 HX1
      go_wp2_with fail
      refine (HX2.out _ _ HB5.out HY5.out).mono ?_
      rintro e w6 ⟨rfl, hb6⟩
      have HX6 : Hid (IntsAt w6 (some ⟨bx, 0, none⟩) n fa) := HX5.out.below hb6
      have HY6 : Hid (IntsAt w6 (some ⟨by', 0, none⟩) n fb) := HY5.out.below hb6
      have HB6 : Hid (Below w.heap.size w w6) := st HB5.out hb6
      clear hb6 HB5 HX5 HY5 HX2
      clear hca hwa hwb
      generalize a % P = i at *
      generalize b % P = k at *
      have HCk := Lib.hid (HCC.out w6 _ _ HX6.out HY6.out)
      clear HCC
      have HCE : Hid (cmpI i k = if i < k then -1 else if k < i then 1 else 0) := rfl
      generalize cmpI i k = z at *
      by_cases q1 : i < k
      · have hz : z = -1 := by rw [HCE.out, if_pos q1]
        have q2 : ¬ i > k := by omega
        have q3 : ¬ k < i := by omega
        subst hz
        clear HCE
        go_wp2_with (first | (go_at_call 42; refine HCk.out.mono ?_; rintro e w7 ⟨rfl, rfl⟩) | (go_at_call 11; refine (HW.out _ HB6.out).mono ?_; rintro e w8 ⟨rfl, hb8⟩))
        go_ret
        exact ⟨rfl, st HB6.out hb8⟩
      · by_cases q2 : i > k
        · have q3 : k < i := q2
          have hz : z = 1 := by rw [HCE.out, if_neg q1, if_pos q3]
          subst hz
          clear HCE
          go_wp2_with (first | (go_at_call 42; refine HCk.out.mono ?_; rintro e w7 ⟨rfl, rfl⟩) | (go_at_call 11; refine (HW.out _ HB6.out).mono ?_; rintro e w8 ⟨rfl, hb8⟩))
          go_ret
          exact ⟨rfl, st HB6.out hb8⟩
        · have q3 : ¬ k < i := q2
          have hz : z = 0 := by rw [HCE.out, if_neg q1, if_neg q3]
          subst hz
          clear HCE
          go_wp2_with (first | (go_at_call 42; refine HCk.out.mono ?_; rintro e w7 ⟨rfl, rfl⟩) | (go_at_call 11; refine (HW.out _ HB6.out).mono ?_; rintro e w8 ⟨rfl, hb8⟩))
          go_ret
          exact ⟨rfl, st HB6.out hb8⟩
    · have HN : Hid (volZ nm lo hi n = 0) := if_neg h0
      have HIE : Hid (∀ W, Below w.heap.size w W → Calls Tryz.prog 18 #[.slice A n cap, .slice none 0 0] W fun e w' => e = .returned (.tuple #[.int .i64 0, .int .i64 ve]) ∧ Below W.heap.size W w') := fun W hW => by
        have h := s_Index W A none n cap 0 0 nm lo hi (fun _ => 0) (HD.out.below hW) (ints_none _ _) (by omega) (by omega)
        have e1 : idxE nm lo hi n (fun _ => 0) 0 = ve := by rw [idxE, if_pos h0, hve]
        rw [idxZ, e1, if_neg (by rw [← hve]; exact h0)] at h
        exact h
      have HAE : Hid (∀ W, Below w.heap.size w W → Calls Tryz.prog 20 #[.slice A n cap, .int .i64 0] W fun e w' => e = .returned (.tuple #[.slice none 0 0, .int .i64 ve]) ∧ Below W.heap.size W w') := fun W hW => by
        have e1 : atsE nm lo hi n 0 = ve := by rw [atsE, if_pos h0, hve]
        have h := s_At_bad W A n cap nm lo hi 0 (HD.out.below hW) (by rw [e1, ← hve]; exact h0)
        rw [e1] at h
        exact h
      rw [HN.out, hve] at HV
      rw [hve] at h0
      have h1 : (ve != 0) = true := by rw [bne_iff_ne]; exact h0
      clear hve HN HD h0
      go_wp2_with fail
      refine HV.out.mono ?_
      rintro e w2 ⟨rfl, hb2⟩
      have HB2 : Hid (Below w.heap.size w w2) := st HB1.out hb2
      clear hb2 HB1 HV
      go_wp2_with fail
      refine (HIE.out _ HB2.out).mono ?_
      rintro e w3 ⟨rfl, hb3⟩
      have HB3 : Hid (Below w.heap.size w w3) := st HB2.out hb3
      go_wp2_with fail
      refine (HAE.out _ HB3.out).mono ?_
      rintro e w4 ⟨rfl, hb4⟩
      have HB4 : Hid (Below w.heap.size w w4) := st HB3.out hb4
      go_wp2_with fail
      refine (HW.out _ HB4.out).mono ?_
      rintro e w5 ⟨rfl, hb5⟩
      go_wp2
      go_ret
      exact ⟨rfl, st HB4.out hb5⟩
end Go.Proofs.YtmhggphkhabjlaaGreatDoor
end

/- The driver's works, behind whatever went before. -/
section
namespace Go.Proofs.YtmhggphkhabjlaaGreatDoor
open Go.ChangeShapes Go.WideShapes Go.ChangeAt Go.RowKit

theorem works_at {W : World} {ml : Int} (htab : Tab W) (htt : TyTab W) (hml : W.cell? ⟨6, 0, none⟩ = some (.int .i64 ml)) : WorksAt W := fun V hV =>
  w_works V ml (htab.below hV) (fun t h1 h2 => (hV.cell (p := ⟨0, t, none⟩) (cell_lt (htt t h1 h2))).trans (htt t h1 h2)) ((hV.cell (p := ⟨6, 0, none⟩) (cell_lt hml)).trans hml)

end Go.Proofs.YtmhggphkhabjlaaGreatDoor
end

/- The walk of SpaceHull. -/
import Derived.Test.YtkckoanphciddaaGreatDoorZHuT
import Derived.Test.YtkckoanphciddaaGreatDoorZHuS
import Derived.Test.YtkckoanphciddaaGreatDoorZCmpS
import Derived.Test.YtkckoanphciddaaGreatDoorZArD
import Derived.Test.YtkckoanphciddaaGreatDoorZLCh
import Derived.Test.YtkckoanphciddaaGreatDoorZRfP
namespace Go.Proofs.YtkckoanphciddaaGreatDoor
open Go Go.RowKit Go.Deep

theorem cut_ok {D : ArD} {nb mb : Nat} {l h : Nat → Int} (ho : ArOk D) : ArOk (cutD D nb mb l h) := by
  unfold cutD
  split
  · exact ⟨ho.n1, ho.m1, Nat.le_trans (cntTo_le _ _) ho.N1, ho.nmS, ho.anS, pick_ok ho.cS⟩
  · exact ⟨Nat.zero_le _, Nat.zero_le _, Nat.zero_le _, fun k hk => absurd hk (Nat.not_lt_zero k), fun k hk => absurd hk (Nat.not_lt_zero k), fun k hk => absurd hk (Nat.not_lt_zero k)⟩
theorem ints_kept {W V : World} {A : Option Addr} {n b : Nat} {f : Nat → Int} (h : IntsAt W A n f) (hg : W.grownBy V (some b)) (hne : 0 < n → ∀ bp o, A = some ⟨bp, o, none⟩ → bp ≠ b) : IntsAt V A n f := fun hn => by
  obtain ⟨bp, o, e, h1, h2⟩ := h hn
  have hb := hne hn bp o e
  have hk : V.heap[bp]? = W.heap[bp]? := hg.block bp h1 (by simpa using hb)
  exact ⟨bp, o, e, Nat.lt_of_lt_of_le h1 hg.size, fun k hk' => (cell_blk hk).trans (h2 k hk')⟩
theorem nil_cell {W : World} {b o : Nat} {v : Value} {ty : TypeId} (hb : W.heap[b]? = some (.cells #[.slice none 0 0, .slice none 0 0, .slice none 0 0] ty (0, 0))) (h : W.cell? ⟨b, o, none⟩ = some v) : v = .slice none 0 0 := by
  rw [cell_of_row _ _ _ _ _ _ hb] at h
  match o, h with
  | 0, h => exact (Option.some.inj h).symm
  | 1, h => exact (Option.some.inj h).symm
  | 2, h => exact (Option.some.inj h).symm
  | _ + 3, h => simp at h
theorem ints_ne {W : World} {A : Option Addr} {n b : Nat} {f : Nat → Int} {ty : TypeId} (h : IntsAt W A n f) (hb : W.heap[b]? = some (.cells #[.slice none 0 0, .slice none 0 0, .slice none 0 0] ty (0, 0))) : 0 < n → ∀ bp o, A = some ⟨bp, o, none⟩ → bp ≠ b := fun hn bp o e e2 => by
  obtain ⟨b2, o2, e3, _, h2⟩ := h hn
  rw [e] at e3
  obtain ⟨rfl, rfl⟩ : bp = b2 ∧ o = o2 := by simpa using e3
  subst e2
  have := nil_cell hb (h2 0 hn)
  cases this
set_option maxRecDepth 100000 in
set_option maxHeartbeats 8000000 in
theorem l_hull (w : World) (p : ArP) (D : ArD) (A1 A2 B1 B2 : Option Addr) (na ca ma da nb cb mb db : Nat) (al ah bl bh : Nat → Int) (hR : ArR w p D) (ha1 : IntsAt w A1 na al) (ha2 : IntsAt w A2 ma ah) (hb1 : IntsAt w B1 nb bl) (hb2 : IntsAt w B2 mb bh) (hw : WorksAt w) :
    Calls Tryz.prog 8 #[p.val D.n D.m D.N, BoxW A1 A2 na ca ma da, BoxW B1 B2 nb cb mb db] w fun e w' => e = .returned (.bool true) ∧ Below w.heap.size w w' := by
  have HW := Lib.hid hw
  have HF : Hid (∀ W, Below w.heap.size w W → Calls Tryz.prog 40 #[p.val D.n D.m D.N, .int .i64 60] W fun e w' => (e = .returned (.bool false) ∨ e = .returned (.bool true) ∧ FewD D 60) ∧ Below W.heap.size W w') := fun W hW => al_Few W p D 60 (hR.below hW) (by decide)
  have HOk : Hid (FewD D 60 → ArAt w p D ∧ ArOk D) := fun hf => hR.ok hf (by decide)
  have HA := Lib.hid (And.intro ha1 ha2)
  have HB := Lib.hid (And.intro hb1 hb2)
  have HT1 := Lib.hid (arr_box w (.slice p.A D.n p.cap) (.slice p.B D.m p.bcap) (.slice p.C D.N p.ccap) 29)
  have HT2 := Lib.hid (cel_box (w.alloc (.cells #[.slice p.A D.n p.cap, .slice p.B D.m p.bcap, .slice p.C D.N p.ccap] 29)) (.slice A1 na ca) (.slice A2 ma da) 66)
  have HT3 := Lib.hid (cel_box ((w.alloc (.cells #[.slice p.A D.n p.cap, .slice p.B D.m p.bcap, .slice p.C D.N p.ccap] 29)).alloc (.cells #[.slice A1 na ca, .slice A2 ma da] 66)) (.slice B1 nb cb) (.slice B2 mb db) 66)
  have hz1 : (w.alloc (.cells #[.slice p.A D.n p.cap, .slice p.B D.m p.bcap, .slice p.C D.N p.ccap] 29)).heap.size = w.heap.size + 1 := by simp
  have hz2 : ((w.alloc (.cells #[.slice p.A D.n p.cap, .slice p.B D.m p.bcap, .slice p.C D.N p.ccap] 29)).alloc (.cells #[.slice A1 na ca, .slice A2 ma da] 66)).heap.size = w.heap.size + 2 := by simp
  have hz3 : (((w.alloc (.cells #[.slice p.A D.n p.cap, .slice p.B D.m p.bcap, .slice p.C D.N p.ccap] 29)).alloc (.cells #[.slice A1 na ca, .slice A2 ma da] 66)).alloc (.cells #[.slice B1 nb cb, .slice B2 mb db] 66)).heap.size = w.heap.size + 3 := by simp
  have HB0 : Hid (Below w.heap.size w (((w.alloc (.cells #[.slice p.A D.n p.cap, .slice p.B D.m p.bcap, .slice p.C D.N p.ccap] 29)).alloc (.cells #[.slice A1 na ca, .slice A2 ma da] 66)).alloc (.cells #[.slice B1 nb cb, .slice B2 mb db] 66))) := (((Below.refl _ _).alloc (Nat.le_refl _) _).alloc (by simp) _).alloc (by simp; omega) _
  have HT : Hid (∀ W, Below (w.heap.size + 3) (((w.alloc (.cells #[.slice p.A D.n p.cap, .slice p.B D.m p.bcap, .slice p.C D.N p.ccap] 29)).alloc (.cells #[.slice A1 na ca, .slice A2 ma da] 66)).alloc (.cells #[.slice B1 nb cb, .slice B2 mb db] 66)) W → (W.cell? ⟨w.heap.size, 0, none⟩ = some (.slice p.A D.n p.cap) ∧ W.cell? ⟨w.heap.size, 1, none⟩ = some (.slice p.B D.m p.bcap) ∧ W.cell? ⟨w.heap.size, 2, none⟩ = some (.slice p.C D.N p.ccap)) ∧ (W.cell? ⟨w.heap.size + 1, 0, none⟩ = some (.slice A1 na ca) ∧ W.cell? ⟨w.heap.size + 1, 1, none⟩ = some (.slice A2 ma da)) ∧ W.cell? ⟨w.heap.size + 2, 0, none⟩ = some (.slice B1 nb cb) ∧ W.cell? ⟨w.heap.size + 2, 1, none⟩ = some (.slice B2 mb db)) := fun W hW => by
    have h3 := hW
    rw [← hz3] at h3
    have h2 := HT2.out W (st (bel_nw _ _) h3)
    have h4 := HT3.out W h3
    rw [hz1] at h2
    rw [hz2] at h4
    exact ⟨HT1.out W (st (bel_nw _ _) (st (bel_nw _ _) h3)), h2, h4⟩
  clear HT1 HT2 HT3 hz1 hz2 hw hR ha1 ha2 hb1 hb2
  obtain ⟨⟨m0, m1, m2⟩, ⟨m3, m4⟩, m5, m6⟩ := HT.out _ (Below.refl _ _)
  go_enter Tryz.func8, Tryz.ntmps8
  go_wp2_with fail
  clear m0 m1 m2 m3 m4 m5 m6
  generalize hW0 : (((w.alloc (.cells #[.slice p.A D.n p.cap, .slice p.B D.m p.bcap, .slice p.C D.N p.ccap] 29)).alloc (.cells #[.slice A1 na ca, .slice A2 ma da] 66)).alloc (.cells #[.slice B1 nb cb, .slice B2 mb db] 66)) = W0 at *
  clear hW0
  refine (HF.out _ HB0.out).mono ?_
  rintro e w1 ⟨he, hb1⟩
  rw [hz3] at hb1
  have HC1 : Hid (Below (w.heap.size + 3) W0 w1) := hb1
  have HV1 : Hid (Below w.heap.size w w1) := HB0.out.trans (hb1.mono (by omega))
  clear hb1 HF
  obtain ⟨⟨m0, m1, m2⟩, ⟨m3, m4⟩, m5, m6⟩ := HT.out w1 HC1.out
  rcases he with rfl | ⟨rfl, hf⟩
  · go_wp2_with fail
    refine (HW.out _ HV1.out).mono ?_
    rintro e u ⟨rfl, hb⟩
    go_wp2
    go_ret
    exact ⟨rfl, st HV1.out hb⟩
  · by_cases hna : (na : Int) > 10
    · go_wp2_with fail
      refine (HW.out _ HV1.out).mono ?_
      rintro e u ⟨rfl, hb⟩
      go_wp2
      go_ret
      exact ⟨rfl, st HV1.out hb⟩
    · by_cases hma : (ma : Int) > 10
      · go_wp2_with fail
        refine (HW.out _ HV1.out).mono ?_
        rintro e u ⟨rfl, hb⟩
        go_wp2
        go_ret
        exact ⟨rfl, st HV1.out hb⟩
      · by_cases hnb : (nb : Int) > 10
        · go_wp2_with fail
          refine (HW.out _ HV1.out).mono ?_
          rintro e u ⟨rfl, hb⟩
          go_wp2
          go_ret
          exact ⟨rfl, st HV1.out hb⟩
        · by_cases hmb : (mb : Int) > 10
          · go_wp2_with fail
            refine (HW.out _ HV1.out).mono ?_
            rintro e u ⟨rfl, hb⟩
            go_wp2
            go_ret
            exact ⟨rfl, st HV1.out hb⟩
          · obtain ⟨ha, ho⟩ := HOk.out hf
            have HAr := Lib.hid ha
            have HOk := Lib.hid ho
            have hsz : (na ≤ 10 ∧ ma ≤ 10) ∧ nb ≤ 10 ∧ mb ≤ 10 := by omega
            clear hf ha ho
            have HCk : Hid (∀ W, Below w.heap.size w W → Calls Tryz.prog 16 #[p.val D.n D.m D.N] W fun e w' => e = .returned (.int .i64 D.check) ∧ Below W.heap.size W w') := fun W hW => as_Check W p D (HAr.out.below hW) HOk.out
            obtain ⟨ck, hck⟩ : ∃ ck, D.check = ck := ⟨_, rfl⟩
            rw [hck] at HCk
            have HK := Lib.hid hck
            clear hck
            go_wp2_with fail
            clear m0 m1 m2 m3 m4 m5 m6
            refine (HCk.out _ HV1.out).mono ?_
            rintro e w2 ⟨rfl, hb2⟩
            have HC2 : Hid (Below (w.heap.size + 3) W0 w2) := HC1.out.trans (hb2.mono (by rw [← hz3]; exact HC1.out.size))
            have HV2 : Hid (Below w.heap.size w w2) := st HV1.out hb2
            clear hb2 HCk HC1 HV1
            obtain ⟨⟨m0, m1, m2⟩, ⟨m3, m4⟩, m5, m6⟩ := HT.out w2 HC2.out
            by_cases hk0 : ck = 0
            · subst hk0
              have HKc : Hid (D.check = 0) := HK.out
              by_cases hN : D.N = 0
              · have HNz := Lib.hid hN
                clear hN
                go_wp2_with fail
                clear m0 m1 m2 m3 m4 m5 m6
                refine (s_Hull w2 p D (HAr.out.below HV2.out) HOk.out).mono ?_
                rintro e w3 ⟨⟨P, Q, k, c9, d9, rfl, -, -, -⟩, hb3⟩
                have hhb : hullB D = false := by unfold hullB; rw [HKc.out]; simp [HNz.out]
                rw [hhb]
                have B3 := bel_nw w3 (.cells #[.slice P k c9, .slice Q k d9] 66)
                have hb3' := st hb3 B3
                have HC5 : Hid (Below (w.heap.size + 3) W0 (w3.alloc (.cells #[.slice P k c9, .slice Q k d9] 66))) := HC2.out.trans (hb3'.mono (by rw [← hz3]; exact HC2.out.size))
                obtain ⟨⟨m0, m1, m2⟩, ⟨m3, m4⟩, m5, m6⟩ := HT.out _ HC5.out
                rw [HNz.out] at m2
                clear hb3 hb3' hhb B3
                go_wp2_with fail
                clear m0 m1 m2 m3 m4 m5 m6
                generalize w3.alloc (.cells #[.slice P k c9, .slice Q k d9] 66) = v3 at *
                go_loopw [15, 16, 17] (fun i _ _ wr => ∃ k : Nat, k ≤ D.N ∧ i = .int .i64 k ∧ Hid (Below (w.heap.size + 3) W0 wr)) (fun i _ _ _ => D.N - (intOf i).toNat)
                case atStart => exact ⟨0, Nat.zero_le _, rfl, HC5.out⟩
                case round =>
                  obtain ⟨k, hk, rfl, HBr⟩ := hrel
                  have HWr : Hid (Below w.heap.size w wr) := HB0.out.trans (HBr.out.mono (by omega))
                  have hzr : w.heap.size + 3 ≤ wr.heap.size := by rw [← hz3]; exact HBr.out.size
                  have hlt : ¬ k < D.N := by have := HNz.out; omega
                  obtain rfl : k = D.N := by omega
                  obtain ⟨⟨m0, m1, m2⟩, ⟨m3, m4⟩, m5, m6⟩ := HT.out wr HBr.out
                  clear hlt hzr
                  go_wp2_with fail
                  clear m0 m1 m2 m3 m4 m5 m6
                  refine (s_Cut wr p D A1 A2 na ca ma da al ah (HAr.out.below HWr.out) HOk.out (HA.out.1.below HWr.out) (HA.out.2.below HWr.out) (by omega)).mono ?_
                  rintro e w6 ⟨⟨q2, E2, rfl, hE2, hEe2⟩, hb6⟩
                  have B6 := bel_nw w6 (q2.obj E2.n E2.m E2.N)
                  have hb6' := st hb6 B6
                  have HC6 : Hid (Below (w.heap.size + 3) W0 (w6.alloc (q2.obj E2.n E2.m E2.N))) := HBr.out.trans (hb6'.mono (by rw [← hz3]; exact HBr.out.size))
                  have HV6 : Hid (Below w.heap.size w (w6.alloc (q2.obj E2.n E2.m E2.N))) := st HWr.out hb6'
                  have HA6 : Hid (ArAt (w6.alloc (q2.obj E2.n E2.m E2.N)) q2 E2) := hE2.below B6
                  have HX6 := Lib.hid (arr_box w6 (.slice q2.A E2.n q2.cap) (.slice q2.B E2.m q2.bcap) (.slice q2.C E2.N q2.ccap) 29)
                  have HEe2 := Lib.hid hEe2
                  clear hb6 hb6' B6 hE2 hEe2 HBr HWr
                  obtain ⟨⟨m0, m1, m2⟩, ⟨m3, m4⟩, m5, m6⟩ := HT.out _ HC6.out
                  rcases cutE_ok (nb := na) (mb := ma) HKc.out with ⟨h0, hna, hma⟩ | h13
                  rotate_left
                  · rw [h13]
                    clear h13
                    go_wp2_with fail
                    refine (HW.out _ HV6.out).mono ?_
                    rintro e u ⟨rfl, hb⟩
                    go_wp2
                    go_ret
                    exact ⟨rfl, st HV6.out hb⟩
                  · have HEq2 : Hid (E2 = cutY D D.n D.n al ah) := by show E2 = _; rw [HEe2.out, ← cutD_eq (by rw [← h0, hna, hma]), hna, hma]
                    have HEk : Hid (E2.check = 0 ∧ ArOk E2 ∧ E2.n = D.n) := by
                      show _ ∧ _
                      rw [HEq2.out]
                      exact ⟨check_pick HKc.out _, by rw [← cutD_eq (by rw [← h0, hna, hma])]; exact cut_ok HOk.out, rfl⟩
                    have HNa : Hid (na = D.n ∧ ma = D.n) := ⟨hna, hma⟩
                    rw [h0]
                    clear h0 hna hma HEe2
                    go_wp2_with fail
                    clear m0 m1 m2 m3 m4 m5 m6
                    generalize w6.alloc (.cells #[.slice q2.A E2.n q2.cap, .slice q2.B E2.m q2.bcap, .slice q2.C E2.N q2.ccap] 29) = v6 at *
                    generalize w6.heap.size = z6 at *
                    refine (s_Cut v6 q2 E2 B1 B2 nb cb mb db bl bh HA6.out HEk.out.2.1 (HB.out.1.below HV6.out) (HB.out.2.below HV6.out) (by omega)).mono ?_
                    rintro e w7 ⟨⟨q3, E3, rfl, hE3, hEe3⟩, hb7⟩
                    have B7 := bel_nw w7 (q3.obj E3.n E3.m E3.N)
                    have hb7' := st hb7 B7
                    have HC7 : Hid (Below (w.heap.size + 3) W0 (w7.alloc (q3.obj E3.n E3.m E3.N))) := HC6.out.trans (hb7'.mono (by rw [← hz3]; exact HC6.out.size))
                    have HV7 : Hid (Below w.heap.size w (w7.alloc (q3.obj E3.n E3.m E3.N))) := st HV6.out hb7'
                    have HA7 : Hid (ArAt (w7.alloc (q3.obj E3.n E3.m E3.N)) q3 E3) := hE3.below B7
                    have HX7 := Lib.hid (arr_box w7 (.slice q3.A E3.n q3.cap) (.slice q3.B E3.m q3.bcap) (.slice q3.C E3.N q3.ccap) 29)
                    have HEe3 := Lib.hid hEe3
                    clear hb7 hb7' B7 hE3 hEe3
                    obtain ⟨⟨m0, m1, m2⟩, ⟨m3, m4⟩, m5, m6⟩ := HT.out _ HC7.out
                    rcases cutE_ok (nb := nb) (mb := mb) HEk.out.1 with ⟨h0, hna, hma⟩ | h13
                    rotate_left
                    · rw [h13]
                      clear h13
                      go_wp2_with fail
                      refine (HW.out _ HV7.out).mono ?_
                      rintro e u ⟨rfl, hb⟩
                      go_wp2
                      go_ret
                      exact ⟨rfl, st HV7.out hb⟩
                    · have HEq3 : Hid (E3 = cutY (cutY D D.n D.n al ah) D.n D.n bl bh) := by
                        have h9 : nb = D.n := hna.trans HEk.out.2.2
                        have h8 : mb = D.n := hma.trans HEk.out.2.2
                        show E3 = _
                        rw [HEe3.out, cutD_eq h0, h9, h8, HEq2.out]
                      have HE3o : Hid (ArOk E3) := by show ArOk E3; rw [HEe3.out]; exact cut_ok HEk.out.2.1
                      have HNb : Hid (nb = D.n ∧ mb = D.n) := ⟨hna.trans HEk.out.2.2, hma.trans HEk.out.2.2⟩
                      rw [h0]
                      clear h0 hna hma HEe3
                      go_wp2_with fail
                      clear m0 m1 m2 m3 m4 m5 m6
                      generalize w7.alloc (.cells #[.slice q3.A E3.n q3.cap, .slice q3.B E3.m q3.bcap, .slice q3.C E3.N q3.ccap] 29) = v7 at *
                      generalize w7.heap.size = z7 at *
                      have HIn : Hid (Calls Tryz.prog 44 #[BoxW A1 A2 na ca ma da, BoxW B1 B2 nb cb mb db] v7 fun e' w' => ∃ P Q k, e' = .returned (.tuple #[BoxW P Q k k k k, .bool (intTo al ah bl bh D.n)]) ∧ k = cntB (intTo al ah bl bh D.n) D.n ∧ IntsAt w' P k (intLo al bl) ∧ IntsAt w' Q k (intHi ah bh) ∧ Below v7.heap.size v7 w') := by
                        obtain ⟨e1, e2⟩ := HNa.out
                        obtain ⟨e3, e4⟩ := HNb.out
                        have a1 := HA.out.1.below HV7.out
                        have a2 := HA.out.2.below HV7.out
                        have b1 := HB.out.1.below HV7.out
                        have b2 := HB.out.2.below HV7.out
                        rw [e1] at a1
                        rw [e2] at a2
                        rw [e3] at b1
                        rw [e4] at b2
                        show Calls _ _ _ _ _
                        rw [e1, e2, e3, e4]
                        exact s_Inter_ok v7 A1 A2 B1 B2 D.n ca da cb db al ah bl bh a1 a2 b1 b2 (check_n HKc.out).1 (check_n HKc.out).2
                      refine HIn.out.mono ?_
                      rintro e w8 ⟨P, Q, kk, rfl, hkk, i1, i2, hb8⟩
                      have HHb : Hid (hkk = hkk) := rfl
                      have B8 := bel_nw w8 (.cells #[.slice P kk kk, .slice Q kk kk] 66)
                      have hb8' := st hb8 B8
                      have HC8 : Hid (Below (w.heap.size + 3) W0 (w8.alloc (.cells #[.slice P kk kk, .slice Q kk kk] 66))) := HC7.out.trans (hb8'.mono (by rw [← hz3]; exact HC7.out.size))
                      have HV8 : Hid (Below w.heap.size w (w8.alloc (.cells #[.slice P kk kk, .slice Q kk kk] 66))) := st HV7.out hb8'
                      have HI8 : Hid (IntsAt (w8.alloc (.cells #[.slice P kk kk, .slice Q kk kk] 66)) P kk (intLo al bl) ∧ IntsAt (w8.alloc (.cells #[.slice P kk kk, .slice Q kk kk] 66)) Q kk (intHi ah bh)) := ⟨i1.below B8, i2.below B8⟩
                      have HX8 := Lib.hid (cel_box w8 (.slice P kk kk) (.slice Q kk kk) 66)
                      have HZ8 : Hid (Below v7.heap.size v7 (w8.alloc (.cells #[.slice P kk kk, .slice Q kk kk] 66))) := hb8'
                      have HKK := Lib.hid hkk
                      clear hb8 hb8' B8 i1 i2 HIn HHb hkk
                      obtain ⟨⟨m0, m1, m2⟩, ⟨m3, m4⟩, m5, m6⟩ := HT.out _ HC8.out
                      cases hit : intTo al ah bl bh D.n
                      · have hz9 : E3.N = 0 := by rw [HEq3.out]; exact cut_none HKc.out al ah bl bh hit
                        obtain ⟨n0, n1, n2⟩ := HX7.out _ HZ8.out
                        rw [hz9] at n2
                        clear hit hz9
                        go_wp2_with fail
                        refine (HW.out _ HV8.out).mono ?_
                        rintro e u ⟨rfl, hb⟩
                        go_wp2
                        go_ret
                        exact ⟨rfl, st HV8.out hb⟩
                      · have hkk : kk = D.n := by rw [HKK.out, hit]; rfl
                        subst hkk
                        clear hit HKK
                        obtain ⟨n0, n1⟩ := HX8.out _ (Below.refl _ _)
                        go_wp2_with fail
                        clear m0 m1 m2 m3 m4 m5 m6 n0 n1
                        generalize w8.alloc (.cells #[.slice P D.n D.n, .slice Q D.n D.n] 66) = v8 at *
                        generalize w8.heap.size = z8 at *
                        refine (s_Cut v8 p D P Q D.n D.n D.n D.n _ _ (HAr.out.below HV8.out) HOk.out HI8.out.1 HI8.out.2 (by have := HOk.out.n1; omega)).mono ?_
                        rintro e w9 ⟨⟨q4, E4, rfl, hE4, hEe4⟩, hb9⟩
                        rw [cutE_zero HKc.out]
                        have B9 := bel_nw w9 (q4.obj E4.n E4.m E4.N)
                        have hb9' := st hb9 B9
                        have HC9 : Hid (Below (w.heap.size + 3) W0 (w9.alloc (q4.obj E4.n E4.m E4.N))) := HC8.out.trans (hb9'.mono (by rw [← hz3]; exact HC8.out.size))
                        have HV9 : Hid (Below w.heap.size w (w9.alloc (q4.obj E4.n E4.m E4.N))) := st HV8.out hb9'
                        have HA9 : Hid (ArAt (w9.alloc (q4.obj E4.n E4.m E4.N)) q4 E4) := hE4.below B9
                        have HZ9 : Hid (Below v7.heap.size v7 (w9.alloc (q4.obj E4.n E4.m E4.N))) := st HZ8.out hb9'
                        have HSm : Hid (sameAr E3 E4 = true ∧ ArOk E4) := by
                          show _ ∧ _
                          rw [hEe4, HEq3.out, cutD_eq (cutE_zero HKc.out)]
                          exact ⟨cut_two HKc.out al ah bl bh, by rw [← cutD_eq (cutE_zero HKc.out)]; exact cut_ok HOk.out⟩
                        have HX9 := Lib.hid (arr_box w9 (.slice q4.A E4.n q4.cap) (.slice q4.B E4.m q4.bcap) (.slice q4.C E4.N q4.ccap) 29)
                        obtain ⟨n0, n1, n2⟩ := HX9.out _ (Below.refl _ _)
                        obtain ⟨o0, o1, o2⟩ := HX7.out _ HZ9.out
                        clear hb9 hb9' B9 hE4 hEe4
                        go_wp2_with fail
                        clear n0 n1 n2 o0 o1 o2
                        generalize w9.alloc (.cells #[.slice q4.A E4.n q4.cap, .slice q4.B E4.m q4.bcap, .slice q4.C E4.N q4.ccap] 29) = v9 at *
                        refine (as_Same v9 q3 q4 E3 E4 (HA7.out.below HZ9.out) HE3o.out HA9.out HSm.out.2).mono ?_
                        rintro e w10 ⟨rfl, hb10⟩
                        rw [HSm.out.1]
                        have HV10 : Hid (Below w.heap.size w w10) := st HV9.out hb10
                        go_wp2_with fail
                        refine (HW.out _ HV10.out).mono ?_
                        rintro e u ⟨rfl, hb⟩
                        go_wp2
                        go_ret
                        exact ⟨rfl, st HV10.out hb⟩
              · have hNp : 0 < D.N := by omega
                go_wp2_with fail
                clear m0 m1 m2 m3 m4 m5 m6
                refine (s_Hull w2 p D (HAr.out.below HV2.out) HOk.out).mono ?_
                rintro e w3 ⟨⟨P, Q, k, c9, d9, rfl, hk, i1, i2⟩, hb3⟩
                have hhb : hullB D = true := by unfold hullB; rw [HKc.out]; simp [hNp]
                rw [if_pos hhb] at hk
                subst hk
                rw [hhb]
                have B3 := bel_nw w3 (.cells #[.slice P D.n c9, .slice Q D.n d9] 66)
                have hb3' := st hb3 B3
                have HC3 : Hid (Below (w.heap.size + 3) W0 (w3.alloc (.cells #[.slice P D.n c9, .slice Q D.n d9] 66))) := HC2.out.trans (hb3'.mono (by rw [← hz3]; exact HC2.out.size))
                have HV3 : Hid (Below w.heap.size w (w3.alloc (.cells #[.slice P D.n c9, .slice Q D.n d9] 66))) := st HV2.out hb3'
                have HI3 : Hid (IntsAt (w3.alloc (.cells #[.slice P D.n c9, .slice Q D.n d9] 66)) P D.n (hLo D.c.x D.N) ∧ IntsAt (w3.alloc (.cells #[.slice P D.n c9, .slice Q D.n d9] 66)) Q D.n (hHi D.c.x D.N)) := ⟨i1.below B3, i2.below B3⟩
                have HX3 := Lib.hid (cel_box w3 (.slice P D.n c9) (.slice Q D.n d9) 66)
                obtain ⟨n0, n1⟩ := HX3.out _ (Below.refl _ _)
                obtain ⟨⟨m0, m1, m2⟩, ⟨m3, m4⟩, m5, m6⟩ := HT.out _ HC3.out
                clear hb3 hb3' hhb i1 i2 B3
                go_wp2_with fail
                clear m0 m1 m2 m3 m4 m5 m6 n0 n1
                generalize w3.alloc (.cells #[.slice P D.n c9, .slice Q D.n d9] 66) = v3 at *
                refine (s_Cut v3 p D P Q D.n c9 D.n d9 _ _ (HAr.out.below HV3.out) HOk.out HI3.out.1 HI3.out.2 (by have := HOk.out.n1; omega)).mono ?_
                rintro e w4 ⟨⟨q, E, rfl, hE, hEe⟩, hb4⟩
                rw [cutE_zero HKc.out]
                have HSm : Hid (sameAr D E = true) := by show _ = _; rw [hEe]; exact hull_same HKc.out
                have HEo : Hid (ArOk E) := by show ArOk E; rw [hEe]; exact cut_ok HOk.out
                have B4 := bel_nw w4 (q.obj E.n E.m E.N)
                have hb4' := st hb4 B4
                have HC4 : Hid (Below (w.heap.size + 3) W0 (w4.alloc (q.obj E.n E.m E.N))) := HC3.out.trans (hb4'.mono (by rw [← hz3]; exact HC3.out.size))
                have HV4 : Hid (Below w.heap.size w (w4.alloc (q.obj E.n E.m E.N))) := st HV3.out hb4'
                have HA4 : Hid (ArAt (w4.alloc (q.obj E.n E.m E.N)) q E) := hE.below B4
                have HX4 := Lib.hid (arr_box w4 (.slice q.A E.n q.cap) (.slice q.B E.m q.bcap) (.slice q.C E.N q.ccap) 29)
                obtain ⟨n0, n1, n2⟩ := HX4.out _ (Below.refl _ _)
                obtain ⟨⟨m0, m1, m2⟩, ⟨m3, m4⟩, m5, m6⟩ := HT.out _ HC4.out
                clear hb4 hb4' B4 hE hEe
                go_wp2_with fail
                clear m0 m1 m2 m3 m4 m5 m6 n0 n1 n2
                generalize w4.alloc (.cells #[.slice q.A E.n q.cap, .slice q.B E.m q.bcap, .slice q.C E.N q.ccap] 29) = v4 at *
                refine (as_Same v4 p q D E (HAr.out.below HV4.out) HOk.out HA4.out HEo.out).mono ?_
                rintro e w5 ⟨rfl, hb5⟩
                rw [HSm.out]
                have HC5 : Hid (Below (w.heap.size + 3) W0 w5) := HC4.out.trans (hb5.mono (by rw [← hz3]; exact HC4.out.size))
                have HV5 : Hid (Below w.heap.size w w5) := st HV4.out hb5
                obtain ⟨⟨m0, m1, m2⟩, ⟨m3, m4⟩, m5, m6⟩ := HT.out _ HC5.out
                clear hb5 HC4 HV4 HA4 HX4 HEo HSm HX3 HI3 HC3 HV3
                go_wp2_with fail
                clear m0 m1 m2 m3 m4 m5 m6
                go_loopw [15, 16, 17] (fun i _ _ wr => ∃ k : Nat, k ≤ D.N ∧ i = .int .i64 k ∧ Hid (Below (w.heap.size + 3) W0 wr)) (fun i _ _ _ => D.N - (intOf i).toNat)
                case atStart => exact ⟨0, Nat.zero_le _, rfl, HC5.out⟩
                case round =>
                  obtain ⟨k, hk, rfl, HBr⟩ := hrel
                  have HWr : Hid (Below w.heap.size w wr) := HB0.out.trans (HBr.out.mono (by omega))
                  have hzr : w.heap.size + 3 ≤ wr.heap.size := by rw [← hz3]; exact HBr.out.size
                  obtain ⟨⟨m0, m1, m2⟩, -⟩ := HT.out wr HBr.out
                  by_cases hlt : k < D.N
                  · obtain ⟨bc, oc, hCe, hbc, hcc⟩ := HAr.out.cells (by omega)
                    obtain ⟨P0, pc, Q0, qc0, x0', x1', x2, x3, x4⟩ := hcc k hlt
                    rw [check_ln HKc.out hlt] at x0' x2
                    have HX0 : Hid (∀ W, Below w.heap.size w W → W.cell? ⟨bc, oc + k * 2, none⟩ = some (.slice P0 D.n pc)) := fun W hW => (hW.cell (p := ⟨bc, oc + k * 2, none⟩) hbc).trans x0'
                    have HX2 := Lib.hid x2
                    have HCeq := Lib.hid hCe
                    have HKe : Hid (∀ W, Below wr.heap.size wr W → (W.cell? ⟨w.heap.size, 0, none⟩ = some (.slice p.A D.n p.cap) ∧ W.cell? ⟨w.heap.size, 1, none⟩ = some (.slice p.B D.m p.bcap) ∧ W.cell? ⟨w.heap.size, 2, none⟩ = some (.slice (some ⟨bc, oc, none⟩) D.N p.ccap)) ∧ W.cell? ⟨bc, oc + k * 2, none⟩ = some (.slice P0 D.n pc)) := fun W hW => by
                      have h9 := (HT.out W (HBr.out.trans (hW.mono hzr))).1
                      rw [← hCe]
                      exact ⟨h9, HX0.out W (st HWr.out hW)⟩
                    have HCu : Hid (∀ W, Below wr.heap.size wr W → Calls Tryz.prog 41 #[ArrV p.A D.n p.cap p.B D.m p.bcap (some ⟨bc, oc, none⟩) D.N p.ccap, BoxW P0 P0 D.n pc D.n pc] W fun e w' => (∃ q : ArP, e = .returned (.tuple #[q.val D.n D.m 1, .int .i64 0]) ∧ ArAt w' q (cutY D D.n D.n (D.c.x k) (D.c.x k))) ∧ Below W.heap.size W w') := fun W hW => by
                      rw [← hCe]
                      refine (s_Cut W p D P0 P0 D.n pc D.n pc (D.c.x k) (D.c.x k) (HAr.out.below (st HWr.out hW)) HOk.out (x2.below (st HWr.out hW)) (x2.below (st HWr.out hW)) (by have := HOk.out.n1; omega)).mono ?_
                      rintro e w' ⟨⟨q, E, rfl, h2, rfl⟩, hb⟩
                      rw [cutD_eq (cutE_zero HKc.out)] at h2 ⊢
                      rw [cutE_zero HKc.out]
                      have h3 : (cutY D D.n D.n (D.c.x k) (D.c.x k)).N = 1 := (lone_cell HKc.out hlt).1
                      exact ⟨⟨q, by rw [h3]; rfl, h2⟩, hb⟩
                    clear hcc x0' x1' x2 x3 x4
                    obtain ⟨⟨m0', m1', m2'⟩, x0⟩ := HKe.out wr (Below.refl _ _)
                    have B0d : Below wr.heap.size wr wr.drew := Below.drew (Below.refl _ _)
                    have hk0 : (0 : Int) ≤ (k : Int) := by omega
                    have hkN : (k : Int) < (D.N : Int) := by omega
                    rw [hCe] at m2
                    clear hCe m0' m1' m2'
                    go_wp2_with fail
                    go_region_held3 (fun W => (W.cell? ⟨w.heap.size, 0, none⟩ = some (.slice p.A D.n p.cap) ∧ W.cell? ⟨w.heap.size, 1, none⟩ = some (.slice p.B D.m p.bcap) ∧ W.cell? ⟨w.heap.size, 2, none⟩ = some (.slice (some ⟨bc, oc, none⟩) D.N p.ccap)) ∧ W.cell? ⟨bc, oc + k * 2, none⟩ = some (.slice P0 D.n pc))
                      (first | exact HKe.out _ (((D1.setCell (p := ⟨wr.heap.size, 0, none⟩) (Nat.le_refl _) _).setCell (p := ⟨wr.heap.size, 1, none⟩) (Nat.le_refl _) _).setCell (p := ⟨wr.heap.size, 2, none⟩) (Nat.le_refl _) _) | exact HKe.out _ D1 | exact HKe.out _ (bAl D1) | exact HKe.out _ B0d | exact HKe.out _ (bDr (bAl (Below.refl _ _))) | exact HKe.out _ (Below.refl _ _))
                      (first
                        | (go_at_call 41; refine (HCu.out _ B0d).mono ?_; rintro e w6 ⟨⟨q6, rfl, hq6⟩, hb6⟩; have D1 : Below wr.heap.size wr w6 := st B0d hb6)
                        | (go_at_call 41; refine (HCu.out _ (bDr (bAl (Below.refl _ _)))).mono ?_; rintro e w6 ⟨⟨q6, rfl, hq6⟩, hb6⟩; have D1 : Below wr.heap.size wr w6 := st (bDr (bAl (Below.refl _ _))) hb6; have hx6 := (hb6.block wr.heap.size (by show wr.heap.size < (wr.alloc (.cells #[.slice none 0 0, .slice none 0 0, .slice none 0 0] 29)).heap.size; simp)).trans (heap_alloc_new wr _); obtain ⟨⟨y0, y1, y2⟩, z0, z1, z2⟩ := three_at hx6))
                    all_goals
                      have HYc : Hid ((cutY D D.n D.n (D.c.x k) (D.c.x k)).c = D.c.pick (pickI (inBox D D.n D.n (D.c.x k) (D.c.x k)) D.N) ∧ (cutY D D.n D.n (D.c.x k) (D.c.x k)).N = 1 ∧ pickI (inBox D D.n D.n (D.c.x k) (D.c.x k)) D.N 0 = k) := ⟨rfl, (lone_cell HKc.out hlt).1, (lone_cell HKc.out hlt).2⟩
                      have hces : CeAt w6 q6.C 1 (D.c.pick (pickI (inBox D D.n D.n (D.c.x k) (D.c.x k)) D.N)) := by
                        have := hq6.cells
                        rw [HYc.out.1, HYc.out.2.1] at this
                        exact this
                      obtain ⟨by_, oy, hCy, hby, hcy⟩ := hces (by decide)
                      obtain ⟨Py, py, Qy, qy, y3, y4, y5, -, -⟩ := hcy 0 (by decide)
                      have hpk := HYc.out.2.2
                      simp only [CeD.pick, hpk] at y3 y5
                      rw [check_ln HKc.out hlt] at y3 y5
                      rw [Nat.zero_mul, Nat.add_zero] at y3
                      clear hcy hces hpk hq6 y4
                    · have E1 := heap_alloc_new w6 (.cells #[.slice q6.A D.n q6.cap, .slice q6.B D.m q6.bcap, .slice q6.C 1 q6.ccap] 29)
                      have E2 : Below wr.heap.size wr (w6.alloc (.cells #[.slice q6.A D.n q6.cap, .slice q6.B D.m q6.bcap, .slice q6.C 1 q6.ccap] 29)) := bAl D1
                      have E3 := ((bel_nw w6 (.cells #[.slice q6.A D.n q6.cap, .slice q6.B D.m q6.bcap, .slice q6.C 1 q6.ccap] 29)).cell (p := ⟨by_, oy, none⟩) hby).trans y3
                      have E4 := y5.below (bel_nw w6 (.cells #[.slice q6.A D.n q6.cap, .slice q6.B D.m q6.bcap, .slice q6.C 1 q6.ccap] 29))
                      clear y3 y5 hby D1
                      generalize w6.alloc (.cells #[.slice q6.A D.n q6.cap, .slice q6.B D.m q6.bcap, .slice q6.C 1 q6.ccap] 29) = V at *
                      have HE2 := Lib.hid E2
                      have HE1 : Hid (∀ W, Below V.heap.size V W → (W.cell? ⟨w6.heap.size, 0, none⟩ = some (.slice q6.A D.n q6.cap) ∧ W.cell? ⟨w6.heap.size, 1, none⟩ = some (.slice q6.B D.m q6.bcap) ∧ W.cell? ⟨w6.heap.size, 2, none⟩ = some (.slice (some ⟨by_, oy, none⟩) 1 q6.ccap)) ∧ W.cell? ⟨by_, oy, none⟩ = some (.slice Py D.n py) ∧ (W.cell? ⟨w.heap.size, 0, none⟩ = some (.slice p.A D.n p.cap) ∧ W.cell? ⟨w.heap.size, 1, none⟩ = some (.slice p.B D.m p.bcap) ∧ W.cell? ⟨w.heap.size, 2, none⟩ = some (.slice (some ⟨bc, oc, none⟩) D.N p.ccap)) ∧ W.cell? ⟨bc, oc + k * 2, none⟩ = some (.slice P0 D.n pc)) := fun W hW => by
                        have g := (three_at ((hW.block _ (Array.getElem?_eq_some_iff.1 E1).1).trans E1)).1
                        rw [hCy] at g
                        exact ⟨g, (hW.cell (p := ⟨by_, oy, none⟩) (cell_lt E3)).trans E3, HKe.out W (st HE2.out hW)⟩
                      have HEq : Hid (∀ W, Below V.heap.size V W → Calls Tryz.prog 43 #[.slice Py D.n py, .slice P0 D.n pc] W fun e w' => e = .returned (.bool true) ∧ Below W.heap.size W w') := fun W hW => (l_equal2 W Py P0 D.n py D.n pc _ _ (E4.below hW) (HX2.out.below (st HWr.out (st HE2.out hW))) (by have := HOk.out.n1; omega) (by have := HOk.out.n1; omega)).mono fun e w' h => by rw [sameZ_refl] at h; exact h
                      clear E1 E2 E3 E4
                      obtain ⟨⟨t0, t1, t2⟩, t3, ⟨m0, m1, m2⟩, x0⟩ := HE1.out V (Below.refl _ _)
                      have h01 : (0 : Nat) < 1 := by decide
                      have BVd : Below V.heap.size V V.drew := Below.drew (Below.refl _ _)
                      go_wp2_with fail
                      go_region_held3 (fun W => (W.cell? ⟨w6.heap.size, 0, none⟩ = some (.slice q6.A D.n q6.cap) ∧ W.cell? ⟨w6.heap.size, 1, none⟩ = some (.slice q6.B D.m q6.bcap) ∧ W.cell? ⟨w6.heap.size, 2, none⟩ = some (.slice (some ⟨by_, oy, none⟩) 1 q6.ccap)) ∧ W.cell? ⟨by_, oy, none⟩ = some (.slice Py D.n py) ∧ (W.cell? ⟨w.heap.size, 0, none⟩ = some (.slice p.A D.n p.cap) ∧ W.cell? ⟨w.heap.size, 1, none⟩ = some (.slice p.B D.m p.bcap) ∧ W.cell? ⟨w.heap.size, 2, none⟩ = some (.slice (some ⟨bc, oc, none⟩) D.N p.ccap)) ∧ W.cell? ⟨bc, oc + k * 2, none⟩ = some (.slice P0 D.n pc))
                        (first | exact HE1.out _ B7 | exact HE1.out _ BVd | exact HE1.out _ (Below.refl _ _))
                        (first
                          | (go_at_call 43; refine (HEq.out _ BVd).mono ?_; rintro e w7 ⟨rfl, hb7⟩; have B7 : Below V.heap.size V w7 := st BVd hb7))
                      all_goals
                        have HB7 : Hid (Below (w.heap.size + 3) W0 w7) := HBr.out.trans ((st HE2.out B7).mono hzr)
                        have hN6 := HOk.out.N1
                        go_wp2
                        go_roundw
                        case rel => exact ⟨k + 1, by omega, by go_num, HB7.out⟩
                        case measure => simp [intOf]; omega
                    · have gs := gr2 (gr2 (grown_set w6 wr.heap.size 0 (.slice q6.A D.n q6.cap)) (grown_set _ wr.heap.size 1 (.slice q6.B D.m q6.bcap))) (grown_set _ wr.heap.size 2 (.slice q6.C 1 q6.ccap))
                      have E1 := three_set hx6 (.slice q6.A D.n q6.cap) (.slice q6.B D.m q6.bcap) (.slice q6.C 1 q6.ccap)
                      have E2 := ((D1.setCell (p := ⟨wr.heap.size, 0, none⟩) (Nat.le_refl _) (.slice q6.A D.n q6.cap)).setCell (p := ⟨wr.heap.size, 1, none⟩) (Nat.le_refl _) (.slice q6.B D.m q6.bcap)).setCell (p := ⟨wr.heap.size, 2, none⟩) (Nat.le_refl _) (.slice q6.C 1 q6.ccap)
                      have hn1 : 1 ≤ D.n := (check_n HKc.out).1
                      have hne : by_ ≠ wr.heap.size := fun e => by
                        have h9 := y3
                        rw [e] at h9
                        have := nil_cell hx6 h9
                        injection this with _ h8 _
                        omega
                      have E3 := (cell_blk (o := oy) (gs.block by_ hby (by simpa using hne))).trans y3
                      have E4 := ints_kept y5 gs (ints_ne y5 hx6)
                      clear y3 y5 hby D1 gs hx6 hne hn1 y0 y1 y2 z0 z1 z2
                      generalize ((w6.setCell ⟨wr.heap.size, 0, none⟩ (.slice q6.A D.n q6.cap)).setCell ⟨wr.heap.size, 1, none⟩ (.slice q6.B D.m q6.bcap)).setCell ⟨wr.heap.size, 2, none⟩ (.slice q6.C 1 q6.ccap) = V at *
                      have HE2 := Lib.hid E2
                      have HE1 : Hid (∀ W, Below V.heap.size V W → (W.cell? ⟨wr.heap.size, 0, none⟩ = some (.slice q6.A D.n q6.cap) ∧ W.cell? ⟨wr.heap.size, 1, none⟩ = some (.slice q6.B D.m q6.bcap) ∧ W.cell? ⟨wr.heap.size, 2, none⟩ = some (.slice (some ⟨by_, oy, none⟩) 1 q6.ccap)) ∧ W.cell? ⟨by_, oy, none⟩ = some (.slice Py D.n py) ∧ (W.cell? ⟨w.heap.size, 0, none⟩ = some (.slice p.A D.n p.cap) ∧ W.cell? ⟨w.heap.size, 1, none⟩ = some (.slice p.B D.m p.bcap) ∧ W.cell? ⟨w.heap.size, 2, none⟩ = some (.slice (some ⟨bc, oc, none⟩) D.N p.ccap)) ∧ W.cell? ⟨bc, oc + k * 2, none⟩ = some (.slice P0 D.n pc)) := fun W hW => by
                        have g := (three_at ((hW.block _ (Array.getElem?_eq_some_iff.1 E1).1).trans E1)).1
                        rw [hCy] at g
                        exact ⟨g, (hW.cell (p := ⟨by_, oy, none⟩) (cell_lt E3)).trans E3, HKe.out W (st HE2.out hW)⟩
                      have HEq : Hid (∀ W, Below V.heap.size V W → Calls Tryz.prog 43 #[.slice Py D.n py, .slice P0 D.n pc] W fun e w' => e = .returned (.bool true) ∧ Below W.heap.size W w') := fun W hW => (l_equal2 W Py P0 D.n py D.n pc _ _ (E4.below hW) (HX2.out.below (st HWr.out (st HE2.out hW))) (by have := HOk.out.n1; omega) (by have := HOk.out.n1; omega)).mono fun e w' h => by rw [sameZ_refl] at h; exact h
                      clear E1 E2 E3 E4
                      obtain ⟨⟨t0, t1, t2⟩, t3, ⟨m0, m1, m2⟩, x0⟩ := HE1.out V (Below.refl _ _)
                      have h01 : (0 : Nat) < 1 := by decide
                      have BVd : Below V.heap.size V V.drew := Below.drew (Below.refl _ _)
                      go_wp2_with fail
                      go_region_held3 (fun W => (W.cell? ⟨wr.heap.size, 0, none⟩ = some (.slice q6.A D.n q6.cap) ∧ W.cell? ⟨wr.heap.size, 1, none⟩ = some (.slice q6.B D.m q6.bcap) ∧ W.cell? ⟨wr.heap.size, 2, none⟩ = some (.slice (some ⟨by_, oy, none⟩) 1 q6.ccap)) ∧ W.cell? ⟨by_, oy, none⟩ = some (.slice Py D.n py) ∧ (W.cell? ⟨w.heap.size, 0, none⟩ = some (.slice p.A D.n p.cap) ∧ W.cell? ⟨w.heap.size, 1, none⟩ = some (.slice p.B D.m p.bcap) ∧ W.cell? ⟨w.heap.size, 2, none⟩ = some (.slice (some ⟨bc, oc, none⟩) D.N p.ccap)) ∧ W.cell? ⟨bc, oc + k * 2, none⟩ = some (.slice P0 D.n pc))
                        (first | exact HE1.out _ B7 | exact HE1.out _ BVd | exact HE1.out _ (Below.refl _ _))
                        (first
                          | (go_at_call 43; refine (HEq.out _ BVd).mono ?_; rintro e w7 ⟨rfl, hb7⟩; have B7 : Below V.heap.size V w7 := st BVd hb7))
                      all_goals
                        have HB7 : Hid (Below (w.heap.size + 3) W0 w7) := HBr.out.trans ((st HE2.out B7).mono hzr)
                        have hN6 := HOk.out.N1
                        go_wp2
                        go_roundw
                        case rel => exact ⟨k + 1, by omega, by go_num, HB7.out⟩
                        case measure => simp [intOf]; omega
                  · obtain rfl : k = D.N := by omega
                    obtain ⟨⟨m0, m1, m2⟩, ⟨m3, m4⟩, m5, m6⟩ := HT.out wr HBr.out
                    clear hlt hzr
                    go_wp2_with fail
                    clear m0 m1 m2 m3 m4 m5 m6
                    refine (s_Cut wr p D A1 A2 na ca ma da al ah (HAr.out.below HWr.out) HOk.out (HA.out.1.below HWr.out) (HA.out.2.below HWr.out) (by omega)).mono ?_
                    rintro e w6 ⟨⟨q2, E2, rfl, hE2, hEe2⟩, hb6⟩
                    have B6 := bel_nw w6 (q2.obj E2.n E2.m E2.N)
                    have hb6' := st hb6 B6
                    have HC6 : Hid (Below (w.heap.size + 3) W0 (w6.alloc (q2.obj E2.n E2.m E2.N))) := HBr.out.trans (hb6'.mono (by rw [← hz3]; exact HBr.out.size))
                    have HV6 : Hid (Below w.heap.size w (w6.alloc (q2.obj E2.n E2.m E2.N))) := st HWr.out hb6'
                    have HA6 : Hid (ArAt (w6.alloc (q2.obj E2.n E2.m E2.N)) q2 E2) := hE2.below B6
                    have HX6 := Lib.hid (arr_box w6 (.slice q2.A E2.n q2.cap) (.slice q2.B E2.m q2.bcap) (.slice q2.C E2.N q2.ccap) 29)
                    have HEe2 := Lib.hid hEe2
                    clear hb6 hb6' B6 hE2 hEe2 HBr HWr
                    obtain ⟨⟨m0, m1, m2⟩, ⟨m3, m4⟩, m5, m6⟩ := HT.out _ HC6.out
                    rcases cutE_ok (nb := na) (mb := ma) HKc.out with ⟨h0, hna, hma⟩ | h13
                    rotate_left
                    · rw [h13]
                      clear h13
                      go_wp2_with fail
                      refine (HW.out _ HV6.out).mono ?_
                      rintro e u ⟨rfl, hb⟩
                      go_wp2
                      go_ret
                      exact ⟨rfl, st HV6.out hb⟩
                    · have HEq2 : Hid (E2 = cutY D D.n D.n al ah) := by show E2 = _; rw [HEe2.out, ← cutD_eq (by rw [← h0, hna, hma]), hna, hma]
                      have HEk : Hid (E2.check = 0 ∧ ArOk E2 ∧ E2.n = D.n) := by
                        show _ ∧ _
                        rw [HEq2.out]
                        exact ⟨check_pick HKc.out _, by rw [← cutD_eq (by rw [← h0, hna, hma])]; exact cut_ok HOk.out, rfl⟩
                      have HNa : Hid (na = D.n ∧ ma = D.n) := ⟨hna, hma⟩
                      rw [h0]
                      clear h0 hna hma HEe2
                      go_wp2_with fail
                      clear m0 m1 m2 m3 m4 m5 m6
                      generalize w6.alloc (.cells #[.slice q2.A E2.n q2.cap, .slice q2.B E2.m q2.bcap, .slice q2.C E2.N q2.ccap] 29) = v6 at *
                      generalize w6.heap.size = z6 at *
                      refine (s_Cut v6 q2 E2 B1 B2 nb cb mb db bl bh HA6.out HEk.out.2.1 (HB.out.1.below HV6.out) (HB.out.2.below HV6.out) (by omega)).mono ?_
                      rintro e w7 ⟨⟨q3, E3, rfl, hE3, hEe3⟩, hb7⟩
                      have B7 := bel_nw w7 (q3.obj E3.n E3.m E3.N)
                      have hb7' := st hb7 B7
                      have HC7 : Hid (Below (w.heap.size + 3) W0 (w7.alloc (q3.obj E3.n E3.m E3.N))) := HC6.out.trans (hb7'.mono (by rw [← hz3]; exact HC6.out.size))
                      have HV7 : Hid (Below w.heap.size w (w7.alloc (q3.obj E3.n E3.m E3.N))) := st HV6.out hb7'
                      have HA7 : Hid (ArAt (w7.alloc (q3.obj E3.n E3.m E3.N)) q3 E3) := hE3.below B7
                      have HX7 := Lib.hid (arr_box w7 (.slice q3.A E3.n q3.cap) (.slice q3.B E3.m q3.bcap) (.slice q3.C E3.N q3.ccap) 29)
                      have HEe3 := Lib.hid hEe3
                      clear hb7 hb7' B7 hE3 hEe3
                      obtain ⟨⟨m0, m1, m2⟩, ⟨m3, m4⟩, m5, m6⟩ := HT.out _ HC7.out
                      rcases cutE_ok (nb := nb) (mb := mb) HEk.out.1 with ⟨h0, hna, hma⟩ | h13
                      rotate_left
                      · rw [h13]
                        clear h13
                        go_wp2_with fail
                        refine (HW.out _ HV7.out).mono ?_
                        rintro e u ⟨rfl, hb⟩
                        go_wp2
                        go_ret
                        exact ⟨rfl, st HV7.out hb⟩
                      · have HEq3 : Hid (E3 = cutY (cutY D D.n D.n al ah) D.n D.n bl bh) := by
                          have h9 : nb = D.n := hna.trans HEk.out.2.2
                          have h8 : mb = D.n := hma.trans HEk.out.2.2
                          show E3 = _
                          rw [HEe3.out, cutD_eq h0, h9, h8, HEq2.out]
                        have HE3o : Hid (ArOk E3) := by show ArOk E3; rw [HEe3.out]; exact cut_ok HEk.out.2.1
                        have HNb : Hid (nb = D.n ∧ mb = D.n) := ⟨hna.trans HEk.out.2.2, hma.trans HEk.out.2.2⟩
                        rw [h0]
                        clear h0 hna hma HEe3
                        go_wp2_with fail
                        clear m0 m1 m2 m3 m4 m5 m6
                        generalize w7.alloc (.cells #[.slice q3.A E3.n q3.cap, .slice q3.B E3.m q3.bcap, .slice q3.C E3.N q3.ccap] 29) = v7 at *
                        generalize w7.heap.size = z7 at *
                        have HIn : Hid (Calls Tryz.prog 44 #[BoxW A1 A2 na ca ma da, BoxW B1 B2 nb cb mb db] v7 fun e' w' => ∃ P Q k, e' = .returned (.tuple #[BoxW P Q k k k k, .bool (intTo al ah bl bh D.n)]) ∧ k = cntB (intTo al ah bl bh D.n) D.n ∧ IntsAt w' P k (intLo al bl) ∧ IntsAt w' Q k (intHi ah bh) ∧ Below v7.heap.size v7 w') := by
                          obtain ⟨e1, e2⟩ := HNa.out
                          obtain ⟨e3, e4⟩ := HNb.out
                          have a1 := HA.out.1.below HV7.out
                          have a2 := HA.out.2.below HV7.out
                          have b1 := HB.out.1.below HV7.out
                          have b2 := HB.out.2.below HV7.out
                          rw [e1] at a1
                          rw [e2] at a2
                          rw [e3] at b1
                          rw [e4] at b2
                          show Calls _ _ _ _ _
                          rw [e1, e2, e3, e4]
                          exact s_Inter_ok v7 A1 A2 B1 B2 D.n ca da cb db al ah bl bh a1 a2 b1 b2 (check_n HKc.out).1 (check_n HKc.out).2
                        refine HIn.out.mono ?_
                        rintro e w8 ⟨P, Q, kk, rfl, hkk, i1, i2, hb8⟩
                        have HHb : Hid (hkk = hkk) := rfl
                        have B8 := bel_nw w8 (.cells #[.slice P kk kk, .slice Q kk kk] 66)
                        have hb8' := st hb8 B8
                        have HC8 : Hid (Below (w.heap.size + 3) W0 (w8.alloc (.cells #[.slice P kk kk, .slice Q kk kk] 66))) := HC7.out.trans (hb8'.mono (by rw [← hz3]; exact HC7.out.size))
                        have HV8 : Hid (Below w.heap.size w (w8.alloc (.cells #[.slice P kk kk, .slice Q kk kk] 66))) := st HV7.out hb8'
                        have HI8 : Hid (IntsAt (w8.alloc (.cells #[.slice P kk kk, .slice Q kk kk] 66)) P kk (intLo al bl) ∧ IntsAt (w8.alloc (.cells #[.slice P kk kk, .slice Q kk kk] 66)) Q kk (intHi ah bh)) := ⟨i1.below B8, i2.below B8⟩
                        have HX8 := Lib.hid (cel_box w8 (.slice P kk kk) (.slice Q kk kk) 66)
                        have HZ8 : Hid (Below v7.heap.size v7 (w8.alloc (.cells #[.slice P kk kk, .slice Q kk kk] 66))) := hb8'
                        have HKK := Lib.hid hkk
                        clear hb8 hb8' B8 i1 i2 HIn HHb hkk
                        obtain ⟨⟨m0, m1, m2⟩, ⟨m3, m4⟩, m5, m6⟩ := HT.out _ HC8.out
                        cases hit : intTo al ah bl bh D.n
                        · have hz9 : E3.N = 0 := by rw [HEq3.out]; exact cut_none HKc.out al ah bl bh hit
                          obtain ⟨n0, n1, n2⟩ := HX7.out _ HZ8.out
                          rw [hz9] at n2
                          clear hit hz9
                          go_wp2_with fail
                          refine (HW.out _ HV8.out).mono ?_
                          rintro e u ⟨rfl, hb⟩
                          go_wp2
                          go_ret
                          exact ⟨rfl, st HV8.out hb⟩
                        · have hkk : kk = D.n := by rw [HKK.out, hit]; rfl
                          subst hkk
                          clear hit HKK
                          obtain ⟨n0, n1⟩ := HX8.out _ (Below.refl _ _)
                          go_wp2_with fail
                          clear m0 m1 m2 m3 m4 m5 m6 n0 n1
                          generalize w8.alloc (.cells #[.slice P D.n D.n, .slice Q D.n D.n] 66) = v8 at *
                          generalize w8.heap.size = z8 at *
                          refine (s_Cut v8 p D P Q D.n D.n D.n D.n _ _ (HAr.out.below HV8.out) HOk.out HI8.out.1 HI8.out.2 (by have := HOk.out.n1; omega)).mono ?_
                          rintro e w9 ⟨⟨q4, E4, rfl, hE4, hEe4⟩, hb9⟩
                          rw [cutE_zero HKc.out]
                          have B9 := bel_nw w9 (q4.obj E4.n E4.m E4.N)
                          have hb9' := st hb9 B9
                          have HC9 : Hid (Below (w.heap.size + 3) W0 (w9.alloc (q4.obj E4.n E4.m E4.N))) := HC8.out.trans (hb9'.mono (by rw [← hz3]; exact HC8.out.size))
                          have HV9 : Hid (Below w.heap.size w (w9.alloc (q4.obj E4.n E4.m E4.N))) := st HV8.out hb9'
                          have HA9 : Hid (ArAt (w9.alloc (q4.obj E4.n E4.m E4.N)) q4 E4) := hE4.below B9
                          have HZ9 : Hid (Below v7.heap.size v7 (w9.alloc (q4.obj E4.n E4.m E4.N))) := st HZ8.out hb9'
                          have HSm : Hid (sameAr E3 E4 = true ∧ ArOk E4) := by
                            show _ ∧ _
                            rw [hEe4, HEq3.out, cutD_eq (cutE_zero HKc.out)]
                            exact ⟨cut_two HKc.out al ah bl bh, by rw [← cutD_eq (cutE_zero HKc.out)]; exact cut_ok HOk.out⟩
                          have HX9 := Lib.hid (arr_box w9 (.slice q4.A E4.n q4.cap) (.slice q4.B E4.m q4.bcap) (.slice q4.C E4.N q4.ccap) 29)
                          obtain ⟨n0, n1, n2⟩ := HX9.out _ (Below.refl _ _)
                          obtain ⟨o0, o1, o2⟩ := HX7.out _ HZ9.out
                          clear hb9 hb9' B9 hE4 hEe4
                          go_wp2_with fail
                          clear n0 n1 n2 o0 o1 o2
                          generalize w9.alloc (.cells #[.slice q4.A E4.n q4.cap, .slice q4.B E4.m q4.bcap, .slice q4.C E4.N q4.ccap] 29) = v9 at *
                          refine (as_Same v9 q3 q4 E3 E4 (HA7.out.below HZ9.out) HE3o.out HA9.out HSm.out.2).mono ?_
                          rintro e w10 ⟨rfl, hb10⟩
                          rw [HSm.out.1]
                          have HV10 : Hid (Below w.heap.size w w10) := st HV9.out hb10
                          go_wp2_with fail
                          refine (HW.out _ HV10.out).mono ?_
                          rintro e u ⟨rfl, hb⟩
                          go_wp2
                          go_ret
                          exact ⟨rfl, st HV10.out hb⟩
            · have g2 : (ck != 0) = true := by rw [bne_iff_ne]; exact hk0
              go_wp2_with fail
              refine (s_Cut w2 p D A1 A2 na ca ma da al ah (HAr.out.below HV2.out) HOk.out (HA.out.1.below HV2.out) (HA.out.2.below HV2.out) (by omega)).mono ?_
              rintro e w3 ⟨⟨q, E, rfl, -, -⟩, hb3⟩
              have hce : cutE D na ma = 2 := by unfold cutE; rw [if_pos (by rw [HK.out]; exact hk0)]
              rw [hce]
              have hb3' := st hb3 (bel_nw w3 (q.obj E.n E.m E.N))
              have HC3 : Hid (Below (w.heap.size + 3) W0 (w3.alloc (q.obj E.n E.m E.N))) := HC2.out.trans (hb3'.mono (by rw [← hz3]; exact HC2.out.size))
              have HV3 : Hid (Below w.heap.size w (w3.alloc (q.obj E.n E.m E.N))) := st HV2.out hb3'
              clear hb3 hb3' m0 m1 m2 m3 m4 m5 m6 hce
              obtain ⟨⟨m0, m1, m2⟩, ⟨m3, m4⟩, m5, m6⟩ := HT.out _ HC3.out
              go_wp2_with fail
              clear m0 m1 m2 m3 m4 m5 m6
              generalize w3.alloc (q.obj E.n E.m E.N) = v3 at *
              refine (s_Hull v3 p D (HAr.out.below HV3.out) HOk.out).mono ?_
              rintro e w4 ⟨⟨P, Q, k, c9, d9, rfl, -, -, -⟩, hb4⟩
              have hhb : hullB D = false := by unfold hullB; rw [HK.out, beq_eq_false_iff_ne.2 hk0]; rfl
              rw [hhb]
              have HV4 : Hid (Below w.heap.size w (w4.alloc (.cells #[.slice P k c9, .slice Q k d9] 66))) := st (st HV3.out hb4) (bel_nw _ _)
              clear hb4 hhb
              go_wp2_with fail
              refine (HW.out _ HV4.out).mono ?_
              rintro e u ⟨rfl, hb⟩
              go_wp2
              go_ret
              exact ⟨rfl, st HV4.out hb⟩
end Go.Proofs.YtkckoanphciddaaGreatDoor

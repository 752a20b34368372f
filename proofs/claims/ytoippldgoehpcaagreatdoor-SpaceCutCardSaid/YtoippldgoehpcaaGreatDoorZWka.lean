/- Equal to itself. -/
import Derived.Test.YtoippldgoehpcaaGreatDoorZRgT
import Derived.Test.YtoippldgoehpcaaGreatDoorZCuR
import Derived.Test.YtoippldgoehpcaaGreatDoorZHuR
import Derived.Test.YtoippldgoehpcaaGreatDoorZCmpS
import Derived.Test.YtoippldgoehpcaaGreatDoorZRg
import Derived.Test.YtoippldgoehpcaaGreatDoorZOpI
import Derived.Test.YtoippldgoehpcaaGreatDoorZWk2

/- Equal to itself. -/
section
namespace Go.Proofs.YtoippldgoehpcaaGreatDoor

theorem sameD_refl (n : Nat) (a : Nat → ByteArray) (b c : Nat → Int) : sameD n n a a b b c c = true := by
  unfold sameD
  rw [beq_self_eq_true, Bool.true_and]
  exact allTo_iff.2 fun k _ => by simp [dqQ]
theorem sameA_refl (n : Nat) (a : Nat → ByteArray) (b : Nat → Int) : sameA n n a a b b = true := by
  unfold sameA
  rw [beq_self_eq_true, Bool.true_and]
  exact allTo_iff.2 fun k _ => by simp [aqQ]
theorem sameV_refl' (n : Nat) (vk vn vd : Nat → Int) (vs : Nat → ByteArray) : sameV n n vk vk vn vn vd vd vs vs = true := by
  unfold sameV
  rw [beq_self_eq_true, Bool.true_and]
  exact allTo_iff.2 fun k _ => by simp [vqQ]
theorem sameZ_refl (n : Nat) (x : Nat → Int) : sameZ n n x x = true := by
  unfold sameZ
  rw [beq_self_eq_true, Bool.true_and]
  exact eqTo_iff.2 fun k _ => rfl
theorem sameC_refl (N : Nat) (c : CeD) : sameC N N c c = true := by
  unfold sameC
  rw [beq_self_eq_true, Bool.true_and]
  exact allTo_iff.2 fun k _ => by rw [celQ, sameZ_refl, sameV_refl']; rfl
theorem eqAr_refl (D : ArD) : eqAr D D = true := by rw [eqAr, sameD_refl, sameA_refl, sameC_refl]; rfl
end Go.Proofs.YtoippldgoehpcaaGreatDoor
end

/- The walk of SpaceCut. -/
section
namespace Go.Proofs.YtoippldgoehpcaaGreatDoor
open Go Go.RowKit Go.Deep

theorem box_same {W : World} {P Q P' Q' : Option Addr} {k c d c' d' : Nat} {f g : Nat → Int} (h1 : IntsAt W P k f) (h2 : IntsAt W Q k g) (h3 : IntsAt W P' k f) (h4 : IntsAt W Q' k g) (hk : k ≤ 1000000) :
    Calls Tryz.prog 43 #[BoxW P Q k c k d, BoxW P' Q' k c' k d'] W fun e w' => e = .returned (.bool true) ∧ Below W.heap.size W w' :=
  (s_SameBox W P Q P' Q' k c k d k c' k d' f f g g h1 h2 h3 h4 hk hk hk hk).mono fun e w' ⟨e1, hb⟩ => ⟨by rw [e1, sameZ_refl, sameZ_refl]; rfl, hb⟩
set_option maxRecDepth 100000 in
set_option maxHeartbeats 8000000 in
theorem l_cut (w : World) (p : ArP) (D : ArD) (L H : Option Addr) (nb c mb d : Nat) (l h : Nat → Int) (hR : ArR w p D) (hl : IntsAt w L nb l) (hh : IntsAt w H mb h) (hw : WorksAt w) :
    Calls Tryz.prog 8 #[p.val D.n D.m D.N, BoxW L H nb c mb d] w fun e w' => e = .returned (.bool true) ∧ Below w.heap.size w w' := by
  have HW := Lib.hid hw
  have HF : Hid (∀ W, Below w.heap.size w W → Calls Tryz.prog 15 #[p.val D.n D.m D.N, .int .i64 60] W fun e w' => (e = .returned (.bool false) ∨ e = .returned (.bool true) ∧ FewD D 60) ∧ Below W.heap.size W w') := fun W hW => al_Few W p D 60 (hR.below hW) (by decide)
  have HOk : Hid (FewD D 60 → nb ≤ 10 →
      (∀ W, Below w.heap.size w W → Calls Tryz.prog 37 #[.slice p.A D.n p.cap] W fun e w' => WholeR D.nm D.lo D.hi D.n e w' ∧ Below W.heap.size W w') ∧
      (∀ W, Below w.heap.size w W → Calls Tryz.prog 38 #[.slice p.A D.n p.cap] W fun e w' => WholeR D.nm D.lo D.hi D.n e w' ∧ Below W.heap.size W w') ∧
      (∀ W, Below w.heap.size w W → Calls Tryz.prog 39 #[p.val D.n D.m D.N] W fun e w' => HullR D e w' ∧ Below W.heap.size W w') ∧
      (∀ W, Below w.heap.size w W → Calls Tryz.prog 40 #[p.val D.n D.m D.N] W fun e w' => HullR D e w' ∧ Below W.heap.size W w') ∧
      (∀ W, Below w.heap.size w W → Calls Tryz.prog 41 #[p.val D.n D.m D.N, BoxW L H nb c mb d] W fun e w' => CutR D nb mb l h e w' ∧ Below W.heap.size W w') ∧
      (∀ W, Below w.heap.size w W → Calls Tryz.prog 42 #[p.val D.n D.m D.N, BoxW L H nb c mb d] W fun e w' => CutR D nb mb l h e w' ∧ Below W.heap.size W w') ∧ ArOk (cutD D nb mb l h) ∧ D.n ≤ 1000) := fun hf hn => by
    obtain ⟨ha, ho⟩ := hR.ok hf (by decide)
    refine ⟨fun W hW => s_Whole W _ _ _ _ _ _ (ha.dims.below hW), fun W hW => r_Whole W _ _ _ _ _ _ (ha.dims.below hW) ho.nmS ho.n1, fun W hW => s_Hull W p D (ha.below hW) ho, fun W hW => r_Hull W p D (ha.below hW) ho, fun W hW => s_Cut W p D L H nb c mb d l h (ha.below hW) ho (hl.below hW) (hh.below hW) (by omega), fun W hW => r_Cut W p D L H nb c mb d l h (ha.below hW) ho (hl.below hW) (hh.below hW) (by omega), ?_, ho.n1⟩
    unfold cutD
    split
    · exact ⟨ho.n1, ho.m1, Nat.le_trans (cntTo_le _ _) ho.N1, ho.nmS, ho.anS, pick_ok ho.cS⟩
    · exact ⟨Nat.zero_le _, Nat.zero_le _, Nat.zero_le _, fun k hk => absurd hk (Nat.not_lt_zero k), fun k hk => absurd hk (Nat.not_lt_zero k), fun k hk => absurd hk (Nat.not_lt_zero k)⟩
  have HT1 := Lib.hid (arr_box w (.slice p.A D.n p.cap) (.slice p.B D.m p.bcap) (.slice p.C D.N p.ccap) 26)
  have HT2 := Lib.hid (cel_box (w.alloc (p.obj D.n D.m D.N)) (.slice L nb c) (.slice H mb d) 66)
  have hz1 : (w.alloc (p.obj D.n D.m D.N)).heap.size = w.heap.size + 1 := by simp
  have hz2 : ((w.alloc (p.obj D.n D.m D.N)).alloc (.cells #[.slice L nb c, .slice H mb d] 66)).heap.size = w.heap.size + 2 := by simp
  have HB0 : Hid (Below w.heap.size w ((w.alloc (p.obj D.n D.m D.N)).alloc (.cells #[.slice L nb c, .slice H mb d] 66))) := ((Below.refl _ _).alloc (Nat.le_refl _) _).alloc (by simp) _
  have HT : Hid (∀ W, Below (w.heap.size + 2) ((w.alloc (p.obj D.n D.m D.N)).alloc (.cells #[.slice L nb c, .slice H mb d] 66)) W → (W.cell? ⟨w.heap.size, 0, none⟩ = some (.slice p.A D.n p.cap) ∧ W.cell? ⟨w.heap.size, 1, none⟩ = some (.slice p.B D.m p.bcap) ∧ W.cell? ⟨w.heap.size, 2, none⟩ = some (.slice p.C D.N p.ccap)) ∧ (W.cell? ⟨w.heap.size + 1, 0, none⟩ = some (.slice L nb c) ∧ W.cell? ⟨w.heap.size + 1, 1, none⟩ = some (.slice H mb d))) := fun W hW => by
    have h3 := hW
    rw [← hz2] at h3
    have h2 := HT2.out W h3
    rw [hz1] at h2
    exact ⟨HT1.out W (st (bel_nw _ _) h3), h2⟩
  clear HT1 HT2 hz1 hw hR hl hh
  obtain ⟨⟨m0, m1, m2⟩, m3, m4⟩ := HT.out _ (Below.refl _ _)
  go_enter Tryz.func8, Tryz.ntmps8
  go_wp2_with fail
  clear m0 m1 m2 m3 m4
  generalize hW0 : (w.alloc (.cells #[.slice p.A D.n p.cap, .slice p.B D.m p.bcap, .slice p.C D.N p.ccap] 26)).alloc (.cells #[.slice L nb c, .slice H mb d] 66) = W0 at *
  clear hW0
  refine (HF.out _ HB0.out).mono ?_
  rintro e w1 ⟨he, hb1⟩
  rw [hz2] at hb1
  have HB1 : Hid (Below (w.heap.size + 2) W0 w1) := hb1
  have HW1 : Hid (Below w.heap.size w w1) := HB0.out.trans (hb1.mono (by omega))
  clear hb1 HF
  obtain ⟨⟨m0, m1, m2⟩, m3, m4⟩ := HT.out w1 HB1.out
  have HRet : Hid (Calls Tryz.prog 16 #[] w1 fun e w' => e = .returned (.bool true) ∧ Below w.heap.size w w') := (HW.out w1 HW1.out).mono fun e w' ⟨h1, h2⟩ => ⟨h1, st HW1.out h2⟩
  rcases he with rfl | ⟨rfl, hf⟩
  · go_wp2_with fail
    refine HRet.out.mono ?_
    rintro e w2 ⟨rfl, hb2⟩
    go_wp2
    go_ret
    exact ⟨rfl, hb2⟩
  · by_cases h1 : (nb : Int) > 10
    · go_wp2_with fail
      refine HRet.out.mono ?_
      rintro e w2 ⟨rfl, hb2⟩
      go_wp2
      go_ret
      exact ⟨rfl, hb2⟩
    · by_cases h2 : (mb : Int) > 10
      · go_wp2_with fail
        refine HRet.out.mono ?_
        rintro e w2 ⟨rfl, hb2⟩
        go_wp2
        go_ret
        exact ⟨rfl, hb2⟩
      · have HO := Lib.hid (HOk.out hf (by omega))
        clear hf HOk HRet
        go_wp2_with fail
        clear m0 m1 m2 m3 m4
        refine (HO.out.1 _ HW1.out).mono ?_
        rintro e u ⟨hr, hb⟩
        obtain ⟨P1, Q1, k1, c1, d1, rfl, hk1, i, j⟩ := hr
        have HK1 := Lib.hid hk1
        clear hk1
        have Bn := bel_nw u (.cells #[.slice P1 k1 c1, .slice Q1 k1 d1] 66)
        have HC1 : Hid (Below (w.heap.size + 2) W0 (u.alloc (.cells #[.slice P1 k1 c1, .slice Q1 k1 d1] 66))) := (HB1.out.trans (hb.mono (by have := HB1.out.size; omega))).trans (Bn.mono (by have := HB1.out.size; have := hb.size; omega))
        have HV1 : Hid (Below w.heap.size w (u.alloc (.cells #[.slice P1 k1 c1, .slice Q1 k1 d1] 66))) := st (st HW1.out hb) Bn
        have KX1 := Lib.hid (cel_box u (.slice P1 k1 c1) (.slice Q1 k1 d1) 66)
        have HI1 : Hid (IntsAt (u.alloc (.cells #[.slice P1 k1 c1, .slice Q1 k1 d1] 66)) P1 k1 _ ∧ IntsAt (u.alloc (.cells #[.slice P1 k1 c1, .slice Q1 k1 d1] 66)) Q1 k1 _) := ⟨i.below Bn, j.below Bn⟩
        clear i hb Bn j
        obtain ⟨⟨m0, m1, m2⟩, m3, m4⟩ := HT.out _ HC1.out
        go_wp2_with fail
        clear m0 m1 m2 m3 m4
        generalize u.alloc (.cells #[.slice P1 k1 c1, .slice Q1 k1 d1] 66) = v1 at *
        generalize u.heap.size = b1 at *
        refine (HO.out.2.1 _ HV1.out).mono ?_
        rintro e u ⟨hr, hb⟩
        obtain ⟨P2, Q2, k2, c2, d2, rfl, hk2, i, j⟩ := hr
        have HK2 := Lib.hid hk2
        clear hk2
        have Bn := bel_nw u (.cells #[.slice P2 k2 c2, .slice Q2 k2 d2] 66)
        have HC2 : Hid (Below (w.heap.size + 2) W0 (u.alloc (.cells #[.slice P2 k2 c2, .slice Q2 k2 d2] 66))) := (HC1.out.trans (hb.mono (by have := HC1.out.size; omega))).trans (Bn.mono (by have := HC1.out.size; have := hb.size; omega))
        have HV2 : Hid (Below w.heap.size w (u.alloc (.cells #[.slice P2 k2 c2, .slice Q2 k2 d2] 66))) := st (st HV1.out hb) Bn
        have KX2 := Lib.hid (cel_box u (.slice P2 k2 c2) (.slice Q2 k2 d2) 66)
        have HI2 : Hid (IntsAt (u.alloc (.cells #[.slice P2 k2 c2, .slice Q2 k2 d2] 66)) P2 k2 _ ∧ IntsAt (u.alloc (.cells #[.slice P2 k2 c2, .slice Q2 k2 d2] 66)) Q2 k2 _) := ⟨i.below Bn, j.below Bn⟩
        have HU2 : Hid (Below v1.heap.size v1 (u.alloc (.cells #[.slice P2 k2 c2, .slice Q2 k2 d2] 66))) := st hb Bn
        clear i hb Bn j
        obtain ⟨⟨m0, m1, m2⟩, m3, m4⟩ := HT.out _ HC2.out
        go_wp2_with fail
        clear m0 m1 m2 m3 m4
        generalize u.alloc (.cells #[.slice P2 k2 c2, .slice Q2 k2 d2] 66) = v2 at *
        generalize u.heap.size = b2 at *
        refine (HO.out.2.2.1 _ HV2.out).mono ?_
        rintro e u ⟨hr, hb⟩
        obtain ⟨P3, Q3, k3, c3, d3, rfl, hk3, i, j⟩ := hr
        have HK3 := Lib.hid hk3
        clear hk3
        have Bn := bel_nw u (.cells #[.slice P3 k3 c3, .slice Q3 k3 d3] 66)
        have HC3 : Hid (Below (w.heap.size + 2) W0 (u.alloc (.cells #[.slice P3 k3 c3, .slice Q3 k3 d3] 66))) := (HC2.out.trans (hb.mono (by have := HC2.out.size; omega))).trans (Bn.mono (by have := HC2.out.size; have := hb.size; omega))
        have HV3 : Hid (Below w.heap.size w (u.alloc (.cells #[.slice P3 k3 c3, .slice Q3 k3 d3] 66))) := st (st HV2.out hb) Bn
        have KX3 := Lib.hid (cel_box u (.slice P3 k3 c3) (.slice Q3 k3 d3) 66)
        have HI3 : Hid (IntsAt (u.alloc (.cells #[.slice P3 k3 c3, .slice Q3 k3 d3] 66)) P3 k3 _ ∧ IntsAt (u.alloc (.cells #[.slice P3 k3 c3, .slice Q3 k3 d3] 66)) Q3 k3 _) := ⟨i.below Bn, j.below Bn⟩
        have HU3 : Hid (Below v2.heap.size v2 (u.alloc (.cells #[.slice P3 k3 c3, .slice Q3 k3 d3] 66))) := st hb Bn
        clear i hb Bn j
        obtain ⟨⟨m0, m1, m2⟩, m3, m4⟩ := HT.out _ HC3.out
        go_wp2_with fail
        clear m0 m1 m2 m3 m4
        generalize u.alloc (.cells #[.slice P3 k3 c3, .slice Q3 k3 d3] 66) = v3 at *
        generalize u.heap.size = b3 at *
        refine (HO.out.2.2.2.1 _ HV3.out).mono ?_
        rintro e u ⟨hr, hb⟩
        obtain ⟨P4, Q4, k4, c4, d4, rfl, hk4, i, j⟩ := hr
        have HK4 := Lib.hid hk4
        clear hk4
        have Bn := bel_nw u (.cells #[.slice P4 k4 c4, .slice Q4 k4 d4] 66)
        have HC4 : Hid (Below (w.heap.size + 2) W0 (u.alloc (.cells #[.slice P4 k4 c4, .slice Q4 k4 d4] 66))) := (HC3.out.trans (hb.mono (by have := HC3.out.size; omega))).trans (Bn.mono (by have := HC3.out.size; have := hb.size; omega))
        have HV4 : Hid (Below w.heap.size w (u.alloc (.cells #[.slice P4 k4 c4, .slice Q4 k4 d4] 66))) := st (st HV3.out hb) Bn
        have KX4 := Lib.hid (cel_box u (.slice P4 k4 c4) (.slice Q4 k4 d4) 66)
        have HI4 : Hid (IntsAt (u.alloc (.cells #[.slice P4 k4 c4, .slice Q4 k4 d4] 66)) P4 k4 _ ∧ IntsAt (u.alloc (.cells #[.slice P4 k4 c4, .slice Q4 k4 d4] 66)) Q4 k4 _) := ⟨i.below Bn, j.below Bn⟩
        have HU4 : Hid (Below v3.heap.size v3 (u.alloc (.cells #[.slice P4 k4 c4, .slice Q4 k4 d4] 66))) := st hb Bn
        clear i hb Bn j
        obtain ⟨⟨m0, m1, m2⟩, m3, m4⟩ := HT.out _ HC4.out
        go_wp2_with fail
        clear m0 m1 m2 m3 m4
        generalize u.alloc (.cells #[.slice P4 k4 c4, .slice Q4 k4 d4] 66) = v4 at *
        generalize u.heap.size = b4 at *
        refine (HO.out.2.2.2.2.1 _ HV4.out).mono ?_
        rintro e u ⟨hr, hb⟩
        obtain ⟨q5, E5, rfl, i, hE5⟩ := hr
        have HK5 := Lib.hid hE5
        clear hE5
        have Bn := bel_nw u (q5.obj E5.n E5.m E5.N)
        have HC5 : Hid (Below (w.heap.size + 2) W0 (u.alloc (q5.obj E5.n E5.m E5.N))) := (HC4.out.trans (hb.mono (by have := HC4.out.size; omega))).trans (Bn.mono (by have := HC4.out.size; have := hb.size; omega))
        have HV5 : Hid (Below w.heap.size w (u.alloc (q5.obj E5.n E5.m E5.N))) := st (st HV4.out hb) Bn
        have KX5 := Lib.hid (arr_box u (.slice q5.A E5.n q5.cap) (.slice q5.B E5.m q5.bcap) (.slice q5.C E5.N q5.ccap) 26)
        have HI5 : Hid (ArAt (u.alloc (q5.obj E5.n E5.m E5.N)) q5 E5) := i.below Bn
        have HU5 : Hid (Below v4.heap.size v4 (u.alloc (q5.obj E5.n E5.m E5.N))) := st hb Bn
        clear i hb Bn
        obtain ⟨⟨m0, m1, m2⟩, m3, m4⟩ := HT.out _ HC5.out
        go_wp2_with fail
        clear m0 m1 m2 m3 m4
        generalize u.alloc (.cells #[.slice q5.A E5.n q5.cap, .slice q5.B E5.m q5.bcap, .slice q5.C E5.N q5.ccap] 26) = v5 at *
        generalize u.heap.size = b5 at *
        refine (HO.out.2.2.2.2.2.1 _ HV5.out).mono ?_
        rintro e u ⟨hr, hb⟩
        obtain ⟨q6, E6, rfl, i, hE6⟩ := hr
        have HK6 := Lib.hid hE6
        clear hE6
        have Bn := bel_nw u (q6.obj E6.n E6.m E6.N)
        have HC6 : Hid (Below (w.heap.size + 2) W0 (u.alloc (q6.obj E6.n E6.m E6.N))) := (HC5.out.trans (hb.mono (by have := HC5.out.size; omega))).trans (Bn.mono (by have := HC5.out.size; have := hb.size; omega))
        have HV6 : Hid (Below w.heap.size w (u.alloc (q6.obj E6.n E6.m E6.N))) := st (st HV5.out hb) Bn
        have KX6 := Lib.hid (arr_box u (.slice q6.A E6.n q6.cap) (.slice q6.B E6.m q6.bcap) (.slice q6.C E6.N q6.ccap) 26)
        have HI6 : Hid (ArAt (u.alloc (q6.obj E6.n E6.m E6.N)) q6 E6) := i.below Bn
        have HU6 : Hid (Below v5.heap.size v5 (u.alloc (q6.obj E6.n E6.m E6.N))) := st hb Bn
        clear i hb Bn
        have c56 := HU6.out
        have c46 := st HU5.out c56
        have c36 := st HU4.out c46
        have c26 := st HU3.out c36
        have c16 := st HU2.out c26
        have HKA : Hid (∀ W, Below (u.alloc (q6.obj E6.n E6.m E6.N)).heap.size (u.alloc (q6.obj E6.n E6.m E6.N)) W → (W.cell? ⟨b1, 0, none⟩ = some (.slice P1 k1 c1) ∧ W.cell? ⟨b1, 1, none⟩ = some (.slice Q1 k1 d1)) ∧ (W.cell? ⟨b2, 0, none⟩ = some (.slice P2 k2 c2) ∧ W.cell? ⟨b2, 1, none⟩ = some (.slice Q2 k2 d2)) ∧ (W.cell? ⟨b3, 0, none⟩ = some (.slice P3 k3 c3) ∧ W.cell? ⟨b3, 1, none⟩ = some (.slice Q3 k3 d3)) ∧ (W.cell? ⟨b4, 0, none⟩ = some (.slice P4 k4 c4) ∧ W.cell? ⟨b4, 1, none⟩ = some (.slice Q4 k4 d4)) ∧ (W.cell? ⟨b5, 0, none⟩ = some (.slice q5.A E5.n q5.cap) ∧ W.cell? ⟨b5, 1, none⟩ = some (.slice q5.B E5.m q5.bcap) ∧ W.cell? ⟨b5, 2, none⟩ = some (.slice q5.C E5.N q5.ccap)) ∧ (W.cell? ⟨u.heap.size, 0, none⟩ = some (.slice q6.A E6.n q6.cap) ∧ W.cell? ⟨u.heap.size, 1, none⟩ = some (.slice q6.B E6.m q6.bcap) ∧ W.cell? ⟨u.heap.size, 2, none⟩ = some (.slice q6.C E6.N q6.ccap))) := fun W hW => ⟨KX1.out W (st c16 hW), KX2.out W (st c26 hW), KX3.out W (st c36 hW), KX4.out W (st c46 hW), KX5.out W (st c56 hW), KX6.out W hW⟩
        have e2 := HK2.out.trans HK1.out.symm
        subst e2
        have e4 := HK4.out.trans HK3.out.symm
        subst e4
        have e6 := HK6.out.trans HK5.out.symm
        subst e6
        have HB1' : Hid (∀ W, Below (u.alloc (q6.obj E6.n E6.m E6.N)).heap.size (u.alloc (q6.obj E6.n E6.m E6.N)) W → Calls Tryz.prog 43 #[BoxW P1 Q1 k2 c1 k2 d1, BoxW P2 Q2 k2 c2 k2 d2] W fun e w' => e = .returned (.bool true) ∧ Below W.heap.size W w') := fun W hW => box_same (HI1.out.1.below (st c16 hW)) (HI1.out.2.below (st c16 hW)) (HI2.out.1.below (st c26 hW)) (HI2.out.2.below (st c26 hW)) (by have := HO.out.2.2.2.2.2.2.2; have h9 := HK2.out; split at h9 <;> omega)
        have HB3' : Hid (∀ W, Below (u.alloc (q6.obj E6.n E6.m E6.N)).heap.size (u.alloc (q6.obj E6.n E6.m E6.N)) W → Calls Tryz.prog 43 #[BoxW P3 Q3 k4 c3 k4 d3, BoxW P4 Q4 k4 c4 k4 d4] W fun e w' => e = .returned (.bool true) ∧ Below W.heap.size W w') := fun W hW => box_same (HI3.out.1.below (st c36 hW)) (HI3.out.2.below (st c36 hW)) (HI4.out.1.below (st c46 hW)) (HI4.out.2.below (st c46 hW)) (by have := HO.out.2.2.2.2.2.2.2; have h9 := HK4.out; split at h9 <;> omega)
        have HEq : Hid (∀ W, Below (u.alloc (q6.obj E6.n E6.m E6.N)).heap.size (u.alloc (q6.obj E6.n E6.m E6.N)) W → Calls Tryz.prog 24 #[q5.val E6.n E6.m E6.N, q6.val E6.n E6.m E6.N] W fun e w' => e = .returned (.bool true) ∧ Below W.heap.size W w') := fun W hW => (ar_Equal W q5 q6 E6 E6 (HI5.out.below (st c56 hW)) (by rw [HK5.out]; exact HO.out.2.2.2.2.2.2.1) (HI6.out.below hW) (by rw [HK5.out]; exact HO.out.2.2.2.2.2.2.1)).mono fun e w' ⟨g1, g2⟩ => ⟨by rw [g1, eqAr_refl], g2⟩
        have HWo : Hid (∀ W, Below (u.alloc (q6.obj E6.n E6.m E6.N)).heap.size (u.alloc (q6.obj E6.n E6.m E6.N)) W → Calls Tryz.prog 16 #[] W fun e w' => e = .returned (.bool true) ∧ Below W.heap.size W w') := fun W hW => HW.out W (st HV6.out hW)
        obtain ⟨⟨a0, a1⟩, ⟨a2, a3⟩, -⟩ := HKA.out _ (Below.refl _ _)
        clear c56 c46 c36 c26 c16 KX1 KX2 KX3 KX4 KX5 KX6 HI1 HI2 HI3 HI4 HI5 HI6 HU2 HU3 HU4 HU5 HU6 HO HW
        generalize dimsZ D.nm D.lo D.hi D.n = z1 at *
        generalize hullB D = z2 at *
        generalize cutE D nb mb = z3 at *
        have g1 : (z1 == z1) = true := beq_self_eq_true z1
        have g2 : (z2 == z2) = true := by cases z2 <;> rfl
        have g3 : (z3 == z3) = true := beq_self_eq_true z3
        go_wp2_with fail
        clear a0 a1 a2 a3
        refine (HB1'.out _ (Below.refl _ _)).mono ?_
        rintro e w7 ⟨rfl, hb7⟩
        have HV7 := Lib.hid (st HV6.out hb7)
        have HX7 := Lib.hid hb7
        clear hb7 HV6 HC6
        generalize u.alloc (q6.obj E6.n E6.m E6.N) = v6 at *
        obtain ⟨-, -, ⟨a0, a1⟩, ⟨a2, a3⟩, -⟩ := HKA.out w7 HX7.out
        go_wp2_with fail
        clear a0 a1 a2 a3
        refine (HB3'.out w7 HX7.out).mono ?_
        rintro e w8 ⟨rfl, hb8⟩
        have HV8 := Lib.hid (st HV7.out hb8)
        have HX8 := Lib.hid (st HX7.out hb8)
        clear hb8
        obtain ⟨-, -, -, -, ⟨a0, a1, a2⟩, a3, a4, a5⟩ := HKA.out w8 HX8.out
        go_wp2_with fail
        clear a0 a1 a2 a3 a4 a5
        refine (HEq.out w8 HX8.out).mono ?_
        rintro e w9 ⟨rfl, hb9⟩
        have HV9 := Lib.hid (st HV8.out hb9)
        have HX9 := Lib.hid (st HX8.out hb9)
        clear hb9
        go_wp2_with fail
        refine (HWo.out w9 HX9.out).mono ?_
        rintro e w10 ⟨rfl, hb10⟩
        go_wp2
        go_ret
        exact ⟨rfl, st HV9.out hb10⟩
end Go.Proofs.YtoippldgoehpcaaGreatDoor
end

/- The driver's works, behind whatever went before. -/
section
namespace Go.Proofs.YtoippldgoehpcaaGreatDoor
open Go.ChangeShapes Go.WideShapes Go.ChangeAt Go.RowKit

theorem works_at {W : World} {ml : Int} (htab : Tab W) (htt : TyTab W) (hml : W.cell? ⟨6, 0, none⟩ = some (.int .i64 ml)) : WorksAt W := fun V hV =>
  w_works V ml (htab.below hV) (fun t h1 h2 => (hV.cell (p := ⟨0, t, none⟩) (cell_lt (htt t h1 h2))).trans (htt t h1 h2)) ((hV.cell (p := ⟨6, 0, none⟩) (cell_lt hml)).trans hml)

end Go.Proofs.YtoippldgoehpcaaGreatDoor
end

/- The walk of SpaceGets. -/
import Derived.Test.YtoippldgoehpcaaGreatDoorZGet2
namespace Go.Proofs.YtoippldgoehpcaaGreatDoor
open Go Go.RowKit Go.Deep Go.Shelf

theorem allTo_true {p : Nat → Bool} {n : Nat} (h : ∀ k, k < n → p k = true) : allTo p n = true := allTo_iff.2 h
theorem sameV_refl (n : Nat) (vk vn vd : Nat → Int) (vs : Nat → ByteArray) : sameV n n vk vk vn vn vd vd vs vs = true := by
  unfold sameV
  rw [beq_self_eq_true, Bool.true_and]
  exact allTo_true fun k _ => by simp [vqQ]
theorem three_box (w : World) (p q : ArP) (n m N n' m' N' : Nat) (x y : Value) (ty : TypeId) (W : World) (hW : Below (w.heap.size + 3) (((w.alloc (p.obj n m N)).alloc (q.obj n' m' N')).alloc (.cells #[x, y] ty)) W) : ArIn W w.heap.size p n m N ∧ ArIn W (w.heap.size + 1) q n' m' N' ∧ W.cell? ⟨w.heap.size + 1 + 1, 0, none⟩ = some x ∧ W.cell? ⟨w.heap.size + 1 + 1, 1, none⟩ = some y := by
  have q1 := two_arr w p q n m N n' m' N' W (Below.trans ((Below.refl _ _).alloc (by simp) _) (hW.mono (by omega)))
  have q2 := box_two ((w.alloc (p.obj n m N)).alloc (q.obj n' m' N')) x y ty W (by simp only [World.size_alloc]; exact hW)
  simp only [World.size_alloc] at q2
  exact ⟨q1.1, q1.2, q2⟩
theorem bb_eq (b : Bool) : (b != b) = false := by cases b <;> rfl
set_option maxRecDepth 100000 in
set_option maxHeartbeats 8000000 in
theorem l_gets (w : World) (p q : ArP) (D E : ArD) (X Y : Option Addr) (n c m d : Nat) (u v : Nat → Int) (h : ArR w p D) (h' : ArR w q E) (hx : IntsAt w X n u) (hy : IntsAt w Y m v) (hw : WorksAt w) :
    Calls Tryz.prog 6 #[p.val D.n D.m D.N, q.val E.n E.m E.N, BoxW X Y n c m d] w fun e w' => e = .returned (.bool true) ∧ Below w.heap.size w w' := by
  have HW := Lib.hid hw
  have HF1 : Hid (∀ W, Below w.heap.size w W → Calls Tryz.prog 15 #[p.val D.n D.m D.N, .int .i64 60] W fun e w' => (e = .returned (.bool false) ∨ e = .returned (.bool true) ∧ FewD D 60) ∧ Below W.heap.size W w') := fun W hW => al_Few W p D 60 (h.below hW) (by decide)
  have HF2 : Hid (∀ W, Below w.heap.size w W → Calls Tryz.prog 15 #[q.val E.n E.m E.N, .int .i64 60] W fun e w' => (e = .returned (.bool false) ∨ e = .returned (.bool true) ∧ FewD E 60) ∧ Below W.heap.size W w') := fun W hW => al_Few W q E 60 (h'.below hW) (by decide)
  have HO1 : Hid (FewD D 60 → ArAt w p D ∧ ArOk D) := fun hf => ArR.ok h hf (by decide)
  have HO2 : Hid (FewD E 60 → ArAt w q E ∧ ArOk E) := fun hf => ArR.ok h' hf (by decide)
  have HX := Lib.hid hx
  have HY := Lib.hid hy
  clear hw h h' hx hy
  have HT := Lib.hid (three_box w p q D.n D.m D.N E.n E.m E.N (.slice X n c) (.slice Y m d) 55)
  have hz0 : (((w.alloc (p.obj D.n D.m D.N)).alloc (q.obj E.n E.m E.N)).alloc (.cells #[.slice X n c, .slice Y m d] 55)).heap.size = w.heap.size + 3 := by simp
  have HB : Hid (Below w.heap.size w (((w.alloc (p.obj D.n D.m D.N)).alloc (q.obj E.n E.m E.N)).alloc (.cells #[.slice X n c, .slice Y m d] 55))) := (((Below.refl _ _).alloc (Nat.le_refl _) _).alloc (by simp) _).alloc (by simp; omega) _
  go_enter Tryz.func6, Tryz.ntmps6
  go_wp2_with fail
  generalize ((w.alloc (p.obj D.n D.m D.N)).alloc (q.obj E.n E.m E.N)).alloc (.cells #[.slice X n c, .slice Y m d] 55) = W0 at *
  rw [← hz0] at HT
  obtain ⟨⟨a0, a1, a2⟩, ⟨b0, b1, b2⟩, c0, c1⟩ := HT.out W0 (Below.refl _ _)
  go_wp2_with fail
  refine (HF1.out _ HB.out).mono ?_
  rintro e w1 ⟨he, hb1⟩
  have HB1 : Hid (Below w.heap.size w w1) := st HB.out hb1
  clear a0 a1 a2 b0 b1 b2 c0 c1
  obtain ⟨⟨a0, a1, a2⟩, ⟨b0, b1, b2⟩, c0, c1⟩ := HT.out w1 hb1
  rcases he with rfl | ⟨rfl, hf1⟩
  · go_wp2_with fail
    refine (HW.out _ HB1.out).mono ?_
    rintro e w2 ⟨rfl, hb2⟩
    go_wp2
    go_ret
    exact ⟨rfl, st HB1.out hb2⟩
  · go_wp2_with fail
    refine (HF2.out _ HB1.out).mono ?_
    rintro e w2 ⟨he, hb2⟩
    have HB2 : Hid (Below w.heap.size w w2) := st HB1.out hb2
    have hb12 := st hb1 hb2
    clear a0 a1 a2 b0 b1 b2 c0 c1
    obtain ⟨⟨a0, a1, a2⟩, ⟨b0, b1, b2⟩, c0, c1⟩ := HT.out w2 hb12
    rcases he with rfl | ⟨rfl, hf2⟩
    · go_wp2_with fail
      refine (HW.out _ HB2.out).mono ?_
      rintro e w3 ⟨rfl, hb3⟩
      go_wp2
      go_ret
      exact ⟨rfl, st HB2.out hb3⟩
    · obtain ⟨hA, hOA⟩ := HO1.out hf1
      obtain ⟨hE, hOE⟩ := HO2.out hf2
      have HN : Hid (D.N ≤ 60) := by have h9 : (D.N : Int) ≤ 60 := hf1.2.2.1; show _ ≤ _; omega
      have HA := Lib.hid hA
      have HE := Lib.hid hE
      have HOA := Lib.hid hOA
      have HOE := Lib.hid hOE
      clear hA hE hOA hOE HO1 HO2 HF1 HF2 hf1 hf2
      by_cases g1 : (n : Int) > 10
      · go_wp2_with fail
        refine (HW.out _ HB2.out).mono ?_
        rintro e w3 ⟨rfl, hb3⟩
        go_wp2
        go_ret
        exact ⟨rfl, st HB2.out hb3⟩
      · by_cases g2 : (m : Int) > 10
        · go_wp2_with fail
          refine (HW.out _ HB2.out).mono ?_
          rintro e w3 ⟨rfl, hb3⟩
          go_wp2
          go_ret
          exact ⟨rfl, st HB2.out hb3⟩
        · have HC1 : Hid (∀ W, Below w.heap.size w W → Calls Tryz.prog 27 #[.slice X n c, .slice Y m d] W fun e w' => e = .returned (.int .i64 (cmpS n m u v)) ∧ w' = W) := fun W hW => s_Compare W X Y n c m d u v (HX.out.below hW) (HY.out.below hW) (by omega) (by omega)
          have HC2 : Hid (∀ W, Below w.heap.size w W → Calls Tryz.prog 28 #[.slice X n c, .slice Y m d] W fun e w' => e = .returned (.int .i64 (cmpS n m u v)) ∧ Below W.heap.size W w') := fun W hW => r_Compare W X Y n c m d u v (HX.out.below hW) (HY.out.below hW) (by omega) (by omega)
          have HS1 : Hid (∀ W, Below w.heap.size w W → Calls Tryz.prog 26 #[p.val D.n D.m D.N, q.val E.n E.m E.N] W fun e w' => e = .returned (.bool (sameAr D E)) ∧ Below W.heap.size W w') := fun W hW => as_Same W p q D E (HA.out.below hW) HOA.out (HE.out.below hW) HOE.out
          have HS2 : Hid (∀ W, Below w.heap.size w W → Calls Tryz.prog 29 #[p.val D.n D.m D.N, q.val E.n E.m E.N] W fun e w' => e = .returned (.bool (sameAr D E)) ∧ Below W.heap.size W w') := fun W hW => ar_Same W p q D E (HA.out.below hW) HOA.out (HE.out.below hW) HOE.out
          have HS3 : Hid (∀ W, Below w.heap.size w W → Calls Tryz.prog 26 #[p.val D.n D.m D.N, p.val D.n D.m D.N] W fun e w' => e = .returned (.bool (sameAr D D)) ∧ Below W.heap.size W w') := fun W hW => as_Same W p p D D (HA.out.below hW) HOA.out (HA.out.below hW) HOA.out
          have HS4 : Hid (∀ W, Below w.heap.size w W → Calls Tryz.prog 29 #[p.val D.n D.m D.N, p.val D.n D.m D.N] W fun e w' => e = .returned (.bool (sameAr D D)) ∧ Below W.heap.size W w') := fun W hW => ar_Same W p p D D (HA.out.below hW) HOA.out (HA.out.below hW) HOA.out
          generalize cmpS n m u v = z at *
          generalize sameAr D E = r1 at *
          generalize sameAr D D = r2 at *
          have hzz : (z != z) = false := by simp
          have hr1 := bb_eq r1
          have hr2 := bb_eq r2
          clear a0 a1 a2 b0 b1 b2 c0 c1
          have KS : Hid (∀ W, Below w2.heap.size w2 W → ((W.cell? ⟨w.heap.size, 0, none⟩ = some (.slice p.A D.n p.cap) ∧ W.cell? ⟨w.heap.size, 1, none⟩ = some (.slice p.B D.m p.bcap) ∧ W.cell? ⟨w.heap.size, 2, none⟩ = some (.slice p.C D.N p.ccap)) ∧ (W.cell? ⟨w.heap.size + 1, 0, none⟩ = some (.slice q.A E.n q.cap) ∧ W.cell? ⟨w.heap.size + 1, 1, none⟩ = some (.slice q.B E.m q.bcap) ∧ W.cell? ⟨w.heap.size + 1, 2, none⟩ = some (.slice q.C E.N q.ccap)) ∧ W.cell? ⟨w.heap.size + 1 + 1, 0, none⟩ = some (.slice X n c) ∧ W.cell? ⟨w.heap.size + 1 + 1, 1, none⟩ = some (.slice Y m d))) := fun W hW => HT.out W (st hb12 hW)
          have B0d : Below w2.heap.size w2 w2.drew := Below.drew (Below.refl _ _)
          obtain ⟨⟨a0, a1, a2⟩, ⟨b0, b1, b2⟩, c0, c1⟩ := KS.out w2 (Below.refl _ _)
          go_wp2_with fail
          clear a0 a1 a2 b0 b1 b2 c0 c1
          go_region_held3 (fun W => ((W.cell? ⟨w.heap.size, 0, none⟩ = some (.slice p.A D.n p.cap) ∧ W.cell? ⟨w.heap.size, 1, none⟩ = some (.slice p.B D.m p.bcap) ∧ W.cell? ⟨w.heap.size, 2, none⟩ = some (.slice p.C D.N p.ccap)) ∧ (W.cell? ⟨w.heap.size + 1, 0, none⟩ = some (.slice q.A E.n q.cap) ∧ W.cell? ⟨w.heap.size + 1, 1, none⟩ = some (.slice q.B E.m q.bcap) ∧ W.cell? ⟨w.heap.size + 1, 2, none⟩ = some (.slice q.C E.N q.ccap)) ∧ W.cell? ⟨w.heap.size + 1 + 1, 0, none⟩ = some (.slice X n c) ∧ W.cell? ⟨w.heap.size + 1 + 1, 1, none⟩ = some (.slice Y m d)))
            (first | exact KS.out _ B5 | exact KS.out _ B4 | exact KS.out _ B3 | exact KS.out _ B2 | exact KS.out _ B1 | exact KS.out _ B0d | exact KS.out _ (Below.refl _ _))
            (first
              | (go_at_call 27; refine (HC1.out _ (st HB2.out B0d)).mono ?_; rintro e3 w3 ⟨rfl, rfl⟩)
              | (go_at_call 28; refine (HC2.out _ (st HB2.out B0d)).mono ?_; rintro e4 w4 ⟨rfl, hb4⟩; have B1 : Below w2.heap.size w2 w4 := st B0d hb4)
              | (have _h := B4; go_at_call 29; refine (HS4.out _ (st HB2.out B4)).mono ?_; rintro e8 w8 ⟨rfl, hb8⟩; have B5 : Below w2.heap.size w2 w8 := st B4 hb8)
              | (have _h := B3; go_at_call 26; refine (HS3.out _ (st HB2.out B3)).mono ?_; rintro e7 w7 ⟨rfl, hb7⟩; have B4 : Below w2.heap.size w2 w7 := st B3 hb7)
              | (have _h := B2; go_at_call 29; refine (HS2.out _ (st HB2.out B2)).mono ?_; rintro e6 w6 ⟨rfl, hb6⟩; have B3 : Below w2.heap.size w2 w6 := st B2 hb6)
              | (have _h := B1; go_at_call 26; refine (HS1.out _ (st HB2.out B1)).mono ?_; rintro e5 w5 ⟨rfl, hb5⟩; have B2 : Below w2.heap.size w2 w5 := st B1 hb5))
          all_goals
            have HB8 : Hid (Below w.heap.size w w8) := st HB2.out B5
            have KS8 : Hid (∀ W, Below w8.heap.size w8 W → ((W.cell? ⟨w.heap.size, 0, none⟩ = some (.slice p.A D.n p.cap) ∧ W.cell? ⟨w.heap.size, 1, none⟩ = some (.slice p.B D.m p.bcap) ∧ W.cell? ⟨w.heap.size, 2, none⟩ = some (.slice p.C D.N p.ccap)) ∧ W.cell? ⟨w.heap.size + 1 + 1, 0, none⟩ = some (.slice X n c))) := fun W hW => ⟨(KS.out W (st B5 hW)).1, (KS.out W (st B5 hW)).2.2.1⟩
            have HG1 : Hid (∀ W P k kc f, Below w.heap.size w W → IntsAt W P k f → k ≤ 1000000 → Calls Tryz.prog 30 #[p.val D.n D.m D.N, .slice P k kc] W fun e w' => GetR D k f e w' ∧ Below W.heap.size W w') := fun W P k kc f hW hf hk => as_Get W p D P k kc f (HA.out.below hW) HOA.out hf hk
            have HG2 : Hid (∀ W P k kc f, Below w.heap.size w W → IntsAt W P k f → k ≤ 1000000 → Calls Tryz.prog 31 #[p.val D.n D.m D.N, .slice P k kc] W fun e w' => GetR D k f e w' ∧ Below W.heap.size W w') := fun W P k kc f hW hf hk => ar_Get W p D P k kc f (HA.out.below hW) HOA.out hf hk
            have HSV : Hid (∀ W P Q l lc qc vk vn vd vs, ValsAt W P l vk vn vd vs → ValsAt W Q l vk vn vd vs → l ≤ 1000000 → Calls Tryz.prog 32 #[.slice P l lc, .slice Q l qc] W fun e w' => e = .returned (.bool true) ∧ Below W.heap.size W w') := fun W P Q l lc qc vk vn vd vs h1 h2 h3 => by
              have h := r_SameVals W P Q l lc l qc _ _ _ _ _ _ _ _ h1 h2 h3 h3
              rw [sameV_refl] at h
              exact h
            have HGL : Hid (∀ k f, getL D k f ≤ 1000000) := fun k f => by
              unfold getL
              split
              · rename_i hg
                unfold getB at hg
                rw [Bool.and_eq_true] at hg
                have h2 := hg.2
                unfold foundB at h2
                rw [Bool.and_eq_true] at h2
                have := (HOA.out.cS _ (of_decide_eq_true h2.1)).2.1
                omega
              · omega
            clear HS1 HS2 HS3 HS4 HC1 HC2 KS hzz hr1 hr2 B0d B1 B2 B3 B4 B5 HE HOE
            obtain ⟨⟨a0, a1, a2⟩, c0⟩ := KS8.out w8 (Below.refl _ _)
            go_wp2_with fail
            refine (HG1.out w8 X n c u HB8.out (HX.out.below HB8.out) (by omega)).mono ?_
            rintro e w9 ⟨⟨P1, k1, rfl, v1⟩, hb9⟩
            have HB9 : Hid (Below w.heap.size w w9) := st HB8.out hb9
            have HV9 := Lib.hid v1
            clear a0 a1 a2 c0 v1
            obtain ⟨⟨a0, a1, a2⟩, c0⟩ := KS8.out w9 hb9
            go_wp2_with fail
            refine (HG2.out w9 X n c u HB9.out (HX.out.below HB9.out) (by omega)).mono ?_
            rintro e w10 ⟨⟨P2, k2, rfl, v2⟩, hb10⟩
            have HB10 : Hid (Below w.heap.size w w10) := st HB9.out hb10
            have hb810 := st hb9 hb10
            have HSV1 := Lib.hid (HSV.out w10 P1 P2 _ k1 k2 _ _ _ _ (HV9.out.below hb10) v2 (HGL.out n u))
            clear a0 a1 a2 c0 v2
            have hgb := bb_eq (getB D n u)
            generalize getB D n u = gb at *
            generalize getL D n u = gl at *
            go_wp2_with fail
            refine HSV1.out.mono ?_
            rintro e w11 ⟨rfl, hb11⟩
            have HB11 : Hid (Below w.heap.size w w11) := st HB10.out hb11
            have hb811 := st hb810 hb11
            have KS11 : Hid (∀ W, Below w11.heap.size w11 W → (W.cell? ⟨w.heap.size, 0, none⟩ = some (.slice p.A D.n p.cap) ∧ W.cell? ⟨w.heap.size, 1, none⟩ = some (.slice p.B D.m p.bcap) ∧ W.cell? ⟨w.heap.size, 2, none⟩ = some (.slice p.C D.N p.ccap))) := fun W hW => (KS8.out W (st hb811 hW)).1
            obtain ⟨C, hC⟩ : ∃ C, p.C = C := ⟨_, rfl⟩
            have HG3 : Hid (∀ W P k kc f, Below w.heap.size w W → IntsAt W P k f → k ≤ 1000000 → Calls Tryz.prog 30 #[ArrV p.A D.n p.cap p.B D.m p.bcap C D.N p.ccap, .slice P k kc] W fun e w' => GetR D k f e w' ∧ Below W.heap.size W w') := by rw [← hC]; exact HG1
            have HG4 : Hid (∀ W P k kc f, Below w.heap.size w W → IntsAt W P k f → k ≤ 1000000 → Calls Tryz.prog 31 #[ArrV p.A D.n p.cap p.B D.m p.bcap C D.N p.ccap, .slice P k kc] W fun e w' => GetR D k f e w' ∧ Below W.heap.size W w') := by rw [← hC]; exact HG2
            have HAC : Hid (∀ W, Below w.heap.size w W → CeAt W C D.N D.c) := fun W hW => by rw [← hC]; exact HA.out.cells.below hW
            rw [hC] at KS11
            have HX0 : p.C = C := hC
            clear hgb HSV1 HV9 KS8 hb810 hb811 hb11 hb10 hb9 HG1 HG2 hC
            rw [HX0] at *
            clear HX0
            go_wp2_with fail
            go_loopw [11, 12, 13, 14, 15] (fun i _ _ _ _ wr => ∃ k : Nat, k ≤ D.N ∧ i = .int .i64 k ∧ Hid (Below w11.heap.size w11 wr)) (fun i _ _ _ _ _ => D.N - (intOf i).toNat)
            case atStart => exact ⟨0, Nat.zero_le _, rfl, Below.refl _ _⟩
            case round =>
              obtain ⟨k, hk, rfl, HBr⟩ := hrel
              have HBw : Hid (Below w.heap.size w wr) := st HB11.out HBr.out
              obtain ⟨a0, a1, a2⟩ := KS11.out wr HBr.out
              have hN60 : D.N ≤ 60 := HN.out
              by_cases hlt : k < D.N
              · obtain ⟨bc, oc, rfl, hbc, hcc⟩ := (HAC.out wr HBw.out) (by omega)
                obtain ⟨P0, pc, Q0, qc0, x0, x1, x2, x3, x4⟩ := hcc k hlt
                have hk0 : (0 : Int) ≤ (k : Int) := by omega
                have hkN : (k : Int) < (D.N : Int) := by omega
                have hX2 := Lib.hid x2
                have KC : Hid (∀ W, Below wr.heap.size wr W → W.cell? ⟨bc, oc + k * 2, none⟩ = some (.slice P0 (D.c.ln k) pc) ∧ W.cell? ⟨bc, oc + k * 2 + 1, none⟩ = some (.slice Q0 (D.c.vl k) qc0)) := fun W hW => ⟨(hW.cell (p := ⟨bc, oc + k * 2, none⟩) hbc).trans x0, (hW.cell (p := ⟨bc, oc + k * 2 + 1, none⟩) hbc).trans x1⟩
                have HL1 : D.c.ln k ≤ 1000000 := by omega
                clear hcc x2 x3
                have B0d : Below wr.heap.size wr wr.drew := Below.drew (Below.refl _ _)
                have KR : Hid (∀ W, Below wr.heap.size wr W → (W.cell? ⟨w.heap.size, 0, none⟩ = some (.slice p.A D.n p.cap) ∧ W.cell? ⟨w.heap.size, 1, none⟩ = some (.slice p.B D.m p.bcap) ∧ W.cell? ⟨w.heap.size, 2, none⟩ = some (.slice (some ⟨bc, oc, none⟩) D.N p.ccap)) ∧ W.cell? ⟨bc, oc + k * 2, none⟩ = some (.slice P0 (D.c.ln k) pc) ∧ W.cell? ⟨bc, oc + k * 2 + 1, none⟩ = some (.slice Q0 (D.c.vl k) qc0)) := fun W hW => ⟨KS11.out W (st HBr.out hW), KC.out W hW⟩
                have HG5 : Hid (∀ W, Below wr.heap.size wr W → Calls Tryz.prog 30 #[ArrV p.A D.n p.cap p.B D.m p.bcap (some ⟨bc, oc, none⟩) D.N p.ccap, .slice P0 (D.c.ln k) pc] W fun e w' => GetR D (D.c.ln k) (D.c.x k) e w' ∧ Below W.heap.size W w') := fun W hW => HG3.out W P0 _ pc _ (st HBw.out hW) (hX2.out.below hW) HL1
                have HG6 : Hid (∀ W, Below wr.heap.size wr W → Calls Tryz.prog 31 #[ArrV p.A D.n p.cap p.B D.m p.bcap (some ⟨bc, oc, none⟩) D.N p.ccap, .slice P0 (D.c.ln k) pc] W fun e w' => GetR D (D.c.ln k) (D.c.x k) e w' ∧ Below W.heap.size W w') := fun W hW => HG4.out W P0 _ pc _ (st HBw.out hW) (hX2.out.below hW) HL1
                have hGL := Lib.hid (HGL.out (D.c.ln k) (D.c.x k))
                have hgb := bb_eq (getB D (D.c.ln k) (D.c.x k))
                unfold GetR at HG5 HG6
                generalize getB D (D.c.ln k) (D.c.x k) = gb9 at *
                generalize getL D (D.c.ln k) (D.c.x k) = gl9 at *
                generalize D.c.ln k = L1 at *
                generalize D.c.vl k = V1 at *
                clear x0 x1 KC HL1
                go_wp2_with fail
                go_region_held3 (fun W => (W.cell? ⟨w.heap.size, 0, none⟩ = some (.slice p.A D.n p.cap) ∧ W.cell? ⟨w.heap.size, 1, none⟩ = some (.slice p.B D.m p.bcap) ∧ W.cell? ⟨w.heap.size, 2, none⟩ = some (.slice (some ⟨bc, oc, none⟩) D.N p.ccap)) ∧ W.cell? ⟨bc, oc + k * 2, none⟩ = some (.slice P0 L1 pc) ∧ W.cell? ⟨bc, oc + k * 2 + 1, none⟩ = some (.slice Q0 V1 qc0))
                  (first | exact KR.out _ C1 | exact KR.out _ B0d | exact KR.out _ (Below.refl _ _))
                  (first
                    | (go_at_call 30; refine (HG5.out _ B0d).mono ?_; rintro e12 w12 ⟨⟨P5, k5, rfl, v5⟩, hb12⟩; have C1 : Below wr.heap.size wr w12 := st B0d hb12))
                all_goals
                  have C1d : Below wr.heap.size wr w12.drew := C1.drew
                  have HV5 := Lib.hid v5
                  clear v5 a0 a1 a2
                  obtain ⟨⟨a0, a1, a2⟩, x0, x1⟩ := KR.out w12 C1
                  go_wp2_with fail
                  clear a0 a1 a2 x0 x1
                  go_region_held3 (fun W => (W.cell? ⟨w.heap.size, 0, none⟩ = some (.slice p.A D.n p.cap) ∧ W.cell? ⟨w.heap.size, 1, none⟩ = some (.slice p.B D.m p.bcap) ∧ W.cell? ⟨w.heap.size, 2, none⟩ = some (.slice (some ⟨bc, oc, none⟩) D.N p.ccap)) ∧ W.cell? ⟨bc, oc + k * 2, none⟩ = some (.slice P0 L1 pc) ∧ W.cell? ⟨bc, oc + k * 2 + 1, none⟩ = some (.slice Q0 V1 qc0))
                    (first | exact KR.out _ C2 | exact KR.out _ C1d | exact KR.out _ C1)
                    (first
                      | (go_at_call 31; refine (HG6.out _ C1d).mono ?_; rintro e13 w13 ⟨⟨P6, k6, rfl, v6⟩, hb13⟩; have C2 : Below wr.heap.size wr w13 := st C1d hb13))
                  all_goals
                    have HSV5 := Lib.hid (HSV.out w13 P5 P6 gl9 k5 k6 _ _ _ _ ((HV5.out.below (Below.drew (Below.refl _ _))).below hb13) v6 hGL.out)
                    clear v6 HV5
                    go_wp2_with fail
                    refine HSV5.out.mono ?_
                    rintro e14 w14 ⟨rfl, hb14⟩
                    have HB14 : Hid (Below w11.heap.size w11 w14) := st HBr.out (st C2 hb14)
                    go_wp2
                    go_roundw
                    case rel => exact ⟨k + 1, by omega, by go_num, HB14.out⟩
                    case measure =>
                      simp only [intOf]
                      omega
              · obtain rfl : k = D.N := by omega
                go_wp2_with fail
                refine (HW.out _ HBw.out).mono ?_
                rintro e w12 ⟨rfl, hb12⟩
                go_wp2
                go_ret
                exact ⟨rfl, st HBw.out hb12⟩
end Go.Proofs.YtoippldgoehpcaaGreatDoor

/- Lists of cells compared by the program. -/
import Derived.Test.YthmnmologmmeaaaGreatDoorZArE

/- Lists of cells compared by the program. -/
section
namespace Go.Proofs.YthmnmologmmeaaaGreatDoor
open Go Go.RowKit Go.Deep

set_option maxRecDepth 100000 in
set_option maxHeartbeats 4000000 in
theorem c_EqCells (w : World) (A B : Option Addr) (n ca m d : Nat) (c c' : CeD) (ha : CeAt w A n c) (hb : CeAt w B m c') (hc : CeOk n c) (hc' : CeOk m c') (hn : n ≤ 1000000) (hm : m ≤ 1000000) :
    Calls Tryz.prog 59 #[.slice A n ca, .slice B m d, .func (.func 60) #[] #[]] w fun e w' => e = .returned (.bool (sameC n m c c')) ∧ Below w.heap.size w w' := by
  have HA := Lib.hid ha
  have HB := Lib.hid hb
  have HC := Lib.hid hc
  have HC' := Lib.hid hc'
  have HI := Lib.hid s_sameCell
  obtain ⟨ve, hve⟩ : ∃ ve, sameC n m c c' = ve := ⟨_, rfl⟩
  rw [hve]
  have HV := Lib.hid hve
  clear ha hb hve hc hc'
  by_cases h0 : n = m
  · subst h0
    have HE : Hid (ve = allTo (celQ c c') n) := by show _ = _; rw [← HV.out, sameC, beq_self_eq_true, Bool.true_and]
    go_enter Tryz.func59, Tryz.ntmps59
    go_wp2
    go_loopw [7, 8, 9, 17] (fun _ _ _ i wr => ∃ k : Nat, k ≤ n ∧ i = .int .i64 k ∧ Hid (allTo (celQ c c') k = true) ∧ Hid (Below w.heap.size w wr)) (fun _ _ _ i _ => n - (intOf i).toNat)
    case atStart => exact ⟨0, Nat.zero_le _, rfl, rfl, Below.refl _ _⟩
    case round =>
      obtain ⟨k, hk, rfl, HK, HBw⟩ := hrel
      by_cases hlt : k < n
      · obtain ⟨b1, o1, rfl, hb1, hc1⟩ := (HA.out.below HBw.out) (by omega)
        obtain ⟨P, pc, Q, qc, x0, x1, x2, x3, x4⟩ := hc1 k hlt
        obtain ⟨b2, o2, rfl, hb2, hc2⟩ := (HB.out.below HBw.out) (by omega)
        obtain ⟨P', pc', Q', qc', y0, y1, y2, y3, y4⟩ := hc2 k hlt
        clear hc1 hc2
        have HS : Hid (allTo (celQ c c') (k + 1) = celQ c c' k) := by show _ = _; rw [allTo, HK.out, Bool.true_and]
        have HD : Hid (celQ c c' k = (sameZ (c.ln k) (c'.ln k) (c.x k) (c'.x k) && sameV (c.vl k) (c'.vl k) (c.vk k) (c'.vk k) (c.vn k) (c'.vn k) (c.vd k) (c'.vd k) (c.vs k) (c'.vs k))) := rfl
        have HL : Hid (celQ c c' k = false → ve = false) := fun h => by rw [HE.out]; exact allTo_le (k := k + 1) (by rw [HS.out, h]) (by omega)
        have hz := HC.out k hlt
        have hz' := HC'.out k hlt
        have HI1 : Hid (∀ W, Below wr.heap.size wr W → Calls Tryz.prog 60 #[CelV P (c.ln k) pc Q (c.vl k) qc, CelV P' (c'.ln k) pc' Q' (c'.vl k) qc'] W fun e w' => e = .returned (.bool (celQ c c' k)) ∧ Below W.heap.size W w') := fun W hW => HI.out W P P' Q Q' _ _ _ _ _ _ _ _ _ _ _ _ _ _ _ _ _ _ (x2.below hW) (y2.below hW) (x3.below hW) (y3.below hW) (by omega) (by omega) (by omega) (by omega)
        clear x2 x3 x4 y2 y3 y4 hz hz' HD
        generalize celQ c c' k = r1 at *
        generalize c.ln k = L1 at *
        generalize c'.ln k = L2 at *
        generalize c.vl k = V1 at *
        generalize c'.vl k = V2 at *
        have HBb : Hid (Below wr.heap.size wr ((wr.alloc (.cells #[.slice P L1 pc, .slice Q V1 qc] 38)).alloc (.cells #[.slice P' L2 pc', .slice Q' V2 qc'] 38))) := ((Below.refl _ _).alloc (Nat.le_refl _) _).alloc (by simp) _
        go_wp2_with fail
        generalize (wr.alloc (.cells #[.slice P L1 pc, .slice Q V1 qc] 38)).alloc (.cells #[.slice P' L2 pc', .slice Q' V2 qc'] 38) = wb at *
        refine (HI1.out _ HBb.out).mono ?_
        rintro e w2 ⟨rfl, hb2⟩
        have HB2 : Hid (Below w.heap.size w w2) := st HBw.out (st HBb.out hb2)
        cases r1
        · have HF : Hid (ve = false) := HL.out rfl
          go_wp2
          go_ret
          exact ⟨by rw [HF.out]; rfl, HB2.out⟩
        · go_wp2
          go_roundw
          case rel => exact ⟨k + 1, by omega, by go_num, HS, HB2.out⟩
          case measure => simp [intOf]; omega
      · obtain rfl : k = n := by omega
        go_wp2
        go_ret
        exact ⟨by rw [HE.out, HK.out]; rfl, HBw.out⟩
  · have HE : Hid (ve = false) := by show _ = _; rw [← HV.out, sameC, beq_false_of_ne h0, Bool.false_and]
    have h1 : ((n : Int) != (m : Int)) = true := by rw [bne_iff_ne]; omega
    go_enter Tryz.func59, Tryz.ntmps59
    go_wp2
    go_ret
    exact ⟨by rw [HE.out]; rfl, Below.refl _ _⟩
end Go.Proofs.YthmnmologmmeaaaGreatDoor
end

/- Arrays compared. -/
section
namespace Go.Proofs.YthmnmologmmeaaaGreatDoor
open Go Go.RowKit Go.Deep

/-- The box of an array. -/
abbrev ArP.obj (p : ArP) (n m N : Nat) : Obj := .cells #[.slice p.A n p.cap, .slice p.B m p.bcap, .slice p.C N p.ccap] 29
/-- The array lies in the box at b. -/
def ArIn (W : World) (b : Nat) (p : ArP) (n m N : Nat) : Prop := W.cell? ⟨b, 0, none⟩ = some (.slice p.A n p.cap) ∧ W.cell? ⟨b, 1, none⟩ = some (.slice p.B m p.bcap) ∧ W.cell? ⟨b, 2, none⟩ = some (.slice p.C N p.ccap)
theorem two_arr (w : World) (p q : ArP) (n m N n' m' N' : Nat) (W : World) (hW : Below (w.heap.size + 2) ((w.alloc (p.obj n m N)).alloc (q.obj n' m' N')) W) : ArIn W w.heap.size p n m N ∧ ArIn W (w.heap.size + 1) q n' m' N' := by
  have q0 := arr_box w (.slice p.A n p.cap) (.slice p.B m p.bcap) (.slice p.C N p.ccap) 29 W (Below.trans ((Below.refl _ _).alloc (Nat.le_refl _) _) (hW.mono (by simp)))
  have q1 := arr_box (w.alloc (p.obj n m N)) (.slice q.A n' q.cap) (.slice q.B m' q.bcap) (.slice q.C N' q.ccap) 29 W (by rw [World.size_alloc, World.size_alloc]; exact hW)
  rw [World.size_alloc] at q1
  exact ⟨q0, q1⟩
set_option maxRecDepth 100000 in
set_option maxHeartbeats 4000000 in
theorem ar_Equal (w : World) (p q : ArP) (D E : ArD) (h : ArAt w p D) (ho : ArOk D) (h' : ArAt w q E) (ho' : ArOk E) :
    Calls Tryz.prog 13 #[p.val D.n D.m D.N, q.val E.n E.m E.N] w fun e w' => e = .returned (.bool (eqAr D E)) ∧ Below w.heap.size w w' := by
  have HT := Lib.hid (two_arr w p q D.n D.m D.N E.n E.m E.N)
  have hz0 : ((w.alloc (p.obj D.n D.m D.N)).alloc (q.obj E.n E.m E.N)).heap.size = w.heap.size + 2 := by simp
  have HB : Hid (Below w.heap.size w ((w.alloc (p.obj D.n D.m D.N)).alloc (q.obj E.n E.m E.N))) := ((Below.refl _ _).alloc (Nat.le_refl _) _).alloc (by simp) _
  have n1 := ho.n1
  have n2 := ho'.n1
  have m1 := ho.m1
  have m2 := ho'.m1
  have H1 : Hid (∀ W, Below w.heap.size w W → Calls Tryz.prog 53 #[.slice p.A D.n p.cap, .slice q.A E.n q.cap] W fun e w' => e = .returned (.bool (sameD D.n E.n D.nm E.nm D.lo E.lo D.hi E.hi)) ∧ Below W.heap.size W w') := fun W hW => r_SameDims W _ _ _ _ _ _ _ _ _ _ _ _ (h.dims.below hW) (h'.dims.below hW) (by omega) (by omega)
  have H2 : Hid (∀ W, Below w.heap.size w W → Calls Tryz.prog 54 #[.slice p.B D.m p.bcap, .slice q.B E.m q.bcap] W fun e w' => e = .returned (.bool (sameA D.m E.m D.an E.an D.ty E.ty)) ∧ Below W.heap.size W w') := fun W hW => r_SameAttrs W _ _ _ _ _ _ _ _ _ _ (h.attrs.below hW) (h'.attrs.below hW) (by omega) (by omega)
  have H3 : Hid (∀ W, Below w.heap.size w W → Calls Tryz.prog 55 #[.slice p.C D.N p.ccap, .slice q.C E.N q.ccap] W fun e w' => e = .returned (.bool (sameC D.N E.N D.c E.c)) ∧ Below W.heap.size W w') := fun W hW => r_SameCells W _ _ _ _ _ _ _ _ (h.cells.below hW) (h'.cells.below hW) ho.cS ho'.cS ho.N1 ho'.N1
  have HD : Hid (eqAr D E = (sameD D.n E.n D.nm E.nm D.lo E.lo D.hi E.hi && (sameA D.m E.m D.an E.an D.ty E.ty && sameC D.N E.N D.c E.c))) := rfl
  rw [HD.out]
  clear h h' ho ho' n1 n2 m1 m2 HD
  generalize sameD D.n E.n D.nm E.nm D.lo E.lo D.hi E.hi = r1 at *
  generalize sameA D.m E.m D.an E.an D.ty E.ty = r2 at *
  generalize sameC D.N E.N D.c E.c = r3 at *
  go_enter Tryz.func13, Tryz.ntmps13
  go_wp2_with fail
  generalize (w.alloc (p.obj D.n D.m D.N)).alloc (q.obj E.n E.m E.N) = W0 at *
  rw [← hz0] at HT
  obtain ⟨⟨a0, a1, a2⟩, b0, b1, b2⟩ := HT.out W0 (Below.refl _ _)
  go_wp2_with fail
  refine (H1.out _ HB.out).mono ?_
  rintro e w1 ⟨rfl, hb1⟩
  have HB1 : Hid (Below w.heap.size w w1) := st HB.out hb1
  clear a0 a1 a2 b0 b1 b2
  cases r1
  · go_wp2
    go_ret
    exact ⟨rfl, HB1.out⟩
  · obtain ⟨⟨a0, a1, a2⟩, b0, b1, b2⟩ := HT.out w1 hb1
    go_wp2_with fail
    refine (H2.out _ HB1.out).mono ?_
    rintro e w2 ⟨rfl, hb2⟩
    have HB2 : Hid (Below w.heap.size w w2) := st HB1.out hb2
    clear a0 a1 a2 b0 b1 b2
    cases r2
    · go_wp2
      go_ret
      exact ⟨rfl, HB2.out⟩
    · obtain ⟨⟨a0, a1, a2⟩, b0, b1, b2⟩ := HT.out w2 (st hb1 hb2)
      go_wp2_with fail
      refine (H3.out _ HB2.out).mono ?_
      rintro e w3 ⟨rfl, hb3⟩
      go_wp2
      go_ret
      exact ⟨by cases r3 <;> rfl, st HB2.out hb3⟩

/-- Are two arrays valid, and equal? -/
noncomputable def sameAr (D E : ArD) : Bool := D.check == 0 && (E.check == 0 && eqAr D E)
set_option maxRecDepth 100000 in
set_option maxHeartbeats 4000000 in
theorem as_Same (w : World) (p q : ArP) (D E : ArD) (h : ArAt w p D) (ho : ArOk D) (h' : ArAt w q E) (ho' : ArOk E) :
    Calls Tryz.prog 16 #[p.val D.n D.m D.N, q.val E.n E.m E.N] w fun e w' => e = .returned (.bool (sameAr D E)) ∧ Below w.heap.size w w' := by
  have HT := Lib.hid (two_arr w p q D.n D.m D.N E.n E.m E.N)
  have hz0 : ((w.alloc (p.obj D.n D.m D.N)).alloc (q.obj E.n E.m E.N)).heap.size = w.heap.size + 2 := by simp
  have HB : Hid (Below w.heap.size w ((w.alloc (p.obj D.n D.m D.N)).alloc (q.obj E.n E.m E.N))) := ((Below.refl _ _).alloc (Nat.le_refl _) _).alloc (by simp) _
  have n1 := ho.n1
  have n2 := ho'.n1
  have m1 := ho.m1
  have m2 := ho'.m1
  have HC1 : Hid (∀ W, Below w.heap.size w W → Calls Tryz.prog 14 #[p.val D.n D.m D.N] W fun e w' => e = .returned (.int .i64 D.check) ∧ Below W.heap.size W w') := fun W hW => as_Check W p D (h.below hW) ho
  have HC2 : Hid (∀ W, Below w.heap.size w W → Calls Tryz.prog 14 #[q.val E.n E.m E.N] W fun e w' => e = .returned (.int .i64 E.check) ∧ Below W.heap.size W w') := fun W hW => as_Check W q E (h'.below hW) ho'
  have H1 : Hid (∀ W, Below w.heap.size w W → Calls Tryz.prog 57 #[.slice p.A D.n p.cap, .slice q.A E.n q.cap] W fun e w' => e = .returned (.bool (sameD D.n E.n D.nm E.nm D.lo E.lo D.hi E.hi)) ∧ Below W.heap.size W w') := fun W hW => c_EqDims W _ _ _ _ _ _ _ _ _ _ _ _ (h.dims.below hW) (h'.dims.below hW) (by omega) (by omega)
  have H2 : Hid (∀ W, Below w.heap.size w W → Calls Tryz.prog 58 #[.slice p.B D.m p.bcap, .slice q.B E.m q.bcap] W fun e w' => e = .returned (.bool (sameA D.m E.m D.an E.an D.ty E.ty)) ∧ Below W.heap.size W w') := fun W hW => c_EqAttrs W _ _ _ _ _ _ _ _ _ _ (h.attrs.below hW) (h'.attrs.below hW) (by omega) (by omega)
  have H3 : Hid (∀ W, Below w.heap.size w W → Calls Tryz.prog 59 #[.slice p.C D.N p.ccap, .slice q.C E.N q.ccap, .func (.func 60) #[] #[]] W fun e w' => e = .returned (.bool (sameC D.N E.N D.c E.c)) ∧ Below W.heap.size W w') := fun W hW => c_EqCells W _ _ _ _ _ _ _ _ (h.cells.below hW) (h'.cells.below hW) ho.cS ho'.cS ho.N1 ho'.N1
  have HD : Hid (sameAr D E = (D.check == 0 && (E.check == 0 && (sameD D.n E.n D.nm E.nm D.lo E.lo D.hi E.hi && (sameA D.m E.m D.an E.an D.ty E.ty && sameC D.N E.N D.c E.c))))) := rfl
  rw [HD.out]
  clear h h' ho ho' n1 n2 m1 m2 HD
  generalize sameD D.n E.n D.nm E.nm D.lo E.lo D.hi E.hi = r1 at *
  generalize sameA D.m E.m D.an E.an D.ty E.ty = r2 at *
  generalize sameC D.N E.N D.c E.c = r3 at *
  generalize D.check = s1 at *
  generalize E.check = s2 at *
  go_enter Tryz.func16, Tryz.ntmps16
  go_wp2_with fail
  generalize (w.alloc (p.obj D.n D.m D.N)).alloc (q.obj E.n E.m E.N) = W0 at *
  rw [← hz0] at HT
  obtain ⟨⟨a0, a1, a2⟩, b0, b1, b2⟩ := HT.out W0 (Below.refl _ _)
  go_wp2_with fail
  refine (HC1.out _ HB.out).mono ?_
  rintro e w1 ⟨rfl, hb1⟩
  have HB1 : Hid (Below w.heap.size w w1) := st HB.out hb1
  clear a0 a1 a2 b0 b1 b2
  by_cases g1 : s1 = 0
  · subst g1
    obtain ⟨⟨a0, a1, a2⟩, b0, b1, b2⟩ := HT.out w1 hb1
    go_wp2_with fail
    refine (HC2.out _ HB1.out).mono ?_
    rintro e w2 ⟨rfl, hb2⟩
    have HB2 : Hid (Below w.heap.size w w2) := st HB1.out hb2
    have hb12 := st hb1 hb2
    clear a0 a1 a2 b0 b1 b2
    by_cases g2 : s2 = 0
    · subst g2
      obtain ⟨⟨a0, a1, a2⟩, b0, b1, b2⟩ := HT.out w2 hb12
      go_wp2_with fail
      refine (H1.out _ HB2.out).mono ?_
      rintro e w3 ⟨rfl, hb3⟩
      have HB3 : Hid (Below w.heap.size w w3) := st HB2.out hb3
      have hb13 := st hb12 hb3
      clear a0 a1 a2 b0 b1 b2
      cases r1
      · go_wp2
        go_ret
        exact ⟨rfl, HB3.out⟩
      · obtain ⟨⟨a0, a1, a2⟩, b0, b1, b2⟩ := HT.out w3 hb13
        go_wp2_with fail
        refine (H2.out _ HB3.out).mono ?_
        rintro e w4 ⟨rfl, hb4⟩
        have HB4 : Hid (Below w.heap.size w w4) := st HB3.out hb4
        have hb14 := st hb13 hb4
        clear a0 a1 a2 b0 b1 b2
        cases r2
        · go_wp2
          go_ret
          exact ⟨rfl, HB4.out⟩
        · obtain ⟨⟨a0, a1, a2⟩, b0, b1, b2⟩ := HT.out w4 hb14
          go_wp2_with fail
          refine (H3.out _ HB4.out).mono ?_
          rintro e w5 ⟨rfl, hb5⟩
          go_wp2
          go_ret
          exact ⟨by cases r3 <;> rfl, st HB4.out hb5⟩
    · have g3 : (s2 == 0) = false := by rw [beq_eq_false_iff_ne]; exact g2
      have g4 : (s2 != 0) = true := by rw [bne_iff_ne]; exact g2
      go_wp2
      go_ret
      exact ⟨by rw [g3]; rfl, HB2.out⟩
  · have g3 : (s1 == 0) = false := by rw [beq_eq_false_iff_ne]; exact g1
    have g4 : (s1 != 0) = true := by rw [bne_iff_ne]; exact g1
    go_wp2
    go_ret
    exact ⟨by rw [g3]; rfl, HB1.out⟩
end Go.Proofs.YthmnmologmmeaaaGreatDoor
end

/- Lists of cells compared by the program. -/
import Derived.Test.YtoippldgoehpcaaGreatDoorZArE
import Derived.Test.YtoippldgoehpcaaGreatDoorZRfO
import Derived.Maps.AppendAt
import Derived.Test.YtoippldgoehpcaaGreatDoorShelf

/- Lists of cells compared by the program. -/
section
namespace Go.Proofs.YtoippldgoehpcaaGreatDoor
open Go Go.RowKit Go.Deep

set_option maxRecDepth 100000 in
set_option maxHeartbeats 4000000 in
theorem c_EqCells (w : World) (A B : Option Addr) (n ca m d : Nat) (c c' : CeD) (ha : CeAt w A n c) (hb : CeAt w B m c') (hc : CeOk n c) (hc' : CeOk m c') (hn : n ≤ 1000000) (hm : m ≤ 1000000) :
    Calls Tryz.prog 87 #[.slice A n ca, .slice B m d, .func (.func 88) #[] #[]] w fun e w' => e = .returned (.bool (sameC n m c c')) ∧ Below w.heap.size w w' := by
  have HA := Lib.hid ha
  have HB := Lib.hid hb
  have HC := Lib.hid hc
  have HC' := Lib.hid hc'
  have HI := Lib.hid s_sameCell
  obtain ⟨ve, hve⟩ : ∃ ve, sameC n m c c' = ve := ⟨_, rfl⟩
  rw [hve]
  have HV := Lib.hid hve
  clear ha hb hve hc hc'
  by_cases h0 : n = m
  · subst h0
    have HE : Hid (ve = allTo (celQ c c') n) := by show _ = _; rw [← HV.out, sameC, beq_self_eq_true, Bool.true_and]
    go_enter Tryz.func87, Tryz.ntmps87
    go_wp2
    go_loopw [7, 8, 9, 17] (fun _ _ _ i wr => ∃ k : Nat, k ≤ n ∧ i = .int .i64 k ∧ Hid (allTo (celQ c c') k = true) ∧ Hid (Below w.heap.size w wr)) (fun _ _ _ i _ => n - (intOf i).toNat)
    case atStart => exact ⟨0, Nat.zero_le _, rfl, rfl, Below.refl _ _⟩
    case round =>
      obtain ⟨k, hk, rfl, HK, HBw⟩ := hrel
      by_cases hlt : k < n
      · obtain ⟨b1, o1, rfl, hb1, hc1⟩ := (HA.out.below HBw.out) (by omega)
        obtain ⟨P, pc, Q, qc, x0, x1, x2, x3, x4⟩ := hc1 k hlt
        obtain ⟨b2, o2, rfl, hb2, hc2⟩ := (HB.out.below HBw.out) (by omega)
        obtain ⟨P', pc', Q', qc', y0, y1, y2, y3, y4⟩ := hc2 k hlt
        clear hc1 hc2
        have HS : Hid (allTo (celQ c c') (k + 1) = celQ c c' k) := by show _ = _; rw [allTo, HK.out, Bool.true_and]
        have HD : Hid (celQ c c' k = (sameZ (c.ln k) (c'.ln k) (c.x k) (c'.x k) && sameV (c.vl k) (c'.vl k) (c.vk k) (c'.vk k) (c.vn k) (c'.vn k) (c.vd k) (c'.vd k) (c.vs k) (c'.vs k))) := rfl
        have HL : Hid (celQ c c' k = false → ve = false) := fun h => by rw [HE.out]; exact allTo_le (k := k + 1) (by rw [HS.out, h]) (by omega)
        have hz := HC.out k hlt
        have hz' := HC'.out k hlt
        have HI1 : Hid (∀ W, Below wr.heap.size wr W → Calls Tryz.prog 88 #[CelV P (c.ln k) pc Q (c.vl k) qc, CelV P' (c'.ln k) pc' Q' (c'.vl k) qc'] W fun e w' => e = .returned (.bool (celQ c c' k)) ∧ Below W.heap.size W w') := fun W hW => HI.out W P P' Q Q' _ _ _ _ _ _ _ _ _ _ _ _ _ _ _ _ _ _ (x2.below hW) (y2.below hW) (x3.below hW) (y3.below hW) (by omega) (by omega) (by omega) (by omega)
        clear x2 x3 x4 y2 y3 y4 hz hz' HD
        generalize celQ c c' k = r1 at *
        generalize c.ln k = L1 at *
        generalize c'.ln k = L2 at *
        generalize c.vl k = V1 at *
        generalize c'.vl k = V2 at *
        have HBb : Hid (Below wr.heap.size wr ((wr.alloc (.cells #[.slice P L1 pc, .slice Q V1 qc] 41)).alloc (.cells #[.slice P' L2 pc', .slice Q' V2 qc'] 41))) := ((Below.refl _ _).alloc (Nat.le_refl _) _).alloc (by simp) _
        go_wp2_with fail
        generalize (wr.alloc (.cells #[.slice P L1 pc, .slice Q V1 qc] 41)).alloc (.cells #[.slice P' L2 pc', .slice Q' V2 qc'] 41) = wb at *
        refine (HI1.out _ HBb.out).mono ?_
        rintro e w2 ⟨rfl, hb2⟩
        have HB2 : Hid (Below w.heap.size w w2) := st HBw.out (st HBb.out hb2)
        cases r1
        · have HF : Hid (ve = false) := HL.out rfl
          go_wp2
          go_ret
          exact ⟨by rw [HF.out]; rfl, HB2.out⟩
        · go_wp2
          go_roundw
          case rel => exact ⟨k + 1, by omega, by go_num, HS, HB2.out⟩
          case measure => simp [intOf]; omega
      · obtain rfl : k = n := by omega
        go_wp2
        go_ret
        exact ⟨by rw [HE.out, HK.out]; rfl, HBw.out⟩
  · have HE : Hid (ve = false) := by show _ = _; rw [← HV.out, sameC, beq_false_of_ne h0, Bool.false_and]
    have h1 : ((n : Int) != (m : Int)) = true := by rw [bne_iff_ne]; omega
    go_enter Tryz.func87, Tryz.ntmps87
    go_wp2
    go_ret
    exact ⟨by rw [HE.out]; rfl, Below.refl _ _⟩
end Go.Proofs.YtoippldgoehpcaaGreatDoor
end

/- Arrays compared. -/
section
namespace Go.Proofs.YtoippldgoehpcaaGreatDoor
open Go Go.RowKit Go.Deep

/-- The box of an array. -/
abbrev ArP.obj (p : ArP) (n m N : Nat) : Obj := .cells #[.slice p.A n p.cap, .slice p.B m p.bcap, .slice p.C N p.ccap] 26
/-- The array lies in the box at b. -/
def ArIn (W : World) (b : Nat) (p : ArP) (n m N : Nat) : Prop := W.cell? ⟨b, 0, none⟩ = some (.slice p.A n p.cap) ∧ W.cell? ⟨b, 1, none⟩ = some (.slice p.B m p.bcap) ∧ W.cell? ⟨b, 2, none⟩ = some (.slice p.C N p.ccap)
theorem two_arr (w : World) (p q : ArP) (n m N n' m' N' : Nat) (W : World) (hW : Below (w.heap.size + 2) ((w.alloc (p.obj n m N)).alloc (q.obj n' m' N')) W) : ArIn W w.heap.size p n m N ∧ ArIn W (w.heap.size + 1) q n' m' N' := by
  have q0 := arr_box w (.slice p.A n p.cap) (.slice p.B m p.bcap) (.slice p.C N p.ccap) 26 W (Below.trans ((Below.refl _ _).alloc (Nat.le_refl _) _) (hW.mono (by simp)))
  have q1 := arr_box (w.alloc (p.obj n m N)) (.slice q.A n' q.cap) (.slice q.B m' q.bcap) (.slice q.C N' q.ccap) 26 W (by rw [World.size_alloc, World.size_alloc]; exact hW)
  rw [World.size_alloc] at q1
  exact ⟨q0, q1⟩
set_option maxRecDepth 100000 in
set_option maxHeartbeats 4000000 in
theorem ar_Equal (w : World) (p q : ArP) (D E : ArD) (h : ArAt w p D) (ho : ArOk D) (h' : ArAt w q E) (ho' : ArOk E) :
    Calls Tryz.prog 24 #[p.val D.n D.m D.N, q.val E.n E.m E.N] w fun e w' => e = .returned (.bool (eqAr D E)) ∧ Below w.heap.size w w' := by
  have HT := Lib.hid (two_arr w p q D.n D.m D.N E.n E.m E.N)
  have hz0 : ((w.alloc (p.obj D.n D.m D.N)).alloc (q.obj E.n E.m E.N)).heap.size = w.heap.size + 2 := by simp
  have HB : Hid (Below w.heap.size w ((w.alloc (p.obj D.n D.m D.N)).alloc (q.obj E.n E.m E.N))) := ((Below.refl _ _).alloc (Nat.le_refl _) _).alloc (by simp) _
  have n1 := ho.n1
  have n2 := ho'.n1
  have m1 := ho.m1
  have m2 := ho'.m1
  have H1 : Hid (∀ W, Below w.heap.size w W → Calls Tryz.prog 81 #[.slice p.A D.n p.cap, .slice q.A E.n q.cap] W fun e w' => e = .returned (.bool (sameD D.n E.n D.nm E.nm D.lo E.lo D.hi E.hi)) ∧ Below W.heap.size W w') := fun W hW => r_SameDims W _ _ _ _ _ _ _ _ _ _ _ _ (h.dims.below hW) (h'.dims.below hW) (by omega) (by omega)
  have H2 : Hid (∀ W, Below w.heap.size w W → Calls Tryz.prog 82 #[.slice p.B D.m p.bcap, .slice q.B E.m q.bcap] W fun e w' => e = .returned (.bool (sameA D.m E.m D.an E.an D.ty E.ty)) ∧ Below W.heap.size W w') := fun W hW => r_SameAttrs W _ _ _ _ _ _ _ _ _ _ (h.attrs.below hW) (h'.attrs.below hW) (by omega) (by omega)
  have H3 : Hid (∀ W, Below w.heap.size w W → Calls Tryz.prog 83 #[.slice p.C D.N p.ccap, .slice q.C E.N q.ccap] W fun e w' => e = .returned (.bool (sameC D.N E.N D.c E.c)) ∧ Below W.heap.size W w') := fun W hW => r_SameCells W _ _ _ _ _ _ _ _ (h.cells.below hW) (h'.cells.below hW) ho.cS ho'.cS ho.N1 ho'.N1
  have HD : Hid (eqAr D E = (sameD D.n E.n D.nm E.nm D.lo E.lo D.hi E.hi && (sameA D.m E.m D.an E.an D.ty E.ty && sameC D.N E.N D.c E.c))) := rfl
  rw [HD.out]
  clear h h' ho ho' n1 n2 m1 m2 HD
  generalize sameD D.n E.n D.nm E.nm D.lo E.lo D.hi E.hi = r1 at *
  generalize sameA D.m E.m D.an E.an D.ty E.ty = r2 at *
  generalize sameC D.N E.N D.c E.c = r3 at *
  go_enter Tryz.func24, Tryz.ntmps24
  go_wp2_with fail
  generalize (w.alloc (p.obj D.n D.m D.N)).alloc (q.obj E.n E.m E.N) = W0 at *
  rw [← hz0] at HT
  obtain ⟨⟨a0, a1, a2⟩, b0, b1, b2⟩ := HT.out W0 (Below.refl _ _)
  go_wp2_with fail
  refine (H1.out _ HB.out).mono ?_
  rintro e w1 ⟨rfl, hb1⟩
  have HB1 : Hid (Below w.heap.size w w1) := st HB.out hb1
  clear a0 a1 a2 b0 b1 b2
  cases r1
  · go_wp2
    go_ret
    exact ⟨rfl, HB1.out⟩
  · obtain ⟨⟨a0, a1, a2⟩, b0, b1, b2⟩ := HT.out w1 hb1
    go_wp2_with fail
    refine (H2.out _ HB1.out).mono ?_
    rintro e w2 ⟨rfl, hb2⟩
    have HB2 : Hid (Below w.heap.size w w2) := st HB1.out hb2
    clear a0 a1 a2 b0 b1 b2
    cases r2
    · go_wp2
      go_ret
      exact ⟨rfl, HB2.out⟩
    · obtain ⟨⟨a0, a1, a2⟩, b0, b1, b2⟩ := HT.out w2 (st hb1 hb2)
      go_wp2_with fail
      refine (H3.out _ HB2.out).mono ?_
      rintro e w3 ⟨rfl, hb3⟩
      go_wp2
      go_ret
      exact ⟨by cases r3 <;> rfl, st HB2.out hb3⟩

/-- Are two arrays valid, and equal? -/
noncomputable def sameAr (D E : ArD) : Bool := D.check == 0 && (E.check == 0 && eqAr D E)
set_option maxRecDepth 100000 in
set_option maxHeartbeats 4000000 in
theorem ar_Same (w : World) (p q : ArP) (D E : ArD) (h : ArAt w p D) (ho : ArOk D) (h' : ArAt w q E) (ho' : ArOk E) :
    Calls Tryz.prog 29 #[p.val D.n D.m D.N, q.val E.n E.m E.N] w fun e w' => e = .returned (.bool (sameAr D E)) ∧ Below w.heap.size w w' := by
  have HT := Lib.hid (two_arr w p q D.n D.m D.N E.n E.m E.N)
  have hz0 : ((w.alloc (p.obj D.n D.m D.N)).alloc (q.obj E.n E.m E.N)).heap.size = w.heap.size + 2 := by simp
  have HB : Hid (Below w.heap.size w ((w.alloc (p.obj D.n D.m D.N)).alloc (q.obj E.n E.m E.N))) := ((Below.refl _ _).alloc (Nat.le_refl _) _).alloc (by simp) _
  have H1 : Hid (∀ W, Below w.heap.size w W → Calls Tryz.prog 18 #[p.val D.n D.m D.N] W fun e w' => e = .returned (.int .i64 D.check) ∧ Below W.heap.size W w') := fun W hW => ar_Check W p D (h.below hW) ho
  have H2 : Hid (∀ W, Below w.heap.size w W → Calls Tryz.prog 18 #[q.val E.n E.m E.N] W fun e w' => e = .returned (.int .i64 E.check) ∧ Below W.heap.size W w') := fun W hW => ar_Check W q E (h'.below hW) ho'
  have H3 : Hid (∀ W, Below w.heap.size w W → Calls Tryz.prog 24 #[p.val D.n D.m D.N, q.val E.n E.m E.N] W fun e w' => e = .returned (.bool (eqAr D E)) ∧ Below W.heap.size W w') := fun W hW => ar_Equal W p q D E (h.below hW) ho (h'.below hW) ho'
  have HD : Hid (sameAr D E = (D.check == 0 && (E.check == 0 && eqAr D E))) := rfl
  rw [HD.out]
  clear h h' ho ho' HD
  generalize D.check = r1 at *
  generalize E.check = r2 at *
  generalize eqAr D E = r3 at *
  go_enter Tryz.func29, Tryz.ntmps29
  go_wp2_with fail
  generalize (w.alloc (p.obj D.n D.m D.N)).alloc (q.obj E.n E.m E.N) = W0 at *
  rw [← hz0] at HT
  obtain ⟨⟨a0, a1, a2⟩, b0, b1, b2⟩ := HT.out W0 (Below.refl _ _)
  go_wp2_with fail
  refine (H1.out _ HB.out).mono ?_
  rintro e w1 ⟨rfl, hb1⟩
  have HB1 : Hid (Below w.heap.size w w1) := st HB.out hb1
  clear a0 a1 a2 b0 b1 b2
  by_cases g1 : r1 = 0
  · subst g1
    obtain ⟨⟨a0, a1, a2⟩, b0, b1, b2⟩ := HT.out w1 hb1
    go_wp2_with fail
    refine (H2.out _ HB1.out).mono ?_
    rintro e w2 ⟨rfl, hb2⟩
    have HB2 : Hid (Below w.heap.size w w2) := st HB1.out hb2
    clear a0 a1 a2 b0 b1 b2
    by_cases g2 : r2 = 0
    · subst g2
      obtain ⟨⟨a0, a1, a2⟩, b0, b1, b2⟩ := HT.out w2 (st hb1 hb2)
      go_wp2_with fail
      refine (H3.out _ HB2.out).mono ?_
      rintro e w3 ⟨rfl, hb3⟩
      go_wp2
      go_ret
      exact ⟨by cases r3 <;> rfl, st HB2.out hb3⟩
    · have g3 : (r2 == 0) = false := by rw [beq_eq_false_iff_ne]; exact g2
      go_wp2
      go_ret
      exact ⟨by first | rfl | (rw [g3]; rfl), HB2.out⟩
  · have g3 : (r1 == 0) = false := by rw [beq_eq_false_iff_ne]; exact g1
    go_wp2
    go_ret
    exact ⟨by first | rfl | (rw [g3]; rfl), HB1.out⟩

set_option maxRecDepth 100000 in
set_option maxHeartbeats 4000000 in
theorem as_Same (w : World) (p q : ArP) (D E : ArD) (h : ArAt w p D) (ho : ArOk D) (h' : ArAt w q E) (ho' : ArOk E) :
    Calls Tryz.prog 26 #[p.val D.n D.m D.N, q.val E.n E.m E.N] w fun e w' => e = .returned (.bool (sameAr D E)) ∧ Below w.heap.size w w' := by
  have HT := Lib.hid (two_arr w p q D.n D.m D.N E.n E.m E.N)
  have hz0 : ((w.alloc (p.obj D.n D.m D.N)).alloc (q.obj E.n E.m E.N)).heap.size = w.heap.size + 2 := by simp
  have HB : Hid (Below w.heap.size w ((w.alloc (p.obj D.n D.m D.N)).alloc (q.obj E.n E.m E.N))) := ((Below.refl _ _).alloc (Nat.le_refl _) _).alloc (by simp) _
  have n1 := ho.n1
  have n2 := ho'.n1
  have m1 := ho.m1
  have m2 := ho'.m1
  have HC1 : Hid (∀ W, Below w.heap.size w W → Calls Tryz.prog 17 #[p.val D.n D.m D.N] W fun e w' => e = .returned (.int .i64 D.check) ∧ Below W.heap.size W w') := fun W hW => as_Check W p D (h.below hW) ho
  have HC2 : Hid (∀ W, Below w.heap.size w W → Calls Tryz.prog 17 #[q.val E.n E.m E.N] W fun e w' => e = .returned (.int .i64 E.check) ∧ Below W.heap.size W w') := fun W hW => as_Check W q E (h'.below hW) ho'
  have H1 : Hid (∀ W, Below w.heap.size w W → Calls Tryz.prog 85 #[.slice p.A D.n p.cap, .slice q.A E.n q.cap] W fun e w' => e = .returned (.bool (sameD D.n E.n D.nm E.nm D.lo E.lo D.hi E.hi)) ∧ Below W.heap.size W w') := fun W hW => c_EqDims W _ _ _ _ _ _ _ _ _ _ _ _ (h.dims.below hW) (h'.dims.below hW) (by omega) (by omega)
  have H2 : Hid (∀ W, Below w.heap.size w W → Calls Tryz.prog 86 #[.slice p.B D.m p.bcap, .slice q.B E.m q.bcap] W fun e w' => e = .returned (.bool (sameA D.m E.m D.an E.an D.ty E.ty)) ∧ Below W.heap.size W w') := fun W hW => c_EqAttrs W _ _ _ _ _ _ _ _ _ _ (h.attrs.below hW) (h'.attrs.below hW) (by omega) (by omega)
  have H3 : Hid (∀ W, Below w.heap.size w W → Calls Tryz.prog 87 #[.slice p.C D.N p.ccap, .slice q.C E.N q.ccap, .func (.func 88) #[] #[]] W fun e w' => e = .returned (.bool (sameC D.N E.N D.c E.c)) ∧ Below W.heap.size W w') := fun W hW => c_EqCells W _ _ _ _ _ _ _ _ (h.cells.below hW) (h'.cells.below hW) ho.cS ho'.cS ho.N1 ho'.N1
  have HD : Hid (sameAr D E = (D.check == 0 && (E.check == 0 && (sameD D.n E.n D.nm E.nm D.lo E.lo D.hi E.hi && (sameA D.m E.m D.an E.an D.ty E.ty && sameC D.N E.N D.c E.c))))) := rfl
  rw [HD.out]
  clear h h' ho ho' n1 n2 m1 m2 HD
  generalize sameD D.n E.n D.nm E.nm D.lo E.lo D.hi E.hi = r1 at *
  generalize sameA D.m E.m D.an E.an D.ty E.ty = r2 at *
  generalize sameC D.N E.N D.c E.c = r3 at *
  generalize D.check = s1 at *
  generalize E.check = s2 at *
  go_enter Tryz.func26, Tryz.ntmps26
  go_wp2_with fail
  generalize (w.alloc (p.obj D.n D.m D.N)).alloc (q.obj E.n E.m E.N) = W0 at *
  rw [← hz0] at HT
  obtain ⟨⟨a0, a1, a2⟩, b0, b1, b2⟩ := HT.out W0 (Below.refl _ _)
  go_wp2_with fail
  refine (HC1.out _ HB.out).mono ?_
  rintro e w1 ⟨rfl, hb1⟩
  have HB1 : Hid (Below w.heap.size w w1) := st HB.out hb1
  clear a0 a1 a2 b0 b1 b2
  by_cases g1 : s1 = 0
  · subst g1
    obtain ⟨⟨a0, a1, a2⟩, b0, b1, b2⟩ := HT.out w1 hb1
    go_wp2_with fail
    refine (HC2.out _ HB1.out).mono ?_
    rintro e w2 ⟨rfl, hb2⟩
    have HB2 : Hid (Below w.heap.size w w2) := st HB1.out hb2
    have hb12 := st hb1 hb2
    clear a0 a1 a2 b0 b1 b2
    by_cases g2 : s2 = 0
    · subst g2
      obtain ⟨⟨a0, a1, a2⟩, b0, b1, b2⟩ := HT.out w2 hb12
      go_wp2_with fail
      refine (H1.out _ HB2.out).mono ?_
      rintro e w3 ⟨rfl, hb3⟩
      have HB3 : Hid (Below w.heap.size w w3) := st HB2.out hb3
      have hb13 := st hb12 hb3
      clear a0 a1 a2 b0 b1 b2
      cases r1
      · go_wp2
        go_ret
        exact ⟨rfl, HB3.out⟩
      · obtain ⟨⟨a0, a1, a2⟩, b0, b1, b2⟩ := HT.out w3 hb13
        go_wp2_with fail
        refine (H2.out _ HB3.out).mono ?_
        rintro e w4 ⟨rfl, hb4⟩
        have HB4 : Hid (Below w.heap.size w w4) := st HB3.out hb4
        have hb14 := st hb13 hb4
        clear a0 a1 a2 b0 b1 b2
        cases r2
        · go_wp2
          go_ret
          exact ⟨rfl, HB4.out⟩
        · obtain ⟨⟨a0, a1, a2⟩, b0, b1, b2⟩ := HT.out w4 hb14
          go_wp2_with fail
          refine (H3.out _ HB4.out).mono ?_
          rintro e w5 ⟨rfl, hb5⟩
          go_wp2
          go_ret
          exact ⟨by cases r3 <;> rfl, st HB4.out hb5⟩
    · have g3 : (s2 == 0) = false := by rw [beq_eq_false_iff_ne]; exact g2
      have g4 : (s2 != 0) = true := by rw [bne_iff_ne]; exact g2
      go_wp2
      go_ret
      exact ⟨by rw [g3]; rfl, HB2.out⟩
  · have g3 : (s1 == 0) = false := by rw [beq_eq_false_iff_ne]; exact g1
    have g4 : (s1 != 0) = true := by rw [bne_iff_ne]; exact g1
    go_wp2
    go_ret
    exact ⟨by rw [g3]; rfl, HB1.out⟩
end Go.Proofs.YtoippldgoehpcaaGreatDoor
end

/- A cell found by its coordinates: the reference. -/
section
namespace Go.Proofs.YtoippldgoehpcaaGreatDoor
open Go Go.RowKit Go.Deep

/-- Where the search by halves ends. -/
def bis (p : Nat → Bool) (lo hi : Nat) : Nat := if lo < hi then (if p ((lo + hi) / 2) then bis p ((lo + hi) / 2 + 1) hi else bis p lo ((lo + hi) / 2)) else lo
termination_by hi - lo
theorem bis_end {p : Nat → Bool} {lo hi : Nat} (h : ¬ lo < hi) : bis p lo hi = lo := by rw [bis, if_neg h]
theorem bis_yes {p : Nat → Bool} {lo hi : Nat} (h : lo < hi) (hp : p ((lo + hi) / 2) = true) : bis p lo hi = bis p ((lo + hi) / 2 + 1) hi := by rw [bis, if_pos h, if_pos hp]
theorem bis_no {p : Nat → Bool} {lo hi : Nat} (h : lo < hi) (hp : p ((lo + hi) / 2) = false) : bis p lo hi = bis p lo ((lo + hi) / 2) := by rw [bis, if_pos h, if_neg (by rw [hp]; decide)]
/-- Does the k-th cell come ahead of the coordinates? -/
def lessB (c : CeD) (m : Nat) (v : Nat → Int) (k : Nat) : Bool := decide (cmpS (c.ln k) m (c.x k) v < 0)
def placeN (N : Nat) (c : CeD) (m : Nat) (v : Nat → Int) : Nat := bis (lessB c m v) 0 N
def foundB (N : Nat) (c : CeD) (m : Nat) (v : Nat → Int) : Bool := decide (placeN N c m v < N) && cmpS (c.ln (placeN N c m v)) m (c.x (placeN N c m v)) v == 0

set_option maxRecDepth 100000 in
set_option maxHeartbeats 4000000 in
theorem r_place (w : World) (C X : Option Addr) (N cc m mc : Nat) (c : CeD) (v : Nat → Int) (hc : CeAt w C N c) (hx : IntsAt w X m v) (hN : N ≤ 1000000) (hm : m ≤ 1000000) :
    Calls Tryz.prog 142 #[.slice C N cc, .slice X m mc] w fun e w' => e = .returned (.int .i64 (placeN N c m v)) ∧ Below w.heap.size w w' := by
  have HC := Lib.hid hc
  have HCm := Lib.hid (fun W P n c f h h1 => r_Compare W P X n c m mc f v h (hx.below h1))
  obtain ⟨R, hR⟩ : ∃ R, placeN N c m v = R := ⟨_, rfl⟩
  rw [hR]
  have HR : Hid (bis (lessB c m v) 0 N = R) := hR
  clear hc hx hR
  go_enter Tryz.func142, Tryz.ntmps142
  go_wp2
  go_loopw [5, 6, 7] (fun l h _ wr => ∃ lo hi : Nat, lo ≤ hi ∧ hi ≤ N ∧ l = .int .i64 lo ∧ h = .int .i64 hi ∧ Hid (bis (lessB c m v) lo hi = R) ∧ Hid (Below w.heap.size w wr)) (fun l h _ _ => (intOf h).toNat - (intOf l).toNat)
  case atStart => exact ⟨0, N, Nat.zero_le _, Nat.le_refl _, rfl, rfl, HR.out, Below.refl _ _⟩
  case round =>
    obtain ⟨lo, hi, hlh, hhN, rfl, rfl, HB, HBw⟩ := hrel
    by_cases hlt : lo < hi
    · obtain ⟨bc, oc, rfl, hbc, hcc⟩ := (HC.out.below HBw.out) (by omega)
      obtain ⟨mid, hmid⟩ : ∃ mid, (lo + hi) / 2 = mid := ⟨_, rfl⟩
      obtain ⟨P, pc, Q, qc, x0, x1, x2, _, x4⟩ := hcc mid (by omega)
      clear hcc
      have hw1 : IntKind.i64.wrap ((lo : Int) + hi) = (lo : Int) + hi := w64 (by omega) (by omega)
      have hq : ((lo : Int) + hi).tdiv 2 = mid := by rw [Int.tdiv_eq_ediv_of_nonneg (by omega)]; omega
      have hw2 : IntKind.i64.wrap (mid : Int) = mid := w64 (by omega) (by omega)
      have hmN : (mid : Int) < (N : Int) := by omega
      have hm0 : (0 : Int) ≤ (mid : Int) := by omega
      have hm2 : mid < N := by omega
      have HCk : Hid (∀ W, Below wr.heap.size wr W → Calls Tryz.prog 28 #[.slice P (c.ln mid) pc, .slice X m mc] W fun e w' => e = .returned (.int .i64 (cmpS (c.ln mid) m (c.x mid) v)) ∧ Below W.heap.size W w') := fun W hW => HCm.out W P _ pc _ (x2.below hW) (st HBw.out hW) (by omega) hm
      have HY : Hid (cmpS (c.ln mid) m (c.x mid) v < 0 → bis (lessB c m v) (mid + 1) hi = R) := fun h => by rw [← HB.out, bis_yes hlt (by rw [hmid]; exact decide_eq_true h), hmid]
      have HNo : Hid (¬ cmpS (c.ln mid) m (c.x mid) v < 0 → bis (lessB c m v) lo mid = R) := fun h => by rw [← HB.out, bis_no hlt (by rw [hmid]; exact decide_eq_false h), hmid]
      generalize cmpS (c.ln mid) m (c.x mid) v = z at *
      generalize c.ln mid = L at *
      generalize c.vl mid = V at *
      go_wp2_with fail
      refine (HCk.out _ (Below.refl _ _)).mono ?_
      rintro e w1 ⟨rfl, hb1⟩
      have HB1 : Hid (Below w.heap.size w w1) := st HBw.out hb1
      by_cases hz : z < 0
      · have HY2 := Lib.hid (HY.out hz)
        go_wp2
        go_roundw
        case rel => exact ⟨mid + 1, hi, by omega, by omega, by go_num, rfl, HY2.out, HB1.out⟩
        case measure => simp [intOf]; omega
      · have HN2 := Lib.hid (HNo.out (by omega))
        go_wp2
        go_roundw
        case rel => exact ⟨lo, mid, by omega, by omega, rfl, rfl, HN2.out, HB1.out⟩
        case measure => simp [intOf]; omega
    · obtain rfl : lo = hi := by omega
      have hR2 : lo = R := by rw [← HB.out, bis_end hlt]
      subst hR2
      go_wp2
      go_ret
      exact ⟨rfl, HBw.out⟩
theorem bis_le {p : Nat → Bool} : ∀ (n lo hi : Nat), hi - lo ≤ n → lo ≤ hi → lo ≤ bis p lo hi ∧ bis p lo hi ≤ hi := by
  intro n
  induction n with
  | zero => intro lo hi h1 h2; rw [bis_end (by omega)]; omega
  | succ n ih =>
    intro lo hi h1 h2
    by_cases hlt : lo < hi
    · cases hp : p ((lo + hi) / 2)
      · rw [bis_no hlt hp]
        have := ih lo ((lo + hi) / 2) (by omega) (by omega)
        omega
      · rw [bis_yes hlt hp]
        have := ih ((lo + hi) / 2 + 1) hi (by omega) (by omega)
        omega
    · rw [bis_end hlt]; omega
theorem place_le (N : Nat) (c : CeD) (m : Nat) (v : Nat → Int) : placeN N c m v ≤ N := (bis_le N 0 N (by omega) (Nat.zero_le _)).2
set_option maxRecDepth 100000 in
set_option maxHeartbeats 4000000 in
theorem r_Lookup (w : World) (C X : Option Addr) (N cc m mc : Nat) (c : CeD) (v : Nat → Int) (hc : CeAt w C N c) (hx : IntsAt w X m v) (hN : N ≤ 1000000) (hm : m ≤ 1000000) :
    Calls Tryz.prog 93 #[.slice C N cc, .slice X m mc] w fun e w' => e = .returned (.int .i64 (if foundB N c m v = true then (placeN N c m v : Int) else -1)) ∧ Below w.heap.size w w' := by
  have HP := Lib.hid (r_place w C X N cc m mc c v hc hx hN hm)
  have HC := Lib.hid hc
  have HCm := Lib.hid (fun W P n c f h h1 => r_Compare W P X n c m mc f v h (hx.below h1))
  have hle := place_le N c m v
  have HF : Hid (foundB N c m v = (decide (placeN N c m v < N) && cmpS (c.ln (placeN N c m v)) m (c.x (placeN N c m v)) v == 0)) := rfl
  obtain ⟨fb, hfb⟩ : ∃ fb, foundB N c m v = fb := ⟨_, rfl⟩
  rw [hfb]
  rw [hfb] at HF
  generalize placeN N c m v = p at *
  clear hc hx hfb
  go_enter Tryz.func93, Tryz.ntmps93
  go_wp2_with fail
  refine HP.out.mono ?_
  rintro e w1 ⟨rfl, hb1⟩
  have HB1 := Lib.hid hb1
  by_cases hlt : p < N
  · obtain ⟨bc, oc, rfl, hbc, hcc⟩ := (HC.out.below HB1.out) (by omega)
    obtain ⟨P, pc, Q, qc, x0, x1, x2, _, x4⟩ := hcc p hlt
    clear hcc
    have hp0 : (0 : Int) ≤ (p : Int) := by omega
    have hpN : (p : Int) < (N : Int) := by omega
    have HCk : Hid (∀ W, Below w1.heap.size w1 W → Calls Tryz.prog 28 #[.slice P (c.ln p) pc, .slice X m mc] W fun e w' => e = .returned (.int .i64 (cmpS (c.ln p) m (c.x p) v)) ∧ Below W.heap.size W w') := fun W hW => HCm.out W P _ pc _ (x2.below hW) (st HB1.out hW) (by omega) hm
    rw [decide_eq_true hlt, Bool.true_and] at HF
    generalize cmpS (c.ln p) m (c.x p) v = z at *
    generalize c.ln p = L at *
    generalize c.vl p = V at *
    go_wp2_with fail
    refine (HCk.out _ (Below.refl _ _)).mono ?_
    rintro e w2 ⟨rfl, hb2⟩
    have HB2 : Hid (Below w.heap.size w w2) := st HB1.out hb2
    by_cases hz : z = 0
    · have hfb : fb = true := by rw [HF.out, hz]; rfl
      subst hz hfb
      go_wp2
      go_ret
      exact ⟨rfl, HB2.out⟩
    · have hz2 : (z == 0) = false := by rw [beq_eq_false_iff_ne]; exact hz
      have hfb : fb = false := by rw [HF.out]; exact hz2
      subst hfb
      go_wp2
      go_ret
      exact ⟨rfl, HB2.out⟩
  · have hfb : fb = false := by rw [HF.out, decide_eq_false hlt]; rfl
    subst hfb
    have h9 : ¬ (p : Int) < (N : Int) := by omega
    go_wp2
    go_ret
    exact ⟨rfl, HB1.out⟩
end Go.Proofs.YtoippldgoehpcaaGreatDoor
end

/- Slices of structs copied: their cells in a row. -/
section
namespace Go.Proofs.YtoippldgoehpcaaGreatDoor
open Go Go.RowKit Go.Deep

/-- The cells of n structs of z cells each. -/
def rowL (f : Nat → Nat → Value) (z n : Nat) : List Value := (List.range (n * z)).map fun i => f (i / z) (i % z)
theorem rowL_len (f : Nat → Nat → Value) (z n : Nat) : (rowL f z n).length = n * z := by simp [rowL]
theorem rowL_get {f : Nat → Nat → Value} {z n j : Nat} {u : Value} (h : (rowL f z n)[j]? = some u) : j < n * z ∧ u = f (j / z) (j % z) := by
  obtain ⟨h1, h2⟩ := List.getElem?_eq_some_iff.1 h
  rw [rowL_len] at h1
  refine ⟨h1, ?_⟩
  rw [← h2]
  simp [rowL]
theorem rowL_one {f : Nat → Nat → Value} {z n : Nat} (hf : ∀ k r, (f k r).oneCell' = true) : ∀ u ∈ rowL f z n, u.oneCell' = true := by
  intro u hu
  obtain ⟨i, _, rfl⟩ := List.mem_map.1 hu
  exact hf _ _
/-- A slice that begins at the head of a block from B on. -/
def Up (B : Nat) (A : Option Addr) : Prop := ∀ a, A = some a → B ≤ a.block ∧ a.off = 0 ∧ a.spot = none
theorem Up.none (B : Nat) : Up B none := fun a h => by cases h
theorem Up.mono {B B' : Nat} {A : Option Addr} (h : Up B A) (hb : B' ≤ B) : Up B' A := fun a ha => ⟨Nat.le_trans hb (h a ha).1, (h a ha).2⟩
theorem row_own {w : World} {B e z n : Nat} {v : Value} {f : Nat → Nat → Value} (h : w.ownsRow B e z v n (rowL f z n)) :
    ∃ A cap, v = .slice A n cap ∧ Up B A ∧ (0 < n → ∃ b, A = some ⟨b, 0, none⟩ ∧ b < w.heap.size ∧ ∀ k r, k < n → r < z → w.cell? ⟨b, k * z + r, none⟩ = some (f k r)) := by
  rcases h.2 with ⟨rfl, rfl⟩ | ⟨g, cap, cur, rfl, hg, hh, hcap, _, hs, ht⟩
  · exact ⟨none, 0, rfl, Up.none _, fun h => absurd h (by omega)⟩
  · refine ⟨_, _, rfl, fun a ha => by injection ha with ha; subst ha; exact ⟨hg, rfl, rfl⟩, fun _ => ⟨g, rfl, (Array.getElem?_eq_some_iff.1 hh).1, fun k r hk hr => ?_⟩⟩
    have hj : k * z + r < n * z := by
      have : (k + 1) * z ≤ n * z := Nat.mul_le_mul_right _ hk
      rw [Nat.add_mul, Nat.one_mul] at this
      omega
    have h2 : cur.toList[k * z + r]? = some (f k r) := by
      rw [← List.getElem?_take_of_lt hj, ht]
      simp only [rowL, List.getElem?_map]
      rw [List.getElem?_range hj]
      have e1 : (k * z + r) / z = k := by rw [Nat.mul_comm, Nat.mul_add_div (by omega), Nat.div_eq_of_lt hr, Nat.add_zero]
      have e2 : (k * z + r) % z = r := by rw [Nat.mul_comm, Nat.mul_add_mod, Nat.mod_eq_of_lt hr]
      simp [e1, e2]
    rw [Array.getElem?_toList] at h2
    simp [World.cell?, hh, h2]
theorem div_row {z j n : Nat} (hz : 0 < z) (h : j < n * z) : j / z < n ∧ j % z < z ∧ j / z * z + j % z = j := by
  refine ⟨?_, Nat.mod_lt _ hz, by rw [Nat.mul_comm]; exact Nat.div_add_mod j z⟩
  exact Nat.div_lt_of_lt_mul (by rw [Nat.mul_comm]; exact h)
def intF (f : Nat → Int) (k _r : Nat) : Value := .int .i64 (f k)
def dimF (nm : Nat → ByteArray) (lo hi : Nat → Int) (k r : Nat) : Value := if r = 0 then .string (nm k) else if r = 1 then .int .i64 (lo k) else .int .i64 (hi k)
def attF (an : Nat → ByteArray) (ty : Nat → Int) (k r : Nat) : Value := if r = 0 then .string (an k) else .int .i64 (ty k)
def valF4 (vk vn vd : Nat → Int) (vs : Nat → ByteArray) (k r : Nat) : Value := if r = 0 then .int .i64 (vk k) else if r = 1 then .int .i64 (vn k) else if r = 2 then .int .i64 (vd k) else .string (vs k)
theorem intF_one (f : Nat → Int) (k r : Nat) : (intF f k r).oneCell' = true := rfl
theorem dimF_one (nm : Nat → ByteArray) (lo hi : Nat → Int) (k r : Nat) : (dimF nm lo hi k r).oneCell' = true := by
  unfold dimF
  split
  · rfl
  · split <;> rfl
theorem attF_one (an : Nat → ByteArray) (ty : Nat → Int) (k r : Nat) : (attF an ty k r).oneCell' = true := by unfold attF; split <;> rfl
theorem valF4_one (vk vn vd : Nat → Int) (vs : Nat → ByteArray) (k r : Nat) : (valF4 vk vn vd vs k r).oneCell' = true := by
  unfold valF4
  split
  · rfl
  · split
    · rfl
    · split <;> rfl
theorem r3 {r : Nat} (h : r < 3) : r = 0 ∨ r = 1 ∨ r = 2 := by omega
theorem r4 {r : Nat} (h : r < 4) : r = 0 ∨ r = 1 ∨ r = 2 ∨ r = 3 := by omega
/-- What the cells of a slice are, as a row. -/
def RowAt (w : World) (A : Option Addr) (n z : Nat) (f : Nat → Nat → Value) : Prop := 0 < n → ∃ b o, A = some ⟨b, o, none⟩ ∧ b < w.heap.size ∧ ∀ k r, k < n → r < z → w.cell? ⟨b, o + (k * z + r), none⟩ = some (f k r)
theorem RowAt.below {w w' : World} {A : Option Addr} {n z : Nat} {f : Nat → Nat → Value} (h : RowAt w A n z f) (hb : Below w.heap.size w w') : RowAt w' A n z f := fun hn => by
  obtain ⟨b, o, h1, h2, h3⟩ := h hn
  exact ⟨b, o, h1, Nat.lt_of_lt_of_le h2 hb.size, fun k r hk hr => (hb.cell (p := ⟨b, o + (k * z + r), none⟩) h2).trans (h3 k r hk hr)⟩
theorem IntsAt.row {w : World} {A : Option Addr} {n : Nat} {f : Nat → Int} (h : IntsAt w A n f) : RowAt w A n 1 (intF f) := fun hn => by
  obtain ⟨b, o, h1, h2, h3⟩ := h hn
  refine ⟨b, o, h1, h2, fun k r hk hr => ?_⟩
  obtain rfl : r = 0 := by omega
  rw [Nat.mul_one, Nat.add_zero]
  exact h3 k hk
theorem RowAt.ints {w : World} {A : Option Addr} {n : Nat} {f : Nat → Int} (h : RowAt w A n 1 (intF f)) : IntsAt w A n f := fun hn => by
  obtain ⟨b, o, h1, h2, h3⟩ := h hn
  refine ⟨b, o, h1, h2, fun k hk => ?_⟩
  have := h3 k 0 hk (by omega)
  rw [Nat.mul_one, Nat.add_zero] at this
  exact this
theorem DimsAt.row {w : World} {A : Option Addr} {n : Nat} {nm : Nat → ByteArray} {lo hi : Nat → Int} (h : DimsAt w A n nm lo hi) : RowAt w A n 3 (dimF nm lo hi) := fun hn => by
  obtain ⟨b, o, h1, h2, h3⟩ := h hn
  refine ⟨b, o, h1, h2, fun k r hk hr => ?_⟩
  obtain ⟨a0, a1, a2⟩ := h3 k hk
  rcases r3 hr with rfl | rfl | rfl
  · exact a0
  · exact a1
  · exact a2
theorem RowAt.dims {w : World} {A : Option Addr} {n : Nat} {nm : Nat → ByteArray} {lo hi : Nat → Int} (h : RowAt w A n 3 (dimF nm lo hi)) : DimsAt w A n nm lo hi := fun hn => by
  obtain ⟨b, o, h1, h2, h3⟩ := h hn
  exact ⟨b, o, h1, h2, fun k hk => ⟨h3 k 0 hk (by omega), h3 k 1 hk (by omega), h3 k 2 hk (by omega)⟩⟩
theorem AttrsAt.row {w : World} {A : Option Addr} {n : Nat} {an : Nat → ByteArray} {ty : Nat → Int} (h : AttrsAt w A n an ty) : RowAt w A n 2 (attF an ty) := fun hn => by
  obtain ⟨b, o, h1, h2, h3⟩ := h hn
  refine ⟨b, o, h1, h2, fun k r hk hr => ?_⟩
  obtain ⟨a0, a1⟩ := h3 k hk
  rcases (by omega : r = 0 ∨ r = 1) with rfl | rfl
  · exact a0
  · exact a1
theorem RowAt.attrs {w : World} {A : Option Addr} {n : Nat} {an : Nat → ByteArray} {ty : Nat → Int} (h : RowAt w A n 2 (attF an ty)) : AttrsAt w A n an ty := fun hn => by
  obtain ⟨b, o, h1, h2, h3⟩ := h hn
  exact ⟨b, o, h1, h2, fun k hk => ⟨h3 k 0 hk (by omega), h3 k 1 hk (by omega)⟩⟩
theorem ValsAt.row {w : World} {A : Option Addr} {n : Nat} {vk vn vd : Nat → Int} {vs : Nat → ByteArray} (h : ValsAt w A n vk vn vd vs) : RowAt w A n 4 (valF4 vk vn vd vs) := fun hn => by
  obtain ⟨b, o, h1, h2, h3⟩ := h hn
  refine ⟨b, o, h1, h2, fun k r hk hr => ?_⟩
  obtain ⟨a0, a1, a2, a3⟩ := h3 k hk
  rcases r4 hr with rfl | rfl | rfl | rfl
  · exact a0
  · exact a1
  · exact a2
  · exact a3
theorem RowAt.vals {w : World} {A : Option Addr} {n : Nat} {vk vn vd : Nat → Int} {vs : Nat → ByteArray} (h : RowAt w A n 4 (valF4 vk vn vd vs)) : ValsAt w A n vk vn vd vs := fun hn => by
  obtain ⟨b, o, h1, h2, h3⟩ := h hn
  exact ⟨b, o, h1, h2, fun k hk => ⟨h3 k 0 hk (by omega), h3 k 1 hk (by omega), h3 k 2 hk (by omega), h3 k 3 hk (by omega)⟩⟩
theorem RowAt.own {w : World} {B e z n : Nat} {v : Value} {f : Nat → Nat → Value} (h : w.ownsRow B e z v n (rowL f z n)) : ∃ A cap, v = .slice A n cap ∧ Up B A ∧ RowAt w A n z f := by
  obtain ⟨A, cap, h1, h2, h3⟩ := row_own h
  refine ⟨A, cap, h1, h2, fun hn => ?_⟩
  obtain ⟨b, e1, e2, e3⟩ := h3 hn
  exact ⟨b, 0, e1, e2, fun k r hk hr => by rw [Nat.zero_add]; exact e3 k r hk hr⟩
/-- What is read for an append: the cells of the slice. -/
theorem RowAt.news {w : World} {a : Addr} {n z : Nat} {f : Nat → Nat → Value} (hz : 0 < z) (h : RowAt w (some a) n z f) : ∀ j u, (rowL f z n)[j]? = some u → w.cell? (a.add j) = some u := by
  intro j u hu
  obtain ⟨h1, rfl⟩ := rowL_get hu
  obtain ⟨d1, d2, d3⟩ := div_row hz h1
  obtain ⟨b, o, e1, _, e3⟩ := h (Nat.lt_of_le_of_lt (Nat.zero_le _) d1)
  injection e1 with e1
  subst e1
  have := e3 (j / z) (j % z) d1 d2
  rw [d3] at this
  rw [Go.WideShapes.add_plain]
  exact this
end Go.Proofs.YtoippldgoehpcaaGreatDoor
end

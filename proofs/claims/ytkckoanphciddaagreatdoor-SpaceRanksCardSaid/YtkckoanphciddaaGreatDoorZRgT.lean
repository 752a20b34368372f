/- Lists of cells compared by the program. -/
import Derived.Test.YtkckoanphciddaaGreatDoorZArE
import Derived.Test.YtkckoanphciddaaGreatDoorZInvReg
import Derived.Test.YtkckoanphciddaaGreatDoorZSplit

/- Lists of cells compared by the program. -/
section
namespace Go.Proofs.YtkckoanphciddaaGreatDoor
open Go Go.RowKit Go.Deep

set_option maxRecDepth 100000 in
set_option maxHeartbeats 4000000 in
theorem c_EqCells (w : World) (A B : Option Addr) (n ca m d : Nat) (c c' : CeD) (ha : CeAt w A n c) (hb : CeAt w B m c') (hc : CeOk n c) (hc' : CeOk m c') (hn : n ≤ 1000000) (hm : m ≤ 1000000) :
    Calls Tryz.prog 68 #[.slice A n ca, .slice B m d, .func (.func 69) #[] #[]] w fun e w' => e = .returned (.bool (sameC n m c c')) ∧ Below w.heap.size w w' := by
  have HA := Lib.hid ha
  have HB := Lib.hid hb
  have HC := Lib.hid hc
  have HC' := Lib.hid hc'
  have HI := Lib.hid s_sameCell
  obtain ⟨ve, hve⟩ : ∃ ve, sameC n m c c' = ve := ⟨_, rfl⟩
  rw [hve]
  have HV := Lib.hid hve
  clear ha hb hve hc hc'
  by_cases h0 : n = m
  · subst h0
    have HE : Hid (ve = allTo (celQ c c') n) := by show _ = _; rw [← HV.out, sameC, beq_self_eq_true, Bool.true_and]
    go_enter Tryz.func68, Tryz.ntmps68
    go_wp2
    go_loopw [7, 8, 9, 17] (fun _ _ _ i wr => ∃ k : Nat, k ≤ n ∧ i = .int .i64 k ∧ Hid (allTo (celQ c c') k = true) ∧ Hid (Below w.heap.size w wr)) (fun _ _ _ i _ => n - (intOf i).toNat)
    case atStart => exact ⟨0, Nat.zero_le _, rfl, rfl, Below.refl _ _⟩
    case round =>
      obtain ⟨k, hk, rfl, HK, HBw⟩ := hrel
      by_cases hlt : k < n
      · obtain ⟨b1, o1, rfl, hb1, hc1⟩ := (HA.out.below HBw.out) (by omega)
        obtain ⟨P, pc, Q, qc, x0, x1, x2, x3, x4⟩ := hc1 k hlt
        obtain ⟨b2, o2, rfl, hb2, hc2⟩ := (HB.out.below HBw.out) (by omega)
        obtain ⟨P', pc', Q', qc', y0, y1, y2, y3, y4⟩ := hc2 k hlt
        clear hc1 hc2
        have HS : Hid (allTo (celQ c c') (k + 1) = celQ c c' k) := by show _ = _; rw [allTo, HK.out, Bool.true_and]
        have HD : Hid (celQ c c' k = (sameZ (c.ln k) (c'.ln k) (c.x k) (c'.x k) && sameV (c.vl k) (c'.vl k) (c.vk k) (c'.vk k) (c.vn k) (c'.vn k) (c.vd k) (c'.vd k) (c.vs k) (c'.vs k))) := rfl
        have HL : Hid (celQ c c' k = false → ve = false) := fun h => by rw [HE.out]; exact allTo_le (k := k + 1) (by rw [HS.out, h]) (by omega)
        have hz := HC.out k hlt
        have hz' := HC'.out k hlt
        have HI1 : Hid (∀ W, Below wr.heap.size wr W → Calls Tryz.prog 69 #[CelV P (c.ln k) pc Q (c.vl k) qc, CelV P' (c'.ln k) pc' Q' (c'.vl k) qc'] W fun e w' => e = .returned (.bool (celQ c c' k)) ∧ Below W.heap.size W w') := fun W hW => HI.out W P P' Q Q' _ _ _ _ _ _ _ _ _ _ _ _ _ _ _ _ _ _ (x2.below hW) (y2.below hW) (x3.below hW) (y3.below hW) (by omega) (by omega) (by omega) (by omega)
        clear x2 x3 x4 y2 y3 y4 hz hz' HD
        generalize celQ c c' k = r1 at *
        generalize c.ln k = L1 at *
        generalize c'.ln k = L2 at *
        generalize c.vl k = V1 at *
        generalize c'.vl k = V2 at *
        have HBb : Hid (Below wr.heap.size wr ((wr.alloc (.cells #[.slice P L1 pc, .slice Q V1 qc] 38)).alloc (.cells #[.slice P' L2 pc', .slice Q' V2 qc'] 38))) := ((Below.refl _ _).alloc (Nat.le_refl _) _).alloc (by simp) _
        go_wp2_with fail
        generalize (wr.alloc (.cells #[.slice P L1 pc, .slice Q V1 qc] 38)).alloc (.cells #[.slice P' L2 pc', .slice Q' V2 qc'] 38) = wb at *
        refine (HI1.out _ HBb.out).mono ?_
        rintro e w2 ⟨rfl, hb2⟩
        have HB2 : Hid (Below w.heap.size w w2) := st HBw.out (st HBb.out hb2)
        cases r1
        · have HF : Hid (ve = false) := HL.out rfl
          go_wp2
          go_ret
          exact ⟨by rw [HF.out]; rfl, HB2.out⟩
        · go_wp2
          go_roundw
          case rel => exact ⟨k + 1, by omega, by go_num, HS, HB2.out⟩
          case measure => simp [intOf]; omega
      · obtain rfl : k = n := by omega
        go_wp2
        go_ret
        exact ⟨by rw [HE.out, HK.out]; rfl, HBw.out⟩
  · have HE : Hid (ve = false) := by show _ = _; rw [← HV.out, sameC, beq_false_of_ne h0, Bool.false_and]
    have h1 : ((n : Int) != (m : Int)) = true := by rw [bne_iff_ne]; omega
    go_enter Tryz.func68, Tryz.ntmps68
    go_wp2
    go_ret
    exact ⟨by rw [HE.out]; rfl, Below.refl _ _⟩
end Go.Proofs.YtkckoanphciddaaGreatDoor
end

/- Arrays compared. -/
section
namespace Go.Proofs.YtkckoanphciddaaGreatDoor
open Go Go.RowKit Go.Deep

/-- The box of an array. -/
abbrev ArP.obj (p : ArP) (n m N : Nat) : Obj := .cells #[.slice p.A n p.cap, .slice p.B m p.bcap, .slice p.C N p.ccap] 29
/-- The array lies in the box at b. -/
def ArIn (W : World) (b : Nat) (p : ArP) (n m N : Nat) : Prop := W.cell? ⟨b, 0, none⟩ = some (.slice p.A n p.cap) ∧ W.cell? ⟨b, 1, none⟩ = some (.slice p.B m p.bcap) ∧ W.cell? ⟨b, 2, none⟩ = some (.slice p.C N p.ccap)
theorem two_arr (w : World) (p q : ArP) (n m N n' m' N' : Nat) (W : World) (hW : Below (w.heap.size + 2) ((w.alloc (p.obj n m N)).alloc (q.obj n' m' N')) W) : ArIn W w.heap.size p n m N ∧ ArIn W (w.heap.size + 1) q n' m' N' := by
  have q0 := arr_box w (.slice p.A n p.cap) (.slice p.B m p.bcap) (.slice p.C N p.ccap) 29 W (Below.trans ((Below.refl _ _).alloc (Nat.le_refl _) _) (hW.mono (by simp)))
  have q1 := arr_box (w.alloc (p.obj n m N)) (.slice q.A n' q.cap) (.slice q.B m' q.bcap) (.slice q.C N' q.ccap) 29 W (by rw [World.size_alloc, World.size_alloc]; exact hW)
  rw [World.size_alloc] at q1
  exact ⟨q0, q1⟩
set_option maxRecDepth 100000 in
set_option maxHeartbeats 4000000 in
theorem ar_Equal (w : World) (p q : ArP) (D E : ArD) (h : ArAt w p D) (ho : ArOk D) (h' : ArAt w q E) (ho' : ArOk E) :
    Calls Tryz.prog 15 #[p.val D.n D.m D.N, q.val E.n E.m E.N] w fun e w' => e = .returned (.bool (eqAr D E)) ∧ Below w.heap.size w w' := by
  have HT := Lib.hid (two_arr w p q D.n D.m D.N E.n E.m E.N)
  have hz0 : ((w.alloc (p.obj D.n D.m D.N)).alloc (q.obj E.n E.m E.N)).heap.size = w.heap.size + 2 := by simp
  have HB : Hid (Below w.heap.size w ((w.alloc (p.obj D.n D.m D.N)).alloc (q.obj E.n E.m E.N))) := ((Below.refl _ _).alloc (Nat.le_refl _) _).alloc (by simp) _
  have n1 := ho.n1
  have n2 := ho'.n1
  have m1 := ho.m1
  have m2 := ho'.m1
  have H1 : Hid (∀ W, Below w.heap.size w W → Calls Tryz.prog 62 #[.slice p.A D.n p.cap, .slice q.A E.n q.cap] W fun e w' => e = .returned (.bool (sameD D.n E.n D.nm E.nm D.lo E.lo D.hi E.hi)) ∧ Below W.heap.size W w') := fun W hW => r_SameDims W _ _ _ _ _ _ _ _ _ _ _ _ (h.dims.below hW) (h'.dims.below hW) (by omega) (by omega)
  have H2 : Hid (∀ W, Below w.heap.size w W → Calls Tryz.prog 63 #[.slice p.B D.m p.bcap, .slice q.B E.m q.bcap] W fun e w' => e = .returned (.bool (sameA D.m E.m D.an E.an D.ty E.ty)) ∧ Below W.heap.size W w') := fun W hW => r_SameAttrs W _ _ _ _ _ _ _ _ _ _ (h.attrs.below hW) (h'.attrs.below hW) (by omega) (by omega)
  have H3 : Hid (∀ W, Below w.heap.size w W → Calls Tryz.prog 64 #[.slice p.C D.N p.ccap, .slice q.C E.N q.ccap] W fun e w' => e = .returned (.bool (sameC D.N E.N D.c E.c)) ∧ Below W.heap.size W w') := fun W hW => r_SameCells W _ _ _ _ _ _ _ _ (h.cells.below hW) (h'.cells.below hW) ho.cS ho'.cS ho.N1 ho'.N1
  have HD : Hid (eqAr D E = (sameD D.n E.n D.nm E.nm D.lo E.lo D.hi E.hi && (sameA D.m E.m D.an E.an D.ty E.ty && sameC D.N E.N D.c E.c))) := rfl
  rw [HD.out]
  clear h h' ho ho' n1 n2 m1 m2 HD
  generalize sameD D.n E.n D.nm E.nm D.lo E.lo D.hi E.hi = r1 at *
  generalize sameA D.m E.m D.an E.an D.ty E.ty = r2 at *
  generalize sameC D.N E.N D.c E.c = r3 at *
  go_enter Tryz.func15, Tryz.ntmps15
  go_wp2_with fail
  generalize (w.alloc (p.obj D.n D.m D.N)).alloc (q.obj E.n E.m E.N) = W0 at *
  rw [← hz0] at HT
  obtain ⟨⟨a0, a1, a2⟩, b0, b1, b2⟩ := HT.out W0 (Below.refl _ _)
  go_wp2_with fail
  refine (H1.out _ HB.out).mono ?_
  rintro e w1 ⟨rfl, hb1⟩
  have HB1 : Hid (Below w.heap.size w w1) := st HB.out hb1
  clear a0 a1 a2 b0 b1 b2
  cases r1
  · go_wp2
    go_ret
    exact ⟨rfl, HB1.out⟩
  · obtain ⟨⟨a0, a1, a2⟩, b0, b1, b2⟩ := HT.out w1 hb1
    go_wp2_with fail
    refine (H2.out _ HB1.out).mono ?_
    rintro e w2 ⟨rfl, hb2⟩
    have HB2 : Hid (Below w.heap.size w w2) := st HB1.out hb2
    clear a0 a1 a2 b0 b1 b2
    cases r2
    · go_wp2
      go_ret
      exact ⟨rfl, HB2.out⟩
    · obtain ⟨⟨a0, a1, a2⟩, b0, b1, b2⟩ := HT.out w2 (st hb1 hb2)
      go_wp2_with fail
      refine (H3.out _ HB2.out).mono ?_
      rintro e w3 ⟨rfl, hb3⟩
      go_wp2
      go_ret
      exact ⟨by cases r3 <;> rfl, st HB2.out hb3⟩

/-- Are two arrays valid, and equal? -/
noncomputable def sameAr (D E : ArD) : Bool := D.check == 0 && (E.check == 0 && eqAr D E)
set_option maxRecDepth 100000 in
set_option maxHeartbeats 4000000 in
theorem as_Same (w : World) (p q : ArP) (D E : ArD) (h : ArAt w p D) (ho : ArOk D) (h' : ArAt w q E) (ho' : ArOk E) :
    Calls Tryz.prog 18 #[p.val D.n D.m D.N, q.val E.n E.m E.N] w fun e w' => e = .returned (.bool (sameAr D E)) ∧ Below w.heap.size w w' := by
  have HT := Lib.hid (two_arr w p q D.n D.m D.N E.n E.m E.N)
  have hz0 : ((w.alloc (p.obj D.n D.m D.N)).alloc (q.obj E.n E.m E.N)).heap.size = w.heap.size + 2 := by simp
  have HB : Hid (Below w.heap.size w ((w.alloc (p.obj D.n D.m D.N)).alloc (q.obj E.n E.m E.N))) := ((Below.refl _ _).alloc (Nat.le_refl _) _).alloc (by simp) _
  have n1 := ho.n1
  have n2 := ho'.n1
  have m1 := ho.m1
  have m2 := ho'.m1
  have HC1 : Hid (∀ W, Below w.heap.size w W → Calls Tryz.prog 16 #[p.val D.n D.m D.N] W fun e w' => e = .returned (.int .i64 D.check) ∧ Below W.heap.size W w') := fun W hW => as_Check W p D (h.below hW) ho
  have HC2 : Hid (∀ W, Below w.heap.size w W → Calls Tryz.prog 16 #[q.val E.n E.m E.N] W fun e w' => e = .returned (.int .i64 E.check) ∧ Below W.heap.size W w') := fun W hW => as_Check W q E (h'.below hW) ho'
  have H1 : Hid (∀ W, Below w.heap.size w W → Calls Tryz.prog 66 #[.slice p.A D.n p.cap, .slice q.A E.n q.cap] W fun e w' => e = .returned (.bool (sameD D.n E.n D.nm E.nm D.lo E.lo D.hi E.hi)) ∧ Below W.heap.size W w') := fun W hW => c_EqDims W _ _ _ _ _ _ _ _ _ _ _ _ (h.dims.below hW) (h'.dims.below hW) (by omega) (by omega)
  have H2 : Hid (∀ W, Below w.heap.size w W → Calls Tryz.prog 67 #[.slice p.B D.m p.bcap, .slice q.B E.m q.bcap] W fun e w' => e = .returned (.bool (sameA D.m E.m D.an E.an D.ty E.ty)) ∧ Below W.heap.size W w') := fun W hW => c_EqAttrs W _ _ _ _ _ _ _ _ _ _ (h.attrs.below hW) (h'.attrs.below hW) (by omega) (by omega)
  have H3 : Hid (∀ W, Below w.heap.size w W → Calls Tryz.prog 68 #[.slice p.C D.N p.ccap, .slice q.C E.N q.ccap, .func (.func 69) #[] #[]] W fun e w' => e = .returned (.bool (sameC D.N E.N D.c E.c)) ∧ Below W.heap.size W w') := fun W hW => c_EqCells W _ _ _ _ _ _ _ _ (h.cells.below hW) (h'.cells.below hW) ho.cS ho'.cS ho.N1 ho'.N1
  have HD : Hid (sameAr D E = (D.check == 0 && (E.check == 0 && (sameD D.n E.n D.nm E.nm D.lo E.lo D.hi E.hi && (sameA D.m E.m D.an E.an D.ty E.ty && sameC D.N E.N D.c E.c))))) := rfl
  rw [HD.out]
  clear h h' ho ho' n1 n2 m1 m2 HD
  generalize sameD D.n E.n D.nm E.nm D.lo E.lo D.hi E.hi = r1 at *
  generalize sameA D.m E.m D.an E.an D.ty E.ty = r2 at *
  generalize sameC D.N E.N D.c E.c = r3 at *
  generalize D.check = s1 at *
  generalize E.check = s2 at *
  go_enter Tryz.func18, Tryz.ntmps18
  go_wp2_with fail
  generalize (w.alloc (p.obj D.n D.m D.N)).alloc (q.obj E.n E.m E.N) = W0 at *
  rw [← hz0] at HT
  obtain ⟨⟨a0, a1, a2⟩, b0, b1, b2⟩ := HT.out W0 (Below.refl _ _)
  go_wp2_with fail
  refine (HC1.out _ HB.out).mono ?_
  rintro e w1 ⟨rfl, hb1⟩
  have HB1 : Hid (Below w.heap.size w w1) := st HB.out hb1
  clear a0 a1 a2 b0 b1 b2
  by_cases g1 : s1 = 0
  · subst g1
    obtain ⟨⟨a0, a1, a2⟩, b0, b1, b2⟩ := HT.out w1 hb1
    go_wp2_with fail
    refine (HC2.out _ HB1.out).mono ?_
    rintro e w2 ⟨rfl, hb2⟩
    have HB2 : Hid (Below w.heap.size w w2) := st HB1.out hb2
    have hb12 := st hb1 hb2
    clear a0 a1 a2 b0 b1 b2
    by_cases g2 : s2 = 0
    · subst g2
      obtain ⟨⟨a0, a1, a2⟩, b0, b1, b2⟩ := HT.out w2 hb12
      go_wp2_with fail
      refine (H1.out _ HB2.out).mono ?_
      rintro e w3 ⟨rfl, hb3⟩
      have HB3 : Hid (Below w.heap.size w w3) := st HB2.out hb3
      have hb13 := st hb12 hb3
      clear a0 a1 a2 b0 b1 b2
      cases r1
      · go_wp2
        go_ret
        exact ⟨rfl, HB3.out⟩
      · obtain ⟨⟨a0, a1, a2⟩, b0, b1, b2⟩ := HT.out w3 hb13
        go_wp2_with fail
        refine (H2.out _ HB3.out).mono ?_
        rintro e w4 ⟨rfl, hb4⟩
        have HB4 : Hid (Below w.heap.size w w4) := st HB3.out hb4
        have hb14 := st hb13 hb4
        clear a0 a1 a2 b0 b1 b2
        cases r2
        · go_wp2
          go_ret
          exact ⟨rfl, HB4.out⟩
        · obtain ⟨⟨a0, a1, a2⟩, b0, b1, b2⟩ := HT.out w4 hb14
          go_wp2_with fail
          refine (H3.out _ HB4.out).mono ?_
          rintro e w5 ⟨rfl, hb5⟩
          go_wp2
          go_ret
          exact ⟨by cases r3 <;> rfl, st HB4.out hb5⟩
    · have g3 : (s2 == 0) = false := by rw [beq_eq_false_iff_ne]; exact g2
      have g4 : (s2 != 0) = true := by rw [bne_iff_ne]; exact g2
      go_wp2
      go_ret
      exact ⟨by rw [g3]; rfl, HB2.out⟩
  · have g3 : (s1 == 0) = false := by rw [beq_eq_false_iff_ne]; exact g1
    have g4 : (s1 != 0) = true := by rw [bne_iff_ne]; exact g1
    go_wp2
    go_ret
    exact ⟨by rw [g3]; rfl, HB1.out⟩
end Go.Proofs.YtkckoanphciddaaGreatDoor
end

/- A region whose order is open, by what each operation leaves in its slot; the last operation (a store) behind all others. -/
section
namespace Go.Proofs.YtkckoanphciddaaGreatDoor
open Go Go.RowKit Go.Deep Go.Shelf

section
variable {ops : Array Oper} {Q : Exit → Act → World → Prop}
theorem chk_dag {n1 : Nat} (hc : RW.chk ops n1 = true) : ∀ (i : Nat) (o : Oper), ops[i]? = some o → ∀ e : Edge, e ∈ o.after → e.on < i := fun i o ho e he => by
  unfold RW.chk at hc
  rw [Bool.and_eq_true, Bool.and_eq_true, List.all_eq_true, List.all_eq_true, List.all_eq_true] at hc
  have := hc.1.2 i (List.mem_range.2 (Array.getElem?_eq_some_iff.1 ho).1)
  rw [ho] at this
  simp only [Option.map_some, Option.getD_some, Array.all_eq_true_iff_forall_mem] at this
  simpa using this e he
theorem chk_late {n1 : Nat} (hsz : ops.size = n1 + 1) (hc : RW.chk ops n1 = true) {listed : Array Bool} (hcl : RW.CL ops listed) (hm : n1 ∈ Region.ready .any ops listed) : ∀ j, j < n1 → listed.getD j false = true := by
  unfold RW.chk at hc
  rw [Bool.and_eq_true, Bool.and_eq_true, List.all_eq_true, List.all_eq_true, List.all_eq_true] at hc
  obtain ⟨⟨c1, c2⟩, c3⟩ := hc
  intro j hj
  have key : ∀ m j, m + j = n1 → 1 ≤ m → listed.getD j false = true := by
    intro m
    induction m using Nat.strongRecOn with
    | _ m ih =>
      intro j hmj hm1
      have hk := c3 j (List.mem_range.2 (by omega))
      rw [List.any_eq_true] at hk
      obtain ⟨k, hk1, hk2⟩ := hk
      rw [Bool.and_eq_true, decide_eq_true_eq] at hk2
      obtain ⟨hk2, hk3⟩ := hk2
      have hk4 := List.mem_range.1 hk1
      cases ho : ops[k]? with
      | none => rw [ho] at hk3; cases hk3
      | some o =>
        rw [ho] at hk3
        by_cases e : k = n1
        · subst e; exact RW.ready_onS hm ho hk3
        · exact hcl.on ho hk3 (ih (n1 - k) (by omega) k (by omega) (by omega))
  exact key (n1 - j) j (by omega) (by omega)
theorem set_getD (listed : Array Bool) (i j : Nat) (hi : i < listed.size) : (listed.setIfInBounds i true).getD j false = if j = i then true else listed.getD j false := by
  rw [Array.getD_eq_getD_getElem?, Array.getD_eq_getD_getElem?, Array.getElem?_setIfInBounds]
  by_cases e : i = j
  · subst e; simp [hi]
  · rw [if_neg e, if_neg (fun x => e x.symm)]
theorem wp_region_TL {id : Nat} {a0 : Act} {w0 : World} {T : Nat → Value → World → Prop} {P : Program} {n1 : Nat} {ol : Oper} (hm : P.follows .mixedOrders = true) (hsz : ops.size = n1 + 1) (hol : ops[n1]? = some ol) (hgl : ol.guard = none) (hc : RW.chk ops n1 = true)
    (step : ∀ listed a w i, Held ops a0 w0 T listed a w → i ∈ Region.ready .any ops listed → i < n1 → wpOp P ops Q i (Held ops a0 w0 T (listed.setIfInBounds i true)) a w)
    (tail : ∀ listed a w, Held ops a0 w0 T listed a w → (∀ j, j < n1 → listed.getD j false = true) → ol.wp P a w (fun a' w' => Q .normal a' w') Q) : (Code.region id ops true).wp P Q a0 w0 := by
  have dag := chk_dag hc
  refine wp_region_any hm (wpAny_inv (fun listed a w => (Held ops a0 w0 T listed a w ∧ listed.getD n1 false = false ∧ RW.CL ops listed) ∨ (listed.size = ops.size ∧ (∀ j, j < ops.size → listed.getD j false = true) ∧ Q .normal a w)) ?_ ?_ _ _ _ _ ?_ ?_)
  · rintro listed a w i (⟨H, hl, hcl⟩ | ⟨hs, hall, _⟩) hi
    · have hlt := (mem_ready hi).1
      by_cases e : i = n1
      · subst e
        have hlate := chk_late hsz hc hcl hi
        refine wpOp_of hol (.inl hgl) ?_
        have ht := tail listed a w H hlate
        refine Oper.wp_mono ?_ ht
        · intro a' w' hq
          refine .inr ⟨by simpa using H.size, fun j hj => ?_, hq⟩
          rw [set_getD _ _ _ (by rw [H.size]; exact hlt)]
          by_cases e2 : j = i
          · rw [if_pos e2]
          · rw [if_neg e2]; exact hlate j (by omega)
      · refine wpOp_mono ?_ (step listed a w i H hi (by omega))
        intro a' w' H'
        refine .inl ⟨H', ?_, hcl.set hi⟩
        rw [set_getD _ _ _ (by rw [H.size]; exact hlt), if_neg (fun x => e x.symm)]
        exact hl
    · exfalso
      have h1 := (mem_ready hi).1
      have h2 := (mem_ready hi).2.1
      have h3 := hall i h1
      rw [Array.getD, dif_pos (by omega)] at h2 h3
      rw [h2] at h3
      cases h3
  · rintro listed a w (⟨H, hl, _⟩ | ⟨_, _, hq⟩) hr
    · have := all_listed H.size dag hr n1 (by omega)
      rw [hl] at this
      cases this
    · exact hq
  · unfold leftOf
    simp
  · have hf : ∀ j, (Array.replicate ops.size false).getD j false = false := by
      intro j
      rw [Array.getD_eq_getD_getElem?, Array.getElem?_replicate]
      split <;> rfl
    refine .inl ⟨⟨by simp, rfl, rfl, Below.drew (Below.refl _ _), fun _ _ => rfl, fun i o t _ _ hl => by rw [hf] at hl; cases hl⟩, hf n1, fun j oj _ hl => ?_⟩
    rw [hf] at hl; cases hl
end
theorem range_38 : List.range 38 = [0, 1, 2, 3, 4, 5, 6, 7, 8, 9, 10, 11, 12, 13, 14, 15, 16, 17, 18, 19, 20, 21, 22, 23, 24, 25, 26, 27, 28, 29, 30, 31, 32, 33, 34, 35, 36, 37] := rfl
theorem lit_38 (f : Nat → Value) : ((List.range 38).map f).toArray = #[f 0, f 1, f 2, f 3, f 4, f 5, f 6, f 7, f 8, f 9, f 10, f 11, f 12, f 13, f 14, f 15, f 16, f 17, f 18, f 19, f 20, f 21, f 22, f 23, f 24, f 25, f 26, f 27, f 28, f 29, f 30, f 31, f 32, f 33, f 34, f 35, f 36, f 37] := by rw [range_38]; rfl
theorem actlit_38 (a : Act) (h : a.tmps.size = 38) (hd : a.defers = []) : ∃ f : Nat → Value, (∀ t, a.tmps[t]?.getD undef = f t) ∧ a = ⟨#[f 0, f 1, f 2, f 3, f 4, f 5, f 6, f 7, f 8, f 9, f 10, f 11, f 12, f 13, f 14, f 15, f 16, f 17, f 18, f 19, f 20, f 21, f 22, f 23, f 24, f 25, f 26, f 27, f 28, f 29, f 30, f 31, f 32, f 33, f 34, f 35, f 36, f 37], []⟩ := by
  refine ⟨fun t => a.tmps[t]?.getD undef, fun t => rfl, ?_⟩
  obtain ⟨tm, df⟩ := a
  have h' : tm.size = 38 := h
  have hd' : df = [] := hd
  subst hd'
  have e : tm = ((List.range 38).map fun t => tm[t]?.getD undef).toArray := by
    apply Array.ext
    · simpa using h'
    · intro i h1 h2
      simp [h1]
  exact (congrArg (fun x => (⟨x, []⟩ : Act)) (e.trans (lit_38 _)))
end Go.Proofs.YtkckoanphciddaaGreatDoor
end

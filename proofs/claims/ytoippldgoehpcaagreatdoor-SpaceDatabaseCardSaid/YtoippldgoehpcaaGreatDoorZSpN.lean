/- Arrays as data, and as they lie. -/
import Derived.Test.YtoippldgoehpcaaGreatDoorZN9
import Derived.Test.YtoippldgoehpcaaGreatDoorZRg

/- Arrays as data, and as they lie. -/
section
namespace Go.Proofs.YtoippldgoehpcaaGreatDoor
open Go Go.RowKit Go.Deep

/-- Cells as data. -/
structure CeD where
  ln : Nat → Nat
  vl : Nat → Nat
  x : Nat → Nat → Int
  vk : Nat → Nat → Int
  vn : Nat → Nat → Int
  vd : Nat → Nat → Int
  vs : Nat → Nat → ByteArray
/-- An array as data. -/
structure ArD where
  n : Nat
  nm : Nat → ByteArray
  lo : Nat → Int
  hi : Nat → Int
  m : Nat
  an : Nat → ByteArray
  ty : Nat → Int
  N : Nat
  c : CeD
/-- The cells c lie in the slice at C. -/
def CeAt (w : World) (C : Option Addr) (N : Nat) (c : CeD) : Prop := CellsAt w C N c.ln c.vl c.x c.vk c.vn c.vd c.vs
theorem CeAt.below {w w' : World} {C : Option Addr} {N : Nat} {c : CeD} (h : CeAt w C N c) (hb : Below w.heap.size w w') : CeAt w' C N c := CellsAt.below h hb
/-- Where an array's slices lie. -/
structure ArP where
  A : Option Addr
  cap : Nat
  B : Option Addr
  bcap : Nat
  C : Option Addr
  ccap : Nat
abbrev ArP.val (p : ArP) (n m N : Nat) : Value := ArrV p.A n p.cap p.B m p.bcap p.C N p.ccap
structure ArAt (w : World) (p : ArP) (D : ArD) : Prop where
  dims : DimsAt w p.A D.n D.nm D.lo D.hi
  attrs : AttrsAt w p.B D.m D.an D.ty
  cells : CeAt w p.C D.N D.c
theorem ArAt.below {w w' : World} {p : ArP} {D : ArD} (h : ArAt w p D) (hb : Below w.heap.size w w') : ArAt w' p D := ⟨h.dims.below hb, h.attrs.below hb, h.cells.below hb⟩
/-- Cells of sizes that can be walked through. -/
def CeOk (N : Nat) (c : CeD) : Prop := ∀ k, k < N → c.ln k ≤ 1000 ∧ c.vl k ≤ 1000 ∧ ∀ j, j < c.vl k → (c.vs k j).size ≤ 9223372036854775807
structure ArOk (D : ArD) : Prop where
  n1 : D.n ≤ 1000
  m1 : D.m ≤ 1000
  N1 : D.N ≤ 1000000
  nmS : ∀ k, k < D.n → (D.nm k).size ≤ 9223372036854775807
  anS : ∀ k, k < D.m → (D.an k).size ≤ 9223372036854775807
  cS : CeOk D.N D.c
noncomputable def ArD.check (D : ArD) : Int := checkE D.nm D.lo D.hi D.n D.an D.ty D.m D.N D.c.ln D.c.vl D.c.x D.c.vk D.c.vn D.c.vd D.c.vs
theorem as_Check (w : World) (p : ArP) (D : ArD) (h : ArAt w p D) (ho : ArOk D) :
    Calls Tryz.prog 17 #[p.val D.n D.m D.N] w fun e w' => e = .returned (.int .i64 D.check) ∧ Below w.heap.size w w' :=
  s_Check w p.A p.B p.C D.n p.cap D.m p.bcap D.N p.ccap D.nm D.lo D.hi D.an D.ty D.c.ln D.c.vl D.c.x D.c.vk D.c.vn D.c.vd D.c.vs h.dims h.attrs h.cells ho.n1 ho.m1 ho.N1
theorem ar_Check (w : World) (p : ArP) (D : ArD) (h : ArAt w p D) (ho : ArOk D) :
    Calls Tryz.prog 18 #[p.val D.n D.m D.N] w fun e w' => e = .returned (.int .i64 D.check) ∧ Below w.heap.size w w' :=
  ra_Check w p.A p.B p.C D.n p.cap D.m p.bcap D.N p.ccap D.nm D.lo D.hi D.an D.ty D.c.ln D.c.vl D.c.x D.c.vk D.c.vn D.c.vd D.c.vs h.dims h.attrs h.cells ho.n1 ho.m1 ho.N1 ho.nmS ho.anS fun k hk => (ho.cS k hk).2.2

/-- What is known of an array that is a law's parameter. -/
def ArR (w : World) (p : ArP) (D : ArD) : Prop := ArrF w p.A D.n p.B D.m p.C D.N D.nm D.lo D.hi D.an D.ty D.c.ln D.c.vl D.c.x D.c.vk D.c.vn D.c.vd D.c.vs
theorem ArR.below {w w' : World} {p : ArP} {D : ArD} (h : ArR w p D) (hb : Below w.heap.size w w') : ArR w' p D := ArrF.below h hb
def FewD (D : ArD) (most : Int) : Prop := FewB D.n D.m D.N most D.c.ln D.c.vl
theorem ArR.ok {w : World} {p : ArP} {D : ArD} {most : Int} (h : ArR w p D) (hf : FewD D most) (hm : most ≤ 1000000) : ArAt w p D ∧ ArOk D := by
  have h1 := hf.1
  have h2 := hf.2.1
  have h3 := hf.2.2.1
  refine ⟨⟨h.dims, h.attrs, h.few hf⟩, by omega, by omega, by omega, h.nmS, h.anS, fun k hk => ?_⟩
  have := hf.2.2.2 k hk
  exact ⟨by omega, by omega, (h.cS k hk).2.2⟩
theorem al_Few (w : World) (p : ArP) (D : ArD) (most : Int) (h : ArR w p D) (hm : most ≤ 1000000) :
    Calls Tryz.prog 15 #[p.val D.n D.m D.N, .int .i64 most] w fun e w' => (e = .returned (.bool false) ∨ e = .returned (.bool true) ∧ FewD D most) ∧ Below w.heap.size w w' :=
  l_Few3 w p.A p.B p.C D.n p.cap D.m p.bcap D.N p.ccap most D.nm D.lo D.hi D.an D.ty D.c.ln D.c.vl D.c.x D.c.vk D.c.vn D.c.vd D.c.vs h hm

/-- Are two cells equal? -/
def celQ (c c' : CeD) (k : Nat) : Bool := sameZ (c.ln k) (c'.ln k) (c.x k) (c'.x k) && sameV (c.vl k) (c'.vl k) (c.vk k) (c'.vk k) (c.vn k) (c'.vn k) (c.vd k) (c'.vd k) (c.vs k) (c'.vs k)
def sameC (N N' : Nat) (c c' : CeD) : Bool := N == N' && allTo (celQ c c') N
/-- Are two arrays equal? -/
def eqAr (D D' : ArD) : Bool := sameD D.n D'.n D.nm D'.nm D.lo D'.lo D.hi D'.hi && (sameA D.m D'.m D.an D'.an D.ty D'.ty && sameC D.N D'.N D.c D'.c)

set_option maxRecDepth 100000 in
set_option maxHeartbeats 4000000 in
theorem r_SameCells (w : World) (A B : Option Addr) (n ca m d : Nat) (c c' : CeD) (ha : CeAt w A n c) (hb : CeAt w B m c') (hc : CeOk n c) (hc' : CeOk m c') (hn : n ≤ 1000000) (hm : m ≤ 1000000) :
    Calls Tryz.prog 83 #[.slice A n ca, .slice B m d] w fun e w' => e = .returned (.bool (sameC n m c c')) ∧ Below w.heap.size w w' := by
  have HA := Lib.hid ha
  have HB := Lib.hid hb
  have HC := Lib.hid hc
  have HC' := Lib.hid hc'
  have HI := Lib.hid s_SameInts
  have HVl := Lib.hid r_SameVals
  obtain ⟨ve, hve⟩ : ∃ ve, sameC n m c c' = ve := ⟨_, rfl⟩
  rw [hve]
  have HV := Lib.hid hve
  clear ha hb hve hc hc'
  by_cases h0 : n = m
  · subst h0
    have HE : Hid (ve = allTo (celQ c c') n) := by show _ = _; rw [← HV.out, sameC, beq_self_eq_true, Bool.true_and]
    go_enter Tryz.func83, Tryz.ntmps83
    go_wp2
    go_loopw [5] (fun i wr => ∃ k : Nat, k ≤ n ∧ i = .int .i64 k ∧ Hid (allTo (celQ c c') k = true) ∧ Hid (Below w.heap.size w wr)) (fun i _ => n - (intOf i).toNat)
    case atStart => exact ⟨0, Nat.zero_le _, rfl, rfl, Below.refl _ _⟩
    case round =>
      obtain ⟨k, hk, rfl, HK, HBw⟩ := hrel
      by_cases hlt : k < n
      · obtain ⟨b1, o1, rfl, hb1, hc1⟩ := (HA.out.below HBw.out) (by omega)
        obtain ⟨P, pc, Q, qc, x0, x1, x2, x3, x4⟩ := hc1 k hlt
        obtain ⟨b2, o2, rfl, hb2, hc2⟩ := (HB.out.below HBw.out) (by omega)
        obtain ⟨P', pc', Q', qc', y0, y1, y2, y3, y4⟩ := hc2 k hlt
        clear hc1 hc2
        have HS : Hid (allTo (celQ c c') (k + 1) = celQ c c' k) := by show _ = _; rw [allTo, HK.out, Bool.true_and]
        have HD : Hid (celQ c c' k = (sameZ (c.ln k) (c'.ln k) (c.x k) (c'.x k) && sameV (c.vl k) (c'.vl k) (c.vk k) (c'.vk k) (c.vn k) (c'.vn k) (c.vd k) (c'.vd k) (c.vs k) (c'.vs k))) := rfl
        have HL : Hid (celQ c c' k = false → ve = false) := fun h => by rw [HE.out]; exact allTo_le (k := k + 1) (by rw [HS.out, h]) (by omega)
        have hz := HC.out k hlt
        have hz' := HC'.out k hlt
        have HI1 : Hid (∀ W, Below wr.heap.size wr W → Calls Tryz.prog 51 #[.slice P (c.ln k) pc, .slice P' (c'.ln k) pc'] W fun e w' => e = .returned (.bool (sameZ (c.ln k) (c'.ln k) (c.x k) (c'.x k))) ∧ Below W.heap.size W w') := fun W hW => HI.out W P P' _ _ _ _ _ _ (x2.below hW) (y2.below hW) (by omega) (by omega)
        have HV1 : Hid (∀ W, Below wr.heap.size wr W → Calls Tryz.prog 32 #[.slice Q (c.vl k) qc, .slice Q' (c'.vl k) qc'] W fun e w' => e = .returned (.bool (sameV (c.vl k) (c'.vl k) (c.vk k) (c'.vk k) (c.vn k) (c'.vn k) (c.vd k) (c'.vd k) (c.vs k) (c'.vs k))) ∧ Below W.heap.size W w') := fun W hW => HVl.out W Q Q' _ _ _ _ _ _ _ _ _ _ _ _ (x3.below hW) (y3.below hW) (by omega) (by omega)
        have KW : Hid (∀ W, Below wr.heap.size wr W → (W.cell? ⟨b1, o1 + k * 2, none⟩ = some (.slice P (c.ln k) pc) ∧ W.cell? ⟨b1, o1 + k * 2 + 1, none⟩ = some (.slice Q (c.vl k) qc)) ∧ W.cell? ⟨b2, o2 + k * 2, none⟩ = some (.slice P' (c'.ln k) pc') ∧ W.cell? ⟨b2, o2 + k * 2 + 1, none⟩ = some (.slice Q' (c'.vl k) qc')) := fun W hW =>
          ⟨⟨(hW.cell (p := ⟨b1, o1 + k * 2, none⟩) hb1).trans x0, (hW.cell (p := ⟨b1, o1 + k * 2 + 1, none⟩) hb1).trans x1⟩, (hW.cell (p := ⟨b2, o2 + k * 2, none⟩) hb2).trans y0, (hW.cell (p := ⟨b2, o2 + k * 2 + 1, none⟩) hb2).trans y1⟩
        clear x2 x3 x4 y2 y3 y4 hz hz'
        generalize sameZ (c.ln k) (c'.ln k) (c.x k) (c'.x k) = r1 at *
        generalize sameV (c.vl k) (c'.vl k) (c.vk k) (c'.vk k) (c.vn k) (c'.vn k) (c.vd k) (c'.vd k) (c.vs k) (c'.vs k) = r2 at *
        generalize c.ln k = L1 at *
        generalize c'.ln k = L2 at *
        generalize c.vl k = V1 at *
        generalize c'.vl k = V2 at *
        have B0d : Below wr.heap.size wr wr.drew := Below.drew (Below.refl _ _)
        cases r1
        · have HF : Hid (ve = false) := HL.out (by rw [HD.out]; rfl)
          clear HS HD HL
          go_wp2_with fail
          refine wp_region_held_drew (S := fun W => (W.cell? ⟨b1, o1 + k * 2, none⟩ = some (.slice P L1 pc) ∧ W.cell? ⟨b1, o1 + k * 2 + 1, none⟩ = some (.slice Q V1 qc)) ∧ W.cell? ⟨b2, o2 + k * 2, none⟩ = some (.slice P' L2 pc') ∧ W.cell? ⟨b2, o2 + k * 2 + 1, none⟩ = some (.slice Q' V2 qc')) (by kernel_rfl) (KW.out _ B0d) (fun hHeld => ?_)
          refine rgi (v := ?_) 0 rfl (by kernel_rfl) (by kernel_rfl) (by kernel_rfl) (fun _ _ _ h => h) (by rfl) ?_ hHeld ?_
          rotate_left
          · intro w hSw; (try dsimp only at hSw); (try simp only [List.getElem_toArray, List.getElem_cons_zero]); go_simp; (try with_reducible rfl)
          try simp only [Act.put, List.setIfInBounds_toArray, List.set_cons_zero, List.set_cons_succ, List.getElem_toArray, List.getElem_cons_zero]
          refine rgi (v := ?_) 1 rfl (by kernel_rfl) (by kernel_rfl) (by kernel_rfl) (fun _ _ _ h => h) (by rfl) ?_ hHeld ?_
          rotate_left
          · intro w hSw; (try dsimp only at hSw); (try simp only [List.getElem_toArray, List.getElem_cons_succ, List.getElem_cons_zero]); go_simp; (try with_reducible rfl)
          try simp only [Act.put, List.setIfInBounds_toArray, List.set_cons_zero, List.set_cons_succ, List.getElem_toArray, List.getElem_cons_succ, List.getElem_cons_zero]
          refine rgi (v := ?_) 2 rfl (by kernel_rfl) (by kernel_rfl) (by kernel_rfl) (fun _ _ _ h => h) (by rfl) ?_ hHeld ?_
          rotate_left
          · intro w hSw; (try dsimp only at hSw); (try simp only [List.getElem_toArray, List.getElem_cons_succ, List.getElem_cons_zero]); go_simp; (try with_reducible rfl)
          try simp only [Act.put, List.setIfInBounds_toArray, List.set_cons_zero, List.set_cons_succ, List.getElem_toArray, List.getElem_cons_succ, List.getElem_cons_zero]
          refine rgi (v := ?_) 3 rfl (by kernel_rfl) (by kernel_rfl) (by kernel_rfl) (fun _ _ _ h => h) (by rfl) ?_ hHeld ?_
          rotate_left
          · intro w hSw; (try dsimp only at hSw); (try simp only [List.getElem_toArray, List.getElem_cons_succ, List.getElem_cons_zero]); go_simp; (try with_reducible rfl)
          try simp only [Act.put, List.setIfInBounds_toArray, List.set_cons_zero, List.set_cons_succ, List.getElem_toArray, List.getElem_cons_succ, List.getElem_cons_zero]
          refine rgi (v := ?_) 4 rfl (by kernel_rfl) (by kernel_rfl) (by kernel_rfl) (fun _ _ _ h => h) (by rfl) ?_ hHeld ?_
          rotate_left
          · intro w hSw; (try dsimp only at hSw); (try simp only [List.getElem_toArray, List.getElem_cons_succ, List.getElem_cons_zero]); go_simp; (try with_reducible rfl)
          try simp only [Act.put, List.setIfInBounds_toArray, List.set_cons_zero, List.set_cons_succ, List.getElem_toArray, List.getElem_cons_succ, List.getElem_cons_zero]
          refine rgi (v := ?_) 5 rfl (by kernel_rfl) (by kernel_rfl) (by kernel_rfl) (fun _ _ _ h => h) (by rfl) ?_ hHeld ?_
          rotate_left
          · intro w hSw; (try dsimp only at hSw); (try simp only [List.getElem_toArray, List.getElem_cons_succ, List.getElem_cons_zero]); go_simp; (try with_reducible rfl)
          try simp only [Act.put, List.setIfInBounds_toArray, List.set_cons_zero, List.set_cons_succ, List.getElem_toArray, List.getElem_cons_succ, List.getElem_cons_zero]
          refine rgi (v := ?_) 6 rfl (by kernel_rfl) (by kernel_rfl) (by kernel_rfl) (fun _ _ _ h => h) (by rfl) ?_ hHeld ?_
          rotate_left
          · intro w hSw; (try dsimp only at hSw); (try simp only [List.getElem_toArray, List.getElem_cons_succ, List.getElem_cons_zero]); go_simp; (try with_reducible rfl)
          try simp only [Act.put, List.setIfInBounds_toArray, List.set_cons_zero, List.set_cons_succ, List.getElem_toArray, List.getElem_cons_succ, List.getElem_cons_zero]
          refine rgi (v := ?_) 7 rfl (by kernel_rfl) (by kernel_rfl) (by kernel_rfl) (fun _ _ _ h => h) (by rfl) ?_ hHeld ?_
          rotate_left
          · intro w hSw; (try dsimp only at hSw); (try simp only [List.getElem_toArray, List.getElem_cons_succ, List.getElem_cons_zero]); go_simp; (try with_reducible rfl)
          try simp only [Act.put, List.setIfInBounds_toArray, List.set_cons_zero, List.set_cons_succ, List.getElem_toArray, List.getElem_cons_succ, List.getElem_cons_zero]
          refine rgi (v := ?_) 8 rfl (by kernel_rfl) (by kernel_rfl) (by kernel_rfl) (fun _ _ _ h => h) (by rfl) ?_ hHeld ?_
          rotate_left
          · intro w hSw; (try dsimp only at hSw); (try simp only [List.getElem_toArray, List.getElem_cons_succ, List.getElem_cons_zero]); go_simp; (try with_reducible rfl)
          try simp only [Act.put, List.setIfInBounds_toArray, List.set_cons_zero, List.set_cons_succ, List.getElem_toArray, List.getElem_cons_succ, List.getElem_cons_zero]
          refine rgi (v := ?_) 9 rfl (by kernel_rfl) (by kernel_rfl) (by kernel_rfl) (fun _ _ _ h => h) (by rfl) ?_ hHeld ?_
          rotate_left
          · intro w hSw; (try dsimp only at hSw); (try simp only [List.getElem_toArray, List.getElem_cons_succ, List.getElem_cons_zero]); go_simp; (try with_reducible rfl)
          try simp only [Act.put, List.setIfInBounds_toArray, List.set_cons_zero, List.set_cons_succ, List.getElem_toArray, List.getElem_cons_succ, List.getElem_cons_zero]
          refine wpAnyH_ready (rs := [10]) (by kernel_rfl) (by simp) ?_
          refine AllReadyH.cons rfl (fun K hK => ?_) AllReadyH.nil
          try simp only [List.getElem_toArray, List.getElem_cons_succ, List.getElem_cons_zero]
          go_simp
          go_at_call 51
          refine (HI1.out _ B0d).mono ?_
          rintro e w2 ⟨rfl, hb2⟩
          have B1 : Below wr.heap.size wr w2 := st B0d hb2
          go_wp2_with fail
          refine hK.out _ _ (KW.out _ B1) (fun hHeld => ?_)
          clear hK K
          try simp only [Act.put, List.setIfInBounds_toArray, List.set_cons_zero, List.set_cons_succ, List.getElem_toArray, List.getElem_cons_succ, List.getElem_cons_zero]
          refine rgi (v := ?_) 11 rfl (by kernel_rfl) (by kernel_rfl) (by kernel_rfl) (fun _ _ _ h => h) (by rfl) ?_ hHeld ?_
          rotate_left
          · intro w hSw; (try dsimp only at hSw); (try simp only [List.getElem_toArray, List.getElem_cons_succ, List.getElem_cons_zero]); go_simp; (try with_reducible rfl)
          try simp only [Act.put, List.setIfInBounds_toArray, List.set_cons_zero, List.set_cons_succ, List.getElem_toArray, List.getElem_cons_succ, List.getElem_cons_zero]
          refine rgi (v := ?_) 12 rfl (by kernel_rfl) (by kernel_rfl) (by kernel_rfl) (fun _ _ _ h => h) (by rfl) ?_ hHeld ?_
          rotate_left
          · intro w hSw; (try dsimp only at hSw); (try simp only [List.getElem_toArray, List.getElem_cons_succ, List.getElem_cons_zero]); go_simp; (try with_reducible rfl)
          try simp only [Act.put, List.setIfInBounds_toArray, List.set_cons_zero, List.set_cons_succ, List.getElem_toArray, List.getElem_cons_succ, List.getElem_cons_zero]
          refine rgo 13 rfl (by kernel_rfl) (by kernel_rfl) (by kernel_rfl) (fun _ _ _ h => h) (by rfl) hHeld ?_
          try simp only [Act.put, List.setIfInBounds_toArray, List.set_cons_zero, List.set_cons_succ, List.getElem_toArray, List.getElem_cons_succ, List.getElem_cons_zero]
          refine rgo 14 rfl (by kernel_rfl) (by kernel_rfl) (by kernel_rfl) (fun _ _ _ h => h) (by rfl) hHeld ?_
          try simp only [Act.put, List.setIfInBounds_toArray, List.set_cons_zero, List.set_cons_succ, List.getElem_toArray, List.getElem_cons_succ, List.getElem_cons_zero]
          refine rgo 15 rfl (by kernel_rfl) (by kernel_rfl) (by kernel_rfl) (fun _ _ _ h => h) (by rfl) hHeld ?_
          try simp only [Act.put, List.setIfInBounds_toArray, List.set_cons_zero, List.set_cons_succ, List.getElem_toArray, List.getElem_cons_succ, List.getElem_cons_zero]
          refine rgo 16 rfl (by kernel_rfl) (by kernel_rfl) (by kernel_rfl) (fun _ _ _ h => h) (by rfl) hHeld ?_
          try simp only [Act.put, List.setIfInBounds_toArray, List.set_cons_zero, List.set_cons_succ, List.getElem_toArray, List.getElem_cons_succ, List.getElem_cons_zero]
          refine rgo 17 rfl (by kernel_rfl) (by kernel_rfl) (by kernel_rfl) (fun _ _ _ h => h) (by rfl) hHeld ?_
          try simp only [Act.put, List.setIfInBounds_toArray, List.set_cons_zero, List.set_cons_succ, List.getElem_toArray, List.getElem_cons_succ, List.getElem_cons_zero]
          refine rgo 18 rfl (by kernel_rfl) (by kernel_rfl) (by kernel_rfl) (fun _ _ _ h => h) (by rfl) hHeld ?_
          try simp only [Act.put, List.setIfInBounds_toArray, List.set_cons_zero, List.set_cons_succ, List.getElem_toArray, List.getElem_cons_succ, List.getElem_cons_zero]
          refine rgo 19 rfl (by kernel_rfl) (by kernel_rfl) (by kernel_rfl) (fun _ _ _ h => h) (by rfl) hHeld ?_
          try simp only [Act.put, List.setIfInBounds_toArray, List.set_cons_zero, List.set_cons_succ, List.getElem_toArray, List.getElem_cons_succ, List.getElem_cons_zero]
          refine rgo 20 rfl (by kernel_rfl) (by kernel_rfl) (by kernel_rfl) (fun _ _ _ h => h) (by rfl) hHeld ?_
          try simp only [Act.put, List.setIfInBounds_toArray, List.set_cons_zero, List.set_cons_succ, List.getElem_toArray, List.getElem_cons_succ, List.getElem_cons_zero]
          refine rgo 21 rfl (by kernel_rfl) (by kernel_rfl) (by kernel_rfl) (fun _ _ _ h => h) (by rfl) hHeld ?_
          try simp only [Act.put, List.setIfInBounds_toArray, List.set_cons_zero, List.set_cons_succ, List.getElem_toArray, List.getElem_cons_succ, List.getElem_cons_zero]
          refine rgo 22 rfl (by kernel_rfl) (by kernel_rfl) (by kernel_rfl) (fun _ _ _ h => h) (by rfl) hHeld ?_
          try simp only [Act.put, List.setIfInBounds_toArray, List.set_cons_zero, List.set_cons_succ, List.getElem_toArray, List.getElem_cons_succ, List.getElem_cons_zero]
          refine wpAnyH_ready (rs := [23]) (by kernel_rfl) (by simp) ?_
          refine AllReadyH.cons rfl (fun K hK => ?_) AllReadyH.nil
          rw [if_neg (fun h => Bool.noConfusion h)]
          refine hK.out _ _ hHeld (fun hHeld => ?_)
          clear hK K
          simp only [Act.put, List.setIfInBounds_toArray, List.set_cons_zero, List.set_cons_succ, List.getElem_toArray, List.getElem_cons_succ, List.getElem_cons_zero]
          refine rgo 24 rfl (by kernel_rfl) (by kernel_rfl) (by kernel_rfl) (fun _ _ _ h => h) (by rfl) hHeld ?_
          try simp only [Act.put, List.setIfInBounds_toArray, List.set_cons_zero, List.set_cons_succ, List.getElem_toArray, List.getElem_cons_succ, List.getElem_cons_zero]
          refine rgi (v := ?_) 25 rfl (by kernel_rfl) (by kernel_rfl) (by kernel_rfl) (fun _ _ _ h => h) (by rfl) ?_ hHeld ?_
          rotate_left
          · intro w hSw; (try dsimp only at hSw); (try simp only [List.getElem_toArray, List.getElem_cons_succ, List.getElem_cons_zero]); go_simp; (try with_reducible rfl)
          try simp only [Act.put, List.setIfInBounds_toArray, List.set_cons_zero, List.set_cons_succ, List.getElem_toArray, List.getElem_cons_succ, List.getElem_cons_zero]
          refine wpAnyH_done (by kernel_rfl) ?_ _
          go_wp2
          go_ret
          exact ⟨by rw [HF.out]; rfl, st HBw.out B1⟩
        · cases r2
          · have HF : Hid (ve = false) := HL.out (by rw [HD.out]; rfl)
            clear HS HD HL
            go_wp2_with fail
            go_region_held3 (fun W => (W.cell? ⟨b1, o1 + k * 2, none⟩ = some (.slice P L1 pc) ∧ W.cell? ⟨b1, o1 + k * 2 + 1, none⟩ = some (.slice Q V1 qc)) ∧ W.cell? ⟨b2, o2 + k * 2, none⟩ = some (.slice P' L2 pc') ∧ W.cell? ⟨b2, o2 + k * 2 + 1, none⟩ = some (.slice Q' V2 qc'))
              (first | exact KW.out _ B2 | exact KW.out _ B1 | exact KW.out _ B0d | exact KW.out _ (Below.refl _ _))
              (first
                | (go_at_call 51; refine (HI1.out _ B0d).mono ?_; rintro e w2 ⟨rfl, hb2⟩; have B1 : Below wr.heap.size wr w2 := st B0d hb2)
                | (go_at_call 32; refine (HV1.out _ B1).mono ?_; rintro e w3 ⟨rfl, hb3⟩; have B2 : Below wr.heap.size wr w3 := st B1 hb3))
            all_goals
              go_wp2
              go_ret
              exact ⟨by rw [HF.out]; rfl, st HBw.out B2⟩
          · have HR : Hid (allTo (celQ c c') (k + 1) = true) := by show _ = _; rw [HS.out, HD.out]; rfl
            clear HS HD HL
            go_wp2_with fail
            go_region_held3 (fun W => (W.cell? ⟨b1, o1 + k * 2, none⟩ = some (.slice P L1 pc) ∧ W.cell? ⟨b1, o1 + k * 2 + 1, none⟩ = some (.slice Q V1 qc)) ∧ W.cell? ⟨b2, o2 + k * 2, none⟩ = some (.slice P' L2 pc') ∧ W.cell? ⟨b2, o2 + k * 2 + 1, none⟩ = some (.slice Q' V2 qc'))
              (first | exact KW.out _ B2 | exact KW.out _ B1 | exact KW.out _ B0d | exact KW.out _ (Below.refl _ _))
              (first
                | (go_at_call 51; refine (HI1.out _ B0d).mono ?_; rintro e w2 ⟨rfl, hb2⟩; have B1 : Below wr.heap.size wr w2 := st B0d hb2)
                | (go_at_call 32; refine (HV1.out _ B1).mono ?_; rintro e w3 ⟨rfl, hb3⟩; have B2 : Below wr.heap.size wr w3 := st B1 hb3))
            all_goals
              go_wp2
              go_roundw
              case rel => exact ⟨k + 1, by omega, by go_num, HR.out, st HBw.out B2⟩
              case measure => simp [intOf]; omega
      · obtain rfl : k = n := by omega
        go_wp2
        go_ret
        exact ⟨by rw [HE.out, HK.out]; rfl, HBw.out⟩
  · have HE : Hid (ve = false) := by show _ = _; rw [← HV.out, sameC, beq_false_of_ne h0, Bool.false_and]
    have h1 : ((n : Int) != (m : Int)) = true := by rw [bne_iff_ne]; omega
    go_enter Tryz.func83, Tryz.ntmps83
    go_wp2
    go_ret
    exact ⟨by rw [HE.out]; rfl, Below.refl _ _⟩
end Go.Proofs.YtoippldgoehpcaaGreatDoor
end

/- From the row's condition to the walk: databases. -/
section
namespace Go.Proofs.YtoippldgoehpcaaGreatDoor
open Go Go.ChangeShapes Go.WideShapes Go.ChangeAt Go.RowKit

/-- A database lies in the slice at A. -/
def DbR (w : World) (A : Option Addr) (N : Nat) (nm : Nat → ByteArray) (P : Nat → ArP) (D : Nat → ArD) : Prop :=
  0 < N → ∃ b o, A = some ⟨b, o, none⟩ ∧ b < w.heap.size ∧ ∀ k, k < N → (w.cell? ⟨b, o + k * 4, none⟩ = some (.string (nm k)) ∧ w.cell? ⟨b, o + k * 4 + 1, none⟩ = some (.slice (P k).A (D k).n (P k).cap) ∧ w.cell? ⟨b, o + k * 4 + 2, none⟩ = some (.slice (P k).B (D k).m (P k).bcap) ∧ w.cell? ⟨b, o + k * 4 + 3, none⟩ = some (.slice (P k).C (D k).N (P k).ccap)) ∧ ArR w (P k) (D k)
theorem DbR.below {w w' : World} {A : Option Addr} {N : Nat} {nm : Nat → ByteArray} {P : Nat → ArP} {D : Nat → ArD} (h : DbR w A N nm P D) (hb : Below w.heap.size w w') : DbR w' A N nm P D := fun hn => by
  obtain ⟨b, o, h1, h2, h3⟩ := h hn
  refine ⟨b, o, h1, Nat.lt_of_lt_of_le h2 hb.size, fun k hk => ?_⟩
  obtain ⟨⟨a1, a2, a3, a4⟩, a5⟩ := h3 k hk
  exact ⟨⟨(hb.cell (p := ⟨b, o + k * 4, none⟩) h2).trans a1, (hb.cell (p := ⟨b, o + k * 4 + 1, none⟩) h2).trans a2, (hb.cell (p := ⟨b, o + k * 4 + 2, none⟩) h2).trans a3, (hb.cell (p := ⟨b, o + k * 4 + 3, none⟩) h2).trans a4⟩, a5.below hb⟩
theorem namedF : ∃ f0 f1 : Field, Tryz.prog.underlying 51 = some (.struct #[f0, f1]) ∧ f0.type = 9 ∧ f0.offset = 0 ∧ f1.type = 26 ∧ f1.offset = 1 :=
  ⟨_, _, Tryz.underlying51, rfl, rfl, rfl, rfl⟩
section
variable {H : Type} {enc : TypeId × Value → H} {w : World} {base : Nat} {spare : Nat → Bool} {held : Bool}
set_option maxRecDepth 100000 in
theorem open_named {fuel : Nat} {c0 c1 c2 c3 : Value} {y : DataW H × List MemPlace} (h : DataW.trod enc Tryz.prog w base spare held fuel 51 [c0, c1, c2, c3] = some y) :
    ∃ (s : ByteArray) (P : ArP) (D : ArD), c0 = .string s ∧ s.size ≤ 9223372036854775807 ∧ c1 = .slice P.A D.n P.cap ∧ c2 = .slice P.B D.m P.bcap ∧ c3 = .slice P.C D.N P.ccap ∧ ArR w P D := by
  obtain ⟨f0, f1, hu, t0, o0, t1, o1⟩ := namedF
  obtain ⟨xs, n9, _, _, _, hlen, hf⟩ := DataW.trod_struct hu h
  have l0 : 0 < xs.length := by rw [hlen]; simp
  have l1 : 1 < xs.length := by rw [hlen]; simp
  have q0 := hf 0 f0 rfl
  have q1 := hf 1 f1 rfl
  have ci : Tryz.prog.cellsOf 9 = 1 := by kernel_rfl
  have cv : Tryz.prog.cellsOf 26 = 3 := by kernel_rfl
  rw [t0, o0, ci, List.getElem?_eq_getElem l0] at q0
  rw [t1, o1, cv, List.getElem?_eq_getElem l1] at q1
  have q1' : DataW.trod enc Tryz.prog w base spare held n9 26 [c1, c2, c3] = some xs[1] := by simpa using q1
  obtain ⟨s, e0, _, l9⟩ := DataW.trod_string Tryz.underlying9 q0
  obtain ⟨A, n, cap, B, m, bcap, C, N, ccap, nm, lo, hi, an, ty, ln, vl, x, vk, vn, vd, vs, rfl, rfl, rfl, hR⟩ := open_arr q1'
  exact ⟨s, ⟨A, cap, B, bcap, C, ccap⟩, ⟨n, nm, lo, hi, m, an, ty, N, ⟨ln, vl, x, vk, vn, vd, vs⟩⟩, by simpa using e0, l9, rfl, rfl, rfl, hR⟩
theorem open_db {fuel : Nat} {A : Option Addr} {n cap : Nat} {x : DataW H × List MemPlace} (h : DataW.trod enc Tryz.prog w base spare held fuel 53 [.slice A n cap] = some x) :
    ∃ (nm : Nat → ByteArray) (P : Nat → ArP) (D : Nat → ArD), DbR w A n nm P D ∧ n ≤ 9223372036854775807 ∧ ∀ k, k < n → (nm k).size ≤ 9223372036854775807 := by
  have c4 : Tryz.prog.cellsOf 51 = 4 := by kernel_rfl
  rcases DataW.trod_slice Tryz.underlying53 h with ⟨h0, _⟩ | ⟨a, len, cap', elems, rest, m, _, hcs, _, hb, hl, hm, hlen, hel, hsp, hns⟩
  · obtain ⟨rfl, rfl, rfl⟩ : A = none ∧ n = 0 ∧ cap = 0 := by simpa using h0
    exact ⟨fun _ => ⟨#[]⟩, fun _ => ⟨none, 0, none, 0, none, 0⟩, fun _ => ⟨0, fun _ => ⟨#[]⟩, fun _ => 0, fun _ => 0, 0, fun _ => ⟨#[]⟩, fun _ => 0, 0, ⟨fun _ => 0, fun _ => 0, fun _ _ => 0, fun _ _ => 0, fun _ _ => 0, fun _ _ => 0, fun _ _ => ⟨#[]⟩⟩⟩, fun h9 => absurd h9 (by omega), by omega, fun _ h9 => absurd h9 (by omega)⟩
  · obtain ⟨rfl, rfl, rfl⟩ : A = some a ∧ n = len ∧ cap = cap' := by simpa using hcs
    have each : ∀ k, k < n → ∃ y : ByteArray × ArP × ArD, (w.cell? (a.add (k * 4)) = some (.string y.1) ∧ w.cell? ((a.add (k * 4)).add 1) = some (.slice y.2.1.A y.2.2.n y.2.1.cap) ∧ w.cell? ((a.add (k * 4)).add 2) = some (.slice y.2.1.B y.2.2.m y.2.1.bcap) ∧ w.cell? ((a.add (k * 4)).add 3) = some (.slice y.2.1.C y.2.2.N y.2.1.ccap)) ∧ ArR w y.2.1 y.2.2 ∧ y.1.size ≤ 9223372036854775807 := by
      intro k hk
      have h1 := hel k hk
      have hk' : k < elems.length := by omega
      rw [c4, List.getElem?_eq_getElem hk', Option.bind_eq_some_iff] at h1
      obtain ⟨cs', hcs', hy⟩ := h1
      obtain ⟨_, hl2, hcell⟩ := World.cells?_some hcs'
      match cs', hl2 with
      | [c0, c1, c2, c3], _ =>
        obtain ⟨s, P, D, rfl, l9, rfl, rfl, rfl, hR⟩ := open_named hy
        exact ⟨(s, P, D), ⟨by simpa [Addr.add] using hcell 0 (by omega), by simpa using hcell 1 (by omega), by simpa using hcell 2 (by omega), by simpa using hcell 3 (by omega)⟩, hR, l9⟩
    have pick : ∃ f : Nat → ByteArray × ArP × ArD, ∀ k, k < n → (w.cell? (a.add (k * 4)) = some (.string (f k).1) ∧ w.cell? ((a.add (k * 4)).add 1) = some (.slice (f k).2.1.A (f k).2.2.n (f k).2.1.cap) ∧ w.cell? ((a.add (k * 4)).add 2) = some (.slice (f k).2.1.B (f k).2.2.m (f k).2.1.bcap) ∧ w.cell? ((a.add (k * 4)).add 3) = some (.slice (f k).2.1.C (f k).2.2.N (f k).2.1.ccap)) ∧ ArR w (f k).2.1 (f k).2.2 ∧ (f k).1.size ≤ 9223372036854775807 :=
      ⟨fun k => if hk : k < n then (each k hk).choose else (⟨#[]⟩, ⟨none, 0, none, 0, none, 0⟩, ⟨0, fun _ => ⟨#[]⟩, fun _ => 0, fun _ => 0, 0, fun _ => ⟨#[]⟩, fun _ => 0, 0, ⟨fun _ => 0, fun _ => 0, fun _ _ => 0, fun _ _ => 0, fun _ _ => 0, fun _ _ => 0, fun _ _ => ⟨#[]⟩⟩⟩), fun k hk => by
        simp only [dif_pos hk]
        exact (each k hk).choose_spec⟩
    obtain ⟨f, hf⟩ := pick
    refine ⟨fun k => (f k).1, fun k => (f k).2.1, fun k => (f k).2.2, fun hn => ?_, Nat.le_trans hl (Nat.le_trans hm (by decide)), fun k hk => (hf k hk).2.2⟩
    obtain ⟨b, off, spot⟩ := a
    have hspot : spot = none := by simpa [Addr.add] using World.cell?_spot (hf 0 hn).1.1
    subst hspot
    refine ⟨b, off, rfl, ?_, fun k hk => ?_⟩
    · exact cell_lt (b := b) (o := off + 0 * 4) (by have := (hf 0 hn).1.1; rw [Go.WideShapes.add_plain] at this; exact this)
    · obtain ⟨⟨q1, q2, q3, q4⟩, q5, _⟩ := hf k hk
      rw [Go.WideShapes.add_plain] at q1 q2 q3 q4
      rw [Go.WideShapes.add_plain] at q2 q3 q4
      exact ⟨⟨q1, q2, q3, q4⟩, q5⟩
end
/-- A database of sizes that can be walked through. -/
structure DbAt (w : World) (A : Option Addr) (N : Nat) (nm : Nat → ByteArray) (P : Nat → ArP) (D : Nat → ArD) : Prop where
  at_ : 0 < N → ∃ b o, A = some ⟨b, o, none⟩ ∧ b < w.heap.size ∧ ∀ k, k < N → (w.cell? ⟨b, o + k * 4, none⟩ = some (.string (nm k)) ∧ w.cell? ⟨b, o + k * 4 + 1, none⟩ = some (.slice (P k).A (D k).n (P k).cap) ∧ w.cell? ⟨b, o + k * 4 + 2, none⟩ = some (.slice (P k).B (D k).m (P k).bcap) ∧ w.cell? ⟨b, o + k * 4 + 3, none⟩ = some (.slice (P k).C (D k).N (P k).ccap)) ∧ ArAt w (P k) (D k)
theorem DbAt.below {w w' : World} {A : Option Addr} {N : Nat} {nm : Nat → ByteArray} {P : Nat → ArP} {D : Nat → ArD} (h : DbAt w A N nm P D) (hb : Below w.heap.size w w') : DbAt w' A N nm P D := ⟨fun hn => by
  obtain ⟨b, o, h1, h2, h3⟩ := h.at_ hn
  refine ⟨b, o, h1, Nat.lt_of_lt_of_le h2 hb.size, fun k hk => ?_⟩
  obtain ⟨⟨a1, a2, a3, a4⟩, a5⟩ := h3 k hk
  exact ⟨⟨(hb.cell (p := ⟨b, o + k * 4, none⟩) h2).trans a1, (hb.cell (p := ⟨b, o + k * 4 + 1, none⟩) h2).trans a2, (hb.cell (p := ⟨b, o + k * 4 + 2, none⟩) h2).trans a3, (hb.cell (p := ⟨b, o + k * 4 + 3, none⟩) h2).trans a4⟩, a5.below hb⟩⟩
def DbOk (N : Nat) (nm : Nat → ByteArray) (D : Nat → ArD) : Prop := ∀ k, k < N → (nm k).size ≤ 9223372036854775807 ∧ ArOk (D k)
theorem DbR.ok {w : World} {A : Option Addr} {N : Nat} {nm : Nat → ByteArray} {P : Nat → ArP} {D : Nat → ArD} {most : Int} (h : DbR w A N nm P D) (hs : ∀ k, k < N → (nm k).size ≤ 9223372036854775807) (hf : ∀ k, k < N → FewD (D k) most) (hm : most ≤ 1000000) : DbAt w A N nm P D ∧ DbOk N nm D := by
  refine ⟨⟨fun hn => ?_⟩, fun k hk => ⟨hs k hk, ?_⟩⟩
  · obtain ⟨b, o, h1, h2, h3⟩ := h hn
    exact ⟨b, o, h1, h2, fun k hk => ⟨(h3 k hk).1, ((h3 k hk).2.ok (hf k hk) hm).1⟩⟩
  · obtain ⟨b, o, h1, h2, h3⟩ := h (by omega)
    exact ((h3 k hk).2.ok (hf k hk) hm).2
end Go.Proofs.YtoippldgoehpcaaGreatDoor
end

/- The error of a database. -/
section
namespace Go.Proofs.YtoippldgoehpcaaGreatDoor
open Go Go.RowKit Go.Deep

/-- The error of the named array behind those met. -/
noncomputable def dbE (met : List ByteArray) (s : ByteArray) (ck : Int) : Int := if (nameB s && !inN met s) = true then (if ck = 0 then 0 else 2) else 11
noncomputable def dbTo (nm : Nat → ByteArray) (D : Nat → ArD) : Nat → Int
  | 0 => 0
  | k + 1 => if dbTo nm D k = 0 then dbE (metK [] nm k) (nm k) (D k).check else dbTo nm D k
theorem dbTo_le {nm : Nat → ByteArray} {D : Nat → ArD} {k n : Nat} (h : dbTo nm D k ≠ 0) (hn : k ≤ n) : dbTo nm D n = dbTo nm D k := by
  induction n with
  | zero => obtain rfl : k = 0 := by omega
            rfl
  | succ n ih =>
    by_cases e : k = n + 1
    · rw [e]
    · rw [dbTo, if_neg (by rw [ih (by omega)]; exact h), ih (by omega)]
noncomputable def dbZ (nm : Nat → ByteArray) (D : Nat → ArD) (N : Nat) : Int := if 16 < N then 9 else dbTo nm D N
theorem dbZ_ok {nm : Nat → ByteArray} {D : Nat → ArD} {N : Nat} (h : dbZ nm D N = 0) : N ≤ 16 := by
  unfold dbZ at h
  split at h
  · cases h
  · omega
theorem four_at {W : World} {r : Nat} {a b c d : Value} {ty : TypeId} (h : W.heap[r]? = some (.cells #[a, b, c, d] ty (0, 0))) : W.cell? ⟨r, 0, none⟩ = some a ∧ W.cell? ⟨r, 1, none⟩ = some b ∧ W.cell? ⟨r, 2, none⟩ = some c ∧ W.cell? ⟨r, 3, none⟩ = some d := by
  refine ⟨by simp [World.cell?, h], by simp [World.cell?, h], by simp [World.cell?, h], by simp [World.cell?, h]⟩

set_option maxRecDepth 100000 in
set_option maxHeartbeats 4000000 in
theorem s_Database (w : World) (A : Option Addr) (N cap : Nat) (nm : Nat → ByteArray) (P : Nat → ArP) (D : Nat → ArD) (h : DbAt w A N nm P D) (ho : DbOk N nm D) :
    Calls Tryz.prog 25 #[.slice A N cap] w fun e w' => e = .returned (.int .i64 (dbZ nm D N)) ∧ Below w.heap.size w w' := by
  have HD := Lib.hid h
  have HO := Lib.hid ho
  have hmm := @run_makeMap Tryz.prog
  obtain ⟨ve, hve⟩ : ∃ ve, dbZ nm D N = ve := ⟨_, rfl⟩
  rw [hve]
  have HV : Hid (ve = if 16 < N then 9 else dbTo nm D N) := hve.symm
  clear h ho hve
  by_cases h16 : (N : Int) > 16
  · have HF : Hid (ve = 9) := by show _ = _; rw [HV.out, if_pos (by omega)]
    go_enter Tryz.func25, Tryz.ntmps25
    go_wp2
    go_ret
    exact ⟨by rw [HF.out]; rfl, Below.refl _ _⟩
  · have HV2 : Hid (ve = dbTo nm D N) := by show _ = _; rw [HV.out, if_neg (by omega)]
    have HB0 : Hid (Below w.heap.size w (w.alloc (.map #[] 0))) := (Below.refl _ _).alloc (Nat.le_refl _) _
    have HN0 := Lib.hid (made_names w)
    clear HV
    go_enter Tryz.func25, Tryz.ntmps25
    go_wp2_with fail
    go_loopw [5, 12] (fun _ i wr => ∃ k : Nat, k ≤ N ∧ i = .int .i64 k ∧ Hid (dbTo nm D k = 0) ∧ Hid (NamesAt wr w.heap.size (metK [] nm k)) ∧ Hid (Below w.heap.size w wr)) (fun _ i _ => N - (intOf i).toNat)
    case atStart => exact ⟨0, Nat.zero_le _, rfl, rfl, HN0.out, HB0.out⟩
    case round =>
      obtain ⟨k, hk, rfl, HK, HN, HB⟩ := hrel
      by_cases hlt : k < N
      · obtain ⟨bd, o, rfl, hbd, hc⟩ := (HD.out.below HB.out).at_ (by omega)
        obtain ⟨⟨c0, c1, c2, c3⟩, hAr⟩ := hc k hlt
        clear hc
        have HT : Hid (dbTo nm D (k + 1) = dbE (metK [] nm k) (nm k) (D k).check) := by show _ = _; rw [dbTo, if_pos HK.out]
        have HE : Hid (dbE (metK [] nm k) (nm k) (D k).check ≠ 0 → ve = dbE (metK [] nm k) (nm k) (D k).check) := fun h => by
          rw [HV2.out, dbTo_le (k := k + 1) (by rw [HT.out]; exact h) (by omega), HT.out]
        have HLen : Hid ((metK [] nm k).length < 1000000) := by
          show _ < _
          have := metK_len [] nm k
          simp at this
          omega
        have HCk : Hid (∀ W, Below w.heap.size w W → Calls Tryz.prog 17 #[(P k).val (D k).n (D k).m (D k).N] W fun e w' => e = .returned (.int .i64 (D k).check) ∧ Below W.heap.size W w') := fun W hW => as_Check W (P k) (D k) (by
          obtain ⟨bd', o', e1, _, hc'⟩ := (HD.out.below hW).at_ (by omega)
          exact (hc' k hlt).2) (HO.out k hlt).2
        have hbl := HN.out.lt
        have HSx : Hid (metK [] nm (k + 1) = nm k :: metK [] nm k) := by show _ = _; rw [metK]
        generalize hs : nm k = s at *
        generalize (D k).check = ck at *
        clear hs
        generalize hMK : metK [] nm k = M at *
        have B1 : Below wr.heap.size wr (wr.alloc (.cells #[.string s, .slice (P k).A (D k).n (P k).cap, .slice (P k).B (D k).m (P k).bcap, .slice (P k).C (D k).N (P k).ccap] 51)) := (Below.refl _ _).alloc (Nat.le_refl _) _
        have K4 := Lib.hid (heap_alloc_new wr (.cells #[.string s, .slice (P k).A (D k).n (P k).cap, .slice (P k).B (D k).m (P k).bcap, .slice (P k).C (D k).N (P k).ccap] 51))
        have HB1 : Hid (Below w.heap.size w (wr.alloc (.cells #[.string s, .slice (P k).A (D k).n (P k).cap, .slice (P k).B (D k).m (P k).bcap, .slice (P k).C (D k).N (P k).ccap] 51))) := st HB.out B1
        have HN1 := Lib.hid (HN.out.alloc (.cells #[.string s, .slice (P k).A (D k).n (P k).cap, .slice (P k).B (D k).m (P k).bcap, .slice (P k).C (D k).N (P k).ccap] 51))
        have hz1 : (wr.alloc (.cells #[.string s, .slice (P k).A (D k).n (P k).cap, .slice (P k).B (D k).m (P k).bcap, .slice (P k).C (D k).N (P k).ccap] 51)).heap.size = wr.heap.size + 1 := by simp
        obtain ⟨d0, d1, d2, d3⟩ := four_at K4.out
        clear hAr
        by_cases ht : nameB s = true ∧ inN M s = false
        · have HD0 : Hid (dbE M s ck = if ck = 0 then 0 else 2) := by show _ = _; rw [dbE, if_pos (by rw [ht.1, ht.2]; rfl)]
          have HTk := Lib.hid (s_takes_yes w.heap.size M s _ HN1.out HLen.out ht.1 ht.2)
          clear ht hMK
          go_wp2_with fail
          generalize wr.alloc (.cells #[.string s, .slice (P k).A (D k).n (P k).cap, .slice (P k).B (D k).m (P k).bcap, .slice (P k).C (D k).N (P k).ccap] 51) = wb at *
          refine HTk.out.mono ?_
          rintro e w1 ⟨rfl, hm1, hg1⟩
          have HB2 : Hid (Below w.heap.size w w1) := HB1.out.grown hg1 HB1.out.size (fun g e => by injection e with e; omega)
          have HM1 := Lib.hid hm1
          clear d0 d1 d2 d3 c0 c1 c2 c3
          have K5 := Lib.hid ((hg1.block wr.heap.size (by omega) (by intro e; injection e with e; omega)).trans K4.out)
          obtain ⟨d0, d1, d2, d3⟩ := four_at K5.out
          have HCk1 : Hid (Calls Tryz.prog 17 #[(P k).val (D k).n (D k).m (D k).N] w1 fun e w' => e = .returned (.int .i64 ck) ∧ Below w1.heap.size w1 w') := HCk.out w1 HB2.out
          by_cases hck : ck = 0
          · subst hck
            have HR : Hid (dbTo nm D (k + 1) = 0) := by show _ = _; rw [HT.out, HD0.out]; rfl
            go_wp2_with fail
            refine HCk1.out.mono ?_
            rintro e w2 ⟨rfl, hb2⟩
            have HB3 : Hid (Below w.heap.size w w2) := st HB2.out hb2
            have HM2 : Hid (NamesAt w2 w.heap.size (metK [] nm (k + 1))) := by
              show NamesAt _ _ _
              rw [HSx.out]
              exact HM1.out.kept (hb2.block _ HM1.out.lt)
            go_wp2
            go_roundw
            case rel => exact ⟨k + 1, by omega, by go_num, HR.out, HM2.out, HB3.out⟩
            case measure => simp [intOf]; omega
          · have HF : Hid (ve = 2) := by show _ = _; rw [HE.out (by rw [HD0.out, if_neg hck]; decide), HD0.out, if_neg hck]
            have g2 : (ck != 0) = true := by rw [bne_iff_ne]; exact hck
            go_wp2_with fail
            refine HCk1.out.mono ?_
            rintro e w2 ⟨rfl, hb2⟩
            have HB3 : Hid (Below w.heap.size w w2) := st HB2.out hb2
            go_wp2
            go_ret
            exact ⟨by rw [HF.out]; rfl, HB3.out⟩
        · have HD0 : Hid (dbE M s ck = 11) := by
            show _ = _
            rw [dbE, if_neg]
            simp only [Bool.and_eq_true, Bool.not_eq_true']
            exact ht
          have HF : Hid (ve = 11) := by show _ = _; rw [HE.out (by rw [HD0.out]; decide), HD0.out]
          have hno : nameB s = false ∨ inN M s = true := by
            cases h1 : nameB s
            · exact .inl rfl
            · cases h2 : inN M s
              · exact absurd ⟨h1, h2⟩ ht
              · exact .inr rfl
          have HTk := Lib.hid (s_takes_no w.heap.size M s _ HN1.out hno)
          clear ht hno hMK
          go_wp2_with fail
          refine HTk.out.mono ?_
          rintro e w1 ⟨rfl, rfl⟩
          go_wp2
          go_ret
          exact ⟨by rw [HF.out]; rfl, HB1.out⟩
      · obtain rfl : k = N := by omega
        go_wp2
        go_ret
        exact ⟨by rw [HV2.out, HK.out]; rfl, HB.out⟩
end Go.Proofs.YtoippldgoehpcaaGreatDoor
end

/- Arrays as data, and as they lie. -/
import Derived.Test.YthmnmologmmeaaaGreatDoorZSmA
import Derived.Test.YthmnmologmmeaaaGreatDoorZRg
import Derived.Test.YthmnmologmmeaaaGreatDoorZCmpS

/- Arrays as data, and as they lie. -/
section
namespace Go.Proofs.YthmnmologmmeaaaGreatDoor
open Go Go.RowKit Go.Deep

/-- Cells as data. -/
structure CeD where
  ln : Nat → Nat
  vl : Nat → Nat
  x : Nat → Nat → Int
  vk : Nat → Nat → Int
  vn : Nat → Nat → Int
  vd : Nat → Nat → Int
  vs : Nat → Nat → ByteArray
/-- An array as data. -/
structure ArD where
  n : Nat
  nm : Nat → ByteArray
  lo : Nat → Int
  hi : Nat → Int
  m : Nat
  an : Nat → ByteArray
  ty : Nat → Int
  N : Nat
  c : CeD
/-- The cells c lie in the slice at C. -/
def CeAt (w : World) (C : Option Addr) (N : Nat) (c : CeD) : Prop := CellsAt w C N c.ln c.vl c.x c.vk c.vn c.vd c.vs
theorem CeAt.below {w w' : World} {C : Option Addr} {N : Nat} {c : CeD} (h : CeAt w C N c) (hb : Below w.heap.size w w') : CeAt w' C N c := CellsAt.below h hb
/-- Where an array's slices lie. -/
structure ArP where
  A : Option Addr
  cap : Nat
  B : Option Addr
  bcap : Nat
  C : Option Addr
  ccap : Nat
abbrev ArP.val (p : ArP) (n m N : Nat) : Value := ArrV p.A n p.cap p.B m p.bcap p.C N p.ccap
structure ArAt (w : World) (p : ArP) (D : ArD) : Prop where
  dims : DimsAt w p.A D.n D.nm D.lo D.hi
  attrs : AttrsAt w p.B D.m D.an D.ty
  cells : CeAt w p.C D.N D.c
theorem ArAt.below {w w' : World} {p : ArP} {D : ArD} (h : ArAt w p D) (hb : Below w.heap.size w w') : ArAt w' p D := ⟨h.dims.below hb, h.attrs.below hb, h.cells.below hb⟩
/-- Cells of sizes that can be walked through. -/
def CeOk (N : Nat) (c : CeD) : Prop := ∀ k, k < N → c.ln k ≤ 1000 ∧ c.vl k ≤ 1000 ∧ ∀ j, j < c.vl k → (c.vs k j).size ≤ 9223372036854775807
structure ArOk (D : ArD) : Prop where
  n1 : D.n ≤ 1000
  m1 : D.m ≤ 1000
  N1 : D.N ≤ 1000000
  nmS : ∀ k, k < D.n → (D.nm k).size ≤ 9223372036854775807
  anS : ∀ k, k < D.m → (D.an k).size ≤ 9223372036854775807
  cS : CeOk D.N D.c
noncomputable def ArD.check (D : ArD) : Int := checkE D.nm D.lo D.hi D.n D.an D.ty D.m D.N D.c.ln D.c.vl D.c.x D.c.vk D.c.vn D.c.vd D.c.vs
theorem as_Check (w : World) (p : ArP) (D : ArD) (h : ArAt w p D) (ho : ArOk D) :
    Calls Tryz.prog 14 #[p.val D.n D.m D.N] w fun e w' => e = .returned (.int .i64 D.check) ∧ Below w.heap.size w w' :=
  s_Check w p.A p.B p.C D.n p.cap D.m p.bcap D.N p.ccap D.nm D.lo D.hi D.an D.ty D.c.ln D.c.vl D.c.x D.c.vk D.c.vn D.c.vd D.c.vs h.dims h.attrs h.cells ho.n1 ho.m1 ho.N1
/-- What is known of an array that is a law's parameter. -/
def ArR (w : World) (p : ArP) (D : ArD) : Prop := ArrF w p.A D.n p.B D.m p.C D.N D.nm D.lo D.hi D.an D.ty D.c.ln D.c.vl D.c.x D.c.vk D.c.vn D.c.vd D.c.vs
theorem ArR.below {w w' : World} {p : ArP} {D : ArD} (h : ArR w p D) (hb : Below w.heap.size w w') : ArR w' p D := ArrF.below h hb
def FewD (D : ArD) (most : Int) : Prop := FewB D.n D.m D.N most D.c.ln D.c.vl
theorem ArR.ok {w : World} {p : ArP} {D : ArD} {most : Int} (h : ArR w p D) (hf : FewD D most) (hm : most ≤ 1000000) : ArAt w p D ∧ ArOk D := by
  have h1 := hf.1
  have h2 := hf.2.1
  have h3 := hf.2.2.1
  refine ⟨⟨h.dims, h.attrs, h.few hf⟩, by omega, by omega, by omega, h.nmS, h.anS, fun k hk => ?_⟩
  have := hf.2.2.2 k hk
  exact ⟨by omega, by omega, (h.cS k hk).2.2⟩
/-- Are two cells equal? -/
def celQ (c c' : CeD) (k : Nat) : Bool := sameZ (c.ln k) (c'.ln k) (c.x k) (c'.x k) && sameV (c.vl k) (c'.vl k) (c.vk k) (c'.vk k) (c.vn k) (c'.vn k) (c.vd k) (c'.vd k) (c.vs k) (c'.vs k)
def sameC (N N' : Nat) (c c' : CeD) : Bool := N == N' && allTo (celQ c c') N
/-- Are two arrays equal? -/
def eqAr (D D' : ArD) : Bool := sameD D.n D'.n D.nm D'.nm D.lo D'.lo D.hi D'.hi && (sameA D.m D'.m D.an D'.an D.ty D'.ty && sameC D.N D'.N D.c D'.c)

set_option maxRecDepth 100000 in
set_option maxHeartbeats 4000000 in
theorem r_SameCells (w : World) (A B : Option Addr) (n ca m d : Nat) (c c' : CeD) (ha : CeAt w A n c) (hb : CeAt w B m c') (hc : CeOk n c) (hc' : CeOk m c') (hn : n ≤ 1000000) (hm : m ≤ 1000000) :
    Calls Tryz.prog 55 #[.slice A n ca, .slice B m d] w fun e w' => e = .returned (.bool (sameC n m c c')) ∧ Below w.heap.size w w' := by
  have HA := Lib.hid ha
  have HB := Lib.hid hb
  have HC := Lib.hid hc
  have HC' := Lib.hid hc'
  have HI := Lib.hid s_SameInts
  have HVl := Lib.hid r_SameVals
  obtain ⟨ve, hve⟩ : ∃ ve, sameC n m c c' = ve := ⟨_, rfl⟩
  rw [hve]
  have HV := Lib.hid hve
  clear ha hb hve hc hc'
  by_cases h0 : n = m
  · subst h0
    have HE : Hid (ve = allTo (celQ c c') n) := by show _ = _; rw [← HV.out, sameC, beq_self_eq_true, Bool.true_and]
    go_enter Tryz.func55, Tryz.ntmps55
    go_wp2
    go_loopw [5] (fun i wr => ∃ k : Nat, k ≤ n ∧ i = .int .i64 k ∧ Hid (allTo (celQ c c') k = true) ∧ Hid (Below w.heap.size w wr)) (fun i _ => n - (intOf i).toNat)
    case atStart => exact ⟨0, Nat.zero_le _, rfl, rfl, Below.refl _ _⟩
    case round =>
      obtain ⟨k, hk, rfl, HK, HBw⟩ := hrel
      by_cases hlt : k < n
      · obtain ⟨b1, o1, rfl, hb1, hc1⟩ := (HA.out.below HBw.out) (by omega)
        obtain ⟨P, pc, Q, qc, x0, x1, x2, x3, x4⟩ := hc1 k hlt
        obtain ⟨b2, o2, rfl, hb2, hc2⟩ := (HB.out.below HBw.out) (by omega)
        obtain ⟨P', pc', Q', qc', y0, y1, y2, y3, y4⟩ := hc2 k hlt
        clear hc1 hc2
        have HS : Hid (allTo (celQ c c') (k + 1) = celQ c c' k) := by show _ = _; rw [allTo, HK.out, Bool.true_and]
        have HD : Hid (celQ c c' k = (sameZ (c.ln k) (c'.ln k) (c.x k) (c'.x k) && sameV (c.vl k) (c'.vl k) (c.vk k) (c'.vk k) (c.vn k) (c'.vn k) (c.vd k) (c'.vd k) (c.vs k) (c'.vs k))) := rfl
        have HL : Hid (celQ c c' k = false → ve = false) := fun h => by rw [HE.out]; exact allTo_le (k := k + 1) (by rw [HS.out, h]) (by omega)
        have hz := HC.out k hlt
        have hz' := HC'.out k hlt
        have HI1 : Hid (∀ W, Below wr.heap.size wr W → Calls Tryz.prog 24 #[.slice P (c.ln k) pc, .slice P' (c'.ln k) pc'] W fun e w' => e = .returned (.bool (sameZ (c.ln k) (c'.ln k) (c.x k) (c'.x k))) ∧ Below W.heap.size W w') := fun W hW => HI.out W P P' _ _ _ _ _ _ (x2.below hW) (y2.below hW) (by omega) (by omega)
        have HV1 : Hid (∀ W, Below wr.heap.size wr W → Calls Tryz.prog 106 #[.slice Q (c.vl k) qc, .slice Q' (c'.vl k) qc'] W fun e w' => e = .returned (.bool (sameV (c.vl k) (c'.vl k) (c.vk k) (c'.vk k) (c.vn k) (c'.vn k) (c.vd k) (c'.vd k) (c.vs k) (c'.vs k))) ∧ Below W.heap.size W w') := fun W hW => HVl.out W Q Q' _ _ _ _ _ _ _ _ _ _ _ _ (x3.below hW) (y3.below hW) (by omega) (by omega)
        have KW : Hid (∀ W, Below wr.heap.size wr W → (W.cell? ⟨b1, o1 + k * 2, none⟩ = some (.slice P (c.ln k) pc) ∧ W.cell? ⟨b1, o1 + k * 2 + 1, none⟩ = some (.slice Q (c.vl k) qc)) ∧ W.cell? ⟨b2, o2 + k * 2, none⟩ = some (.slice P' (c'.ln k) pc') ∧ W.cell? ⟨b2, o2 + k * 2 + 1, none⟩ = some (.slice Q' (c'.vl k) qc')) := fun W hW =>
          ⟨⟨(hW.cell (p := ⟨b1, o1 + k * 2, none⟩) hb1).trans x0, (hW.cell (p := ⟨b1, o1 + k * 2 + 1, none⟩) hb1).trans x1⟩, (hW.cell (p := ⟨b2, o2 + k * 2, none⟩) hb2).trans y0, (hW.cell (p := ⟨b2, o2 + k * 2 + 1, none⟩) hb2).trans y1⟩
        clear x2 x3 x4 y2 y3 y4 hz hz'
        generalize sameZ (c.ln k) (c'.ln k) (c.x k) (c'.x k) = r1 at *
        generalize sameV (c.vl k) (c'.vl k) (c.vk k) (c'.vk k) (c.vn k) (c'.vn k) (c.vd k) (c'.vd k) (c.vs k) (c'.vs k) = r2 at *
        generalize c.ln k = L1 at *
        generalize c'.ln k = L2 at *
        generalize c.vl k = V1 at *
        generalize c'.vl k = V2 at *
        have B0d : Below wr.heap.size wr wr.drew := Below.drew (Below.refl _ _)
        cases r1
        · have HF : Hid (ve = false) := HL.out (by rw [HD.out]; rfl)
          clear HS HD HL
          go_wp2_with fail
          refine wp_region_held_drew (S := fun W => (W.cell? ⟨b1, o1 + k * 2, none⟩ = some (.slice P L1 pc) ∧ W.cell? ⟨b1, o1 + k * 2 + 1, none⟩ = some (.slice Q V1 qc)) ∧ W.cell? ⟨b2, o2 + k * 2, none⟩ = some (.slice P' L2 pc') ∧ W.cell? ⟨b2, o2 + k * 2 + 1, none⟩ = some (.slice Q' V2 qc')) (by kernel_rfl) (KW.out _ B0d) (fun hHeld => ?_)
          refine rgi (v := ?_) 0 rfl (by kernel_rfl) (by kernel_rfl) (by kernel_rfl) (fun _ _ _ h => h) (by rfl) ?_ hHeld ?_
          rotate_left
          · intro w hSw; (try dsimp only at hSw); (try simp only [List.getElem_toArray, List.getElem_cons_zero]); go_simp; (try with_reducible rfl)
          try simp only [Act.put, List.setIfInBounds_toArray, List.set_cons_zero, List.set_cons_succ, List.getElem_toArray, List.getElem_cons_zero]
          refine rgi (v := ?_) 1 rfl (by kernel_rfl) (by kernel_rfl) (by kernel_rfl) (fun _ _ _ h => h) (by rfl) ?_ hHeld ?_
          rotate_left
          · intro w hSw; (try dsimp only at hSw); (try simp only [List.getElem_toArray, List.getElem_cons_succ, List.getElem_cons_zero]); go_simp; (try with_reducible rfl)
          try simp only [Act.put, List.setIfInBounds_toArray, List.set_cons_zero, List.set_cons_succ, List.getElem_toArray, List.getElem_cons_succ, List.getElem_cons_zero]
          refine rgi (v := ?_) 2 rfl (by kernel_rfl) (by kernel_rfl) (by kernel_rfl) (fun _ _ _ h => h) (by rfl) ?_ hHeld ?_
          rotate_left
          · intro w hSw; (try dsimp only at hSw); (try simp only [List.getElem_toArray, List.getElem_cons_succ, List.getElem_cons_zero]); go_simp; (try with_reducible rfl)
          try simp only [Act.put, List.setIfInBounds_toArray, List.set_cons_zero, List.set_cons_succ, List.getElem_toArray, List.getElem_cons_succ, List.getElem_cons_zero]
          refine rgi (v := ?_) 3 rfl (by kernel_rfl) (by kernel_rfl) (by kernel_rfl) (fun _ _ _ h => h) (by rfl) ?_ hHeld ?_
          rotate_left
          · intro w hSw; (try dsimp only at hSw); (try simp only [List.getElem_toArray, List.getElem_cons_succ, List.getElem_cons_zero]); go_simp; (try with_reducible rfl)
          try simp only [Act.put, List.setIfInBounds_toArray, List.set_cons_zero, List.set_cons_succ, List.getElem_toArray, List.getElem_cons_succ, List.getElem_cons_zero]
          refine rgi (v := ?_) 4 rfl (by kernel_rfl) (by kernel_rfl) (by kernel_rfl) (fun _ _ _ h => h) (by rfl) ?_ hHeld ?_
          rotate_left
          · intro w hSw; (try dsimp only at hSw); (try simp only [List.getElem_toArray, List.getElem_cons_succ, List.getElem_cons_zero]); go_simp; (try with_reducible rfl)
          try simp only [Act.put, List.setIfInBounds_toArray, List.set_cons_zero, List.set_cons_succ, List.getElem_toArray, List.getElem_cons_succ, List.getElem_cons_zero]
          refine rgi (v := ?_) 5 rfl (by kernel_rfl) (by kernel_rfl) (by kernel_rfl) (fun _ _ _ h => h) (by rfl) ?_ hHeld ?_
          rotate_left
          · intro w hSw; (try dsimp only at hSw); (try simp only [List.getElem_toArray, List.getElem_cons_succ, List.getElem_cons_zero]); go_simp; (try with_reducible rfl)
          try simp only [Act.put, List.setIfInBounds_toArray, List.set_cons_zero, List.set_cons_succ, List.getElem_toArray, List.getElem_cons_succ, List.getElem_cons_zero]
          refine rgi (v := ?_) 6 rfl (by kernel_rfl) (by kernel_rfl) (by kernel_rfl) (fun _ _ _ h => h) (by rfl) ?_ hHeld ?_
          rotate_left
          · intro w hSw; (try dsimp only at hSw); (try simp only [List.getElem_toArray, List.getElem_cons_succ, List.getElem_cons_zero]); go_simp; (try with_reducible rfl)
          try simp only [Act.put, List.setIfInBounds_toArray, List.set_cons_zero, List.set_cons_succ, List.getElem_toArray, List.getElem_cons_succ, List.getElem_cons_zero]
          refine rgi (v := ?_) 7 rfl (by kernel_rfl) (by kernel_rfl) (by kernel_rfl) (fun _ _ _ h => h) (by rfl) ?_ hHeld ?_
          rotate_left
          · intro w hSw; (try dsimp only at hSw); (try simp only [List.getElem_toArray, List.getElem_cons_succ, List.getElem_cons_zero]); go_simp; (try with_reducible rfl)
          try simp only [Act.put, List.setIfInBounds_toArray, List.set_cons_zero, List.set_cons_succ, List.getElem_toArray, List.getElem_cons_succ, List.getElem_cons_zero]
          refine rgi (v := ?_) 8 rfl (by kernel_rfl) (by kernel_rfl) (by kernel_rfl) (fun _ _ _ h => h) (by rfl) ?_ hHeld ?_
          rotate_left
          · intro w hSw; (try dsimp only at hSw); (try simp only [List.getElem_toArray, List.getElem_cons_succ, List.getElem_cons_zero]); go_simp; (try with_reducible rfl)
          try simp only [Act.put, List.setIfInBounds_toArray, List.set_cons_zero, List.set_cons_succ, List.getElem_toArray, List.getElem_cons_succ, List.getElem_cons_zero]
          refine rgi (v := ?_) 9 rfl (by kernel_rfl) (by kernel_rfl) (by kernel_rfl) (fun _ _ _ h => h) (by rfl) ?_ hHeld ?_
          rotate_left
          · intro w hSw; (try dsimp only at hSw); (try simp only [List.getElem_toArray, List.getElem_cons_succ, List.getElem_cons_zero]); go_simp; (try with_reducible rfl)
          try simp only [Act.put, List.setIfInBounds_toArray, List.set_cons_zero, List.set_cons_succ, List.getElem_toArray, List.getElem_cons_succ, List.getElem_cons_zero]
          refine wpAnyH_ready (rs := [10]) (by kernel_rfl) (by simp) ?_
          refine AllReadyH.cons rfl (fun K hK => ?_) AllReadyH.nil
          try simp only [List.getElem_toArray, List.getElem_cons_succ, List.getElem_cons_zero]
          go_simp
          go_at_call 24
          refine (HI1.out _ B0d).mono ?_
          rintro e w2 ⟨rfl, hb2⟩
          have B1 : Below wr.heap.size wr w2 := st B0d hb2
          go_wp2_with fail
          refine hK.out _ _ (KW.out _ B1) (fun hHeld => ?_)
          clear hK K
          try simp only [Act.put, List.setIfInBounds_toArray, List.set_cons_zero, List.set_cons_succ, List.getElem_toArray, List.getElem_cons_succ, List.getElem_cons_zero]
          refine rgi (v := ?_) 11 rfl (by kernel_rfl) (by kernel_rfl) (by kernel_rfl) (fun _ _ _ h => h) (by rfl) ?_ hHeld ?_
          rotate_left
          · intro w hSw; (try dsimp only at hSw); (try simp only [List.getElem_toArray, List.getElem_cons_succ, List.getElem_cons_zero]); go_simp; (try with_reducible rfl)
          try simp only [Act.put, List.setIfInBounds_toArray, List.set_cons_zero, List.set_cons_succ, List.getElem_toArray, List.getElem_cons_succ, List.getElem_cons_zero]
          refine rgi (v := ?_) 12 rfl (by kernel_rfl) (by kernel_rfl) (by kernel_rfl) (fun _ _ _ h => h) (by rfl) ?_ hHeld ?_
          rotate_left
          · intro w hSw; (try dsimp only at hSw); (try simp only [List.getElem_toArray, List.getElem_cons_succ, List.getElem_cons_zero]); go_simp; (try with_reducible rfl)
          try simp only [Act.put, List.setIfInBounds_toArray, List.set_cons_zero, List.set_cons_succ, List.getElem_toArray, List.getElem_cons_succ, List.getElem_cons_zero]
          refine rgo 13 rfl (by kernel_rfl) (by kernel_rfl) (by kernel_rfl) (fun _ _ _ h => h) (by rfl) hHeld ?_
          try simp only [Act.put, List.setIfInBounds_toArray, List.set_cons_zero, List.set_cons_succ, List.getElem_toArray, List.getElem_cons_succ, List.getElem_cons_zero]
          refine rgo 14 rfl (by kernel_rfl) (by kernel_rfl) (by kernel_rfl) (fun _ _ _ h => h) (by rfl) hHeld ?_
          try simp only [Act.put, List.setIfInBounds_toArray, List.set_cons_zero, List.set_cons_succ, List.getElem_toArray, List.getElem_cons_succ, List.getElem_cons_zero]
          refine rgo 15 rfl (by kernel_rfl) (by kernel_rfl) (by kernel_rfl) (fun _ _ _ h => h) (by rfl) hHeld ?_
          try simp only [Act.put, List.setIfInBounds_toArray, List.set_cons_zero, List.set_cons_succ, List.getElem_toArray, List.getElem_cons_succ, List.getElem_cons_zero]
          refine rgo 16 rfl (by kernel_rfl) (by kernel_rfl) (by kernel_rfl) (fun _ _ _ h => h) (by rfl) hHeld ?_
          try simp only [Act.put, List.setIfInBounds_toArray, List.set_cons_zero, List.set_cons_succ, List.getElem_toArray, List.getElem_cons_succ, List.getElem_cons_zero]
          refine rgo 17 rfl (by kernel_rfl) (by kernel_rfl) (by kernel_rfl) (fun _ _ _ h => h) (by rfl) hHeld ?_
          try simp only [Act.put, List.setIfInBounds_toArray, List.set_cons_zero, List.set_cons_succ, List.getElem_toArray, List.getElem_cons_succ, List.getElem_cons_zero]
          refine rgo 18 rfl (by kernel_rfl) (by kernel_rfl) (by kernel_rfl) (fun _ _ _ h => h) (by rfl) hHeld ?_
          try simp only [Act.put, List.setIfInBounds_toArray, List.set_cons_zero, List.set_cons_succ, List.getElem_toArray, List.getElem_cons_succ, List.getElem_cons_zero]
          refine rgo 19 rfl (by kernel_rfl) (by kernel_rfl) (by kernel_rfl) (fun _ _ _ h => h) (by rfl) hHeld ?_
          try simp only [Act.put, List.setIfInBounds_toArray, List.set_cons_zero, List.set_cons_succ, List.getElem_toArray, List.getElem_cons_succ, List.getElem_cons_zero]
          refine rgo 20 rfl (by kernel_rfl) (by kernel_rfl) (by kernel_rfl) (fun _ _ _ h => h) (by rfl) hHeld ?_
          try simp only [Act.put, List.setIfInBounds_toArray, List.set_cons_zero, List.set_cons_succ, List.getElem_toArray, List.getElem_cons_succ, List.getElem_cons_zero]
          refine rgo 21 rfl (by kernel_rfl) (by kernel_rfl) (by kernel_rfl) (fun _ _ _ h => h) (by rfl) hHeld ?_
          try simp only [Act.put, List.setIfInBounds_toArray, List.set_cons_zero, List.set_cons_succ, List.getElem_toArray, List.getElem_cons_succ, List.getElem_cons_zero]
          refine rgo 22 rfl (by kernel_rfl) (by kernel_rfl) (by kernel_rfl) (fun _ _ _ h => h) (by rfl) hHeld ?_
          try simp only [Act.put, List.setIfInBounds_toArray, List.set_cons_zero, List.set_cons_succ, List.getElem_toArray, List.getElem_cons_succ, List.getElem_cons_zero]
          refine wpAnyH_ready (rs := [23]) (by kernel_rfl) (by simp) ?_
          refine AllReadyH.cons rfl (fun K hK => ?_) AllReadyH.nil
          rw [if_neg (fun h => Bool.noConfusion h)]
          refine hK.out _ _ hHeld (fun hHeld => ?_)
          clear hK K
          simp only [Act.put, List.setIfInBounds_toArray, List.set_cons_zero, List.set_cons_succ, List.getElem_toArray, List.getElem_cons_succ, List.getElem_cons_zero]
          refine rgo 24 rfl (by kernel_rfl) (by kernel_rfl) (by kernel_rfl) (fun _ _ _ h => h) (by rfl) hHeld ?_
          try simp only [Act.put, List.setIfInBounds_toArray, List.set_cons_zero, List.set_cons_succ, List.getElem_toArray, List.getElem_cons_succ, List.getElem_cons_zero]
          refine rgi (v := ?_) 25 rfl (by kernel_rfl) (by kernel_rfl) (by kernel_rfl) (fun _ _ _ h => h) (by rfl) ?_ hHeld ?_
          rotate_left
          · intro w hSw; (try dsimp only at hSw); (try simp only [List.getElem_toArray, List.getElem_cons_succ, List.getElem_cons_zero]); go_simp; (try with_reducible rfl)
          try simp only [Act.put, List.setIfInBounds_toArray, List.set_cons_zero, List.set_cons_succ, List.getElem_toArray, List.getElem_cons_succ, List.getElem_cons_zero]
          refine wpAnyH_done (by kernel_rfl) ?_ _
          go_wp2
          go_ret
          exact ⟨by rw [HF.out]; rfl, st HBw.out B1⟩
        · cases r2
          · have HF : Hid (ve = false) := HL.out (by rw [HD.out]; rfl)
            clear HS HD HL
            go_wp2_with fail
            go_region_held3 (fun W => (W.cell? ⟨b1, o1 + k * 2, none⟩ = some (.slice P L1 pc) ∧ W.cell? ⟨b1, o1 + k * 2 + 1, none⟩ = some (.slice Q V1 qc)) ∧ W.cell? ⟨b2, o2 + k * 2, none⟩ = some (.slice P' L2 pc') ∧ W.cell? ⟨b2, o2 + k * 2 + 1, none⟩ = some (.slice Q' V2 qc'))
              (first | exact KW.out _ B2 | exact KW.out _ B1 | exact KW.out _ B0d | exact KW.out _ (Below.refl _ _))
              (first
                | (go_at_call 24; refine (HI1.out _ B0d).mono ?_; rintro e w2 ⟨rfl, hb2⟩; have B1 : Below wr.heap.size wr w2 := st B0d hb2)
                | (go_at_call 106; refine (HV1.out _ B1).mono ?_; rintro e w3 ⟨rfl, hb3⟩; have B2 : Below wr.heap.size wr w3 := st B1 hb3))
            all_goals
              go_wp2
              go_ret
              exact ⟨by rw [HF.out]; rfl, st HBw.out B2⟩
          · have HR : Hid (allTo (celQ c c') (k + 1) = true) := by show _ = _; rw [HS.out, HD.out]; rfl
            clear HS HD HL
            go_wp2_with fail
            go_region_held3 (fun W => (W.cell? ⟨b1, o1 + k * 2, none⟩ = some (.slice P L1 pc) ∧ W.cell? ⟨b1, o1 + k * 2 + 1, none⟩ = some (.slice Q V1 qc)) ∧ W.cell? ⟨b2, o2 + k * 2, none⟩ = some (.slice P' L2 pc') ∧ W.cell? ⟨b2, o2 + k * 2 + 1, none⟩ = some (.slice Q' V2 qc'))
              (first | exact KW.out _ B2 | exact KW.out _ B1 | exact KW.out _ B0d | exact KW.out _ (Below.refl _ _))
              (first
                | (go_at_call 24; refine (HI1.out _ B0d).mono ?_; rintro e w2 ⟨rfl, hb2⟩; have B1 : Below wr.heap.size wr w2 := st B0d hb2)
                | (go_at_call 106; refine (HV1.out _ B1).mono ?_; rintro e w3 ⟨rfl, hb3⟩; have B2 : Below wr.heap.size wr w3 := st B1 hb3))
            all_goals
              go_wp2
              go_roundw
              case rel => exact ⟨k + 1, by omega, by go_num, HR.out, st HBw.out B2⟩
              case measure => simp [intOf]; omega
      · obtain rfl : k = n := by omega
        go_wp2
        go_ret
        exact ⟨by rw [HE.out, HK.out]; rfl, HBw.out⟩
  · have HE : Hid (ve = false) := by show _ = _; rw [← HV.out, sameC, beq_false_of_ne h0, Bool.false_and]
    have h1 : ((n : Int) != (m : Int)) = true := by rw [bne_iff_ne]; omega
    go_enter Tryz.func55, Tryz.ntmps55
    go_wp2
    go_ret
    exact ⟨by rw [HE.out]; rfl, Below.refl _ _⟩
end Go.Proofs.YthmnmologmmeaaaGreatDoor
end

/- Lists of dimensions, attributes and values compared: the library. -/
section
namespace Go.Proofs.YthmnmologmmeaaaGreatDoor
open Go Go.RowKit Go.Deep

set_option maxRecDepth 100000 in
set_option maxHeartbeats 2000000 in
theorem c_EqDims (w : World) (A B : Option Addr) (n c m d : Nat) (nm nm' : Nat → ByteArray) (lo lo' : Nat → Int) (hi hi' : Nat → Int) (ha : DimsAt w A n nm lo hi) (hb : DimsAt w B m nm' lo' hi') (hn : n ≤ 1000000) (hm : m ≤ 1000000) :
    Calls Tryz.prog 57 #[.slice A n c, .slice B m d] w fun e w' => e = .returned (.bool (sameD n m nm nm' lo lo' hi hi')) ∧ Below w.heap.size w w' := by
  have HA := Lib.hid ha
  have HB := Lib.hid hb
  obtain ⟨ve, hve⟩ : ∃ ve, sameD n m nm nm' lo lo' hi hi' = ve := ⟨_, rfl⟩
  rw [hve]
  have HV := Lib.hid hve
  clear ha hb hve
  by_cases h0 : n = m
  · subst h0
    have HE : Hid (ve = allTo (dqQ nm nm' lo lo' hi hi') n) := by show _ = _; rw [← HV.out, sameD, beq_self_eq_true, Bool.true_and]
    go_enter Tryz.func57, Tryz.ntmps57
    go_wp2
    go_loopw [5, 13] (fun _ i wr => ∃ k : Nat, k ≤ n ∧ i = .int .i64 k ∧ Hid (allTo (dqQ nm nm' lo lo' hi hi') k = true) ∧ Hid (Below w.heap.size w wr)) (fun _ i _ => n - (intOf i).toNat)
    case atStart => exact ⟨0, Nat.zero_le _, rfl, rfl, Below.refl _ _⟩
    case round =>
      obtain ⟨k, hk, rfl, HK, HBw⟩ := hrel
      by_cases hlt : k < n
      · obtain ⟨b1, o1, rfl, _, hc1⟩ := (HA.out.below HBw.out) (by omega)
        obtain ⟨x0, x1, x2⟩ := hc1 k hlt
        obtain ⟨b2, o2, rfl, _, hc2⟩ := (HB.out.below HBw.out) (by omega)
        obtain ⟨y0, y1, y2⟩ := hc2 k hlt
        clear hc1 hc2
        have HS : Hid (allTo (dqQ nm nm' lo lo' hi hi') (k + 1) = (dqQ nm nm' lo lo' hi hi') k) := by show _ = _; rw [allTo, HK.out, Bool.true_and]
        have HD : Hid ((dqQ nm nm' lo lo' hi hi') k = (decide (nm k = nm' k) && (lo k == lo' k && (hi k == hi' k)))) := rfl
        have HL : Hid ((dqQ nm nm' lo lo' hi hi') k = false → ve = false) := fun h => by rw [HE.out]; exact allTo_le (k := k + 1) (by rw [HS.out, h]) (by omega)
        generalize nm k = nm9 at *
        generalize nm' k = nm8 at *
        generalize lo k = lo9 at *
        generalize lo' k = lo8 at *
        generalize hi k = hi9 at *
        generalize hi' k = hi8 at *
        by_cases g0 : nm9 = nm8
        · subst g0
          by_cases g1 : lo9 = lo8
          · subst g1
            by_cases g2 : hi9 = hi8
            · subst g2
              have HR : Hid (allTo (dqQ nm nm' lo lo' hi hi') (k + 1) = true) := by show _ = _; rw [HS.out, HD.out]; simp
              clear HS HD HL
              go_wp2
              go_quiet (fail)
              go_wp2
              go_roundw
              case rel => exact ⟨k + 1, by omega, by go_num, HR.out, drewB HBw.out _⟩
              case measure => simp [intOf]; omega
            · have HF : Hid (ve = false) := HL.out (by rw [HD.out]; simp [g2])
              clear HS HD HL
              go_wp2
              go_quiet (fail)
              go_wp2
              go_ret
              exact ⟨by rw [HF.out]; rfl, drewB HBw.out _⟩
          · have HF : Hid (ve = false) := HL.out (by rw [HD.out]; simp [g1])
            clear HS HD HL
            go_wp2
            go_quiet (fail)
            go_wp2
            go_ret
            exact ⟨by rw [HF.out]; rfl, drewB HBw.out _⟩
        · have HF : Hid (ve = false) := HL.out (by rw [HD.out]; simp [g0])
          have e0 : ¬ nm9.toList = nm8.toList := fun h => g0 (str_eq (by rw [h]; simp))
          clear HS HD HL
          go_wp2
          go_quiet (fail)
          go_wp2
          go_ret
          exact ⟨by rw [HF.out]; rfl, drewB HBw.out _⟩
      · obtain rfl : k = n := by omega
        go_wp2
        go_ret
        exact ⟨by rw [HE.out, HK.out]; rfl, HBw.out⟩
  · have HE : Hid (ve = false) := by show _ = _; rw [← HV.out, sameD, beq_false_of_ne h0, Bool.false_and]
    have h1 : ((n : Int) != (m : Int)) = true := by rw [bne_iff_ne]; omega
    go_enter Tryz.func57, Tryz.ntmps57
    go_wp2
    go_ret
    exact ⟨by rw [HE.out]; rfl, Below.refl _ _⟩
set_option maxRecDepth 100000 in
set_option maxHeartbeats 2000000 in
theorem c_EqAttrs (w : World) (A B : Option Addr) (n c m d : Nat) (an an' : Nat → ByteArray) (ty ty' : Nat → Int) (ha : AttrsAt w A n an ty) (hb : AttrsAt w B m an' ty') (hn : n ≤ 1000000) (hm : m ≤ 1000000) :
    Calls Tryz.prog 58 #[.slice A n c, .slice B m d] w fun e w' => e = .returned (.bool (sameA n m an an' ty ty')) ∧ Below w.heap.size w w' := by
  have HA := Lib.hid ha
  have HB := Lib.hid hb
  obtain ⟨ve, hve⟩ : ∃ ve, sameA n m an an' ty ty' = ve := ⟨_, rfl⟩
  rw [hve]
  have HV := Lib.hid hve
  clear ha hb hve
  by_cases h0 : n = m
  · subst h0
    have HE : Hid (ve = allTo (aqQ an an' ty ty') n) := by show _ = _; rw [← HV.out, sameA, beq_self_eq_true, Bool.true_and]
    go_enter Tryz.func58, Tryz.ntmps58
    go_wp2
    go_loopw [5, 13] (fun _ i wr => ∃ k : Nat, k ≤ n ∧ i = .int .i64 k ∧ Hid (allTo (aqQ an an' ty ty') k = true) ∧ Hid (Below w.heap.size w wr)) (fun _ i _ => n - (intOf i).toNat)
    case atStart => exact ⟨0, Nat.zero_le _, rfl, rfl, Below.refl _ _⟩
    case round =>
      obtain ⟨k, hk, rfl, HK, HBw⟩ := hrel
      by_cases hlt : k < n
      · obtain ⟨b1, o1, rfl, _, hc1⟩ := (HA.out.below HBw.out) (by omega)
        obtain ⟨x0, x1⟩ := hc1 k hlt
        obtain ⟨b2, o2, rfl, _, hc2⟩ := (HB.out.below HBw.out) (by omega)
        obtain ⟨y0, y1⟩ := hc2 k hlt
        clear hc1 hc2
        have HS : Hid (allTo (aqQ an an' ty ty') (k + 1) = (aqQ an an' ty ty') k) := by show _ = _; rw [allTo, HK.out, Bool.true_and]
        have HD : Hid ((aqQ an an' ty ty') k = (decide (an k = an' k) && (ty k == ty' k))) := rfl
        have HL : Hid ((aqQ an an' ty ty') k = false → ve = false) := fun h => by rw [HE.out]; exact allTo_le (k := k + 1) (by rw [HS.out, h]) (by omega)
        generalize an k = an9 at *
        generalize an' k = an8 at *
        generalize ty k = ty9 at *
        generalize ty' k = ty8 at *
        by_cases g0 : an9 = an8
        · subst g0
          by_cases g1 : ty9 = ty8
          · subst g1
            have HR : Hid (allTo (aqQ an an' ty ty') (k + 1) = true) := by show _ = _; rw [HS.out, HD.out]; simp
            clear HS HD HL
            go_wp2
            go_quiet (fail)
            go_wp2
            go_roundw
            case rel => exact ⟨k + 1, by omega, by go_num, HR.out, drewB HBw.out _⟩
            case measure => simp [intOf]; omega
          · have HF : Hid (ve = false) := HL.out (by rw [HD.out]; simp [g1])
            clear HS HD HL
            go_wp2
            go_quiet (fail)
            go_wp2
            go_ret
            exact ⟨by rw [HF.out]; rfl, drewB HBw.out _⟩
        · have HF : Hid (ve = false) := HL.out (by rw [HD.out]; simp [g0])
          have e0 : ¬ an9.toList = an8.toList := fun h => g0 (str_eq (by rw [h]; simp))
          clear HS HD HL
          go_wp2
          go_quiet (fail)
          go_wp2
          go_ret
          exact ⟨by rw [HF.out]; rfl, drewB HBw.out _⟩
      · obtain rfl : k = n := by omega
        go_wp2
        go_ret
        exact ⟨by rw [HE.out, HK.out]; rfl, HBw.out⟩
  · have HE : Hid (ve = false) := by show _ = _; rw [← HV.out, sameA, beq_false_of_ne h0, Bool.false_and]
    have h1 : ((n : Int) != (m : Int)) = true := by rw [bne_iff_ne]; omega
    go_enter Tryz.func58, Tryz.ntmps58
    go_wp2
    go_ret
    exact ⟨by rw [HE.out]; rfl, Below.refl _ _⟩
set_option maxRecDepth 100000 in
set_option maxHeartbeats 2000000 in
theorem c_EqVals (w : World) (A B : Option Addr) (n c m d : Nat) (vk vk' : Nat → Int) (vn vn' : Nat → Int) (vd vd' : Nat → Int) (vs vs' : Nat → ByteArray) (ha : ValsAt w A n vk vn vd vs) (hb : ValsAt w B m vk' vn' vd' vs') (hn : n ≤ 1000000) (hm : m ≤ 1000000) :
    Calls Tryz.prog 109 #[.slice A n c, .slice B m d] w fun e w' => e = .returned (.bool (sameV n m vk vk' vn vn' vd vd' vs vs')) ∧ Below w.heap.size w w' := by
  have HA := Lib.hid ha
  have HB := Lib.hid hb
  obtain ⟨ve, hve⟩ : ∃ ve, sameV n m vk vk' vn vn' vd vd' vs vs' = ve := ⟨_, rfl⟩
  rw [hve]
  have HV := Lib.hid hve
  clear ha hb hve
  by_cases h0 : n = m
  · subst h0
    have HE : Hid (ve = allTo (vqQ vk vk' vn vn' vd vd' vs vs') n) := by show _ = _; rw [← HV.out, sameV, beq_self_eq_true, Bool.true_and]
    go_enter Tryz.func109, Tryz.ntmps109
    go_wp2
    go_loopw [5, 13] (fun _ i wr => ∃ k : Nat, k ≤ n ∧ i = .int .i64 k ∧ Hid (allTo (vqQ vk vk' vn vn' vd vd' vs vs') k = true) ∧ Hid (Below w.heap.size w wr)) (fun _ i _ => n - (intOf i).toNat)
    case atStart => exact ⟨0, Nat.zero_le _, rfl, rfl, Below.refl _ _⟩
    case round =>
      obtain ⟨k, hk, rfl, HK, HBw⟩ := hrel
      by_cases hlt : k < n
      · obtain ⟨b1, o1, rfl, _, hc1⟩ := (HA.out.below HBw.out) (by omega)
        obtain ⟨x0, x1, x2, x3⟩ := hc1 k hlt
        obtain ⟨b2, o2, rfl, _, hc2⟩ := (HB.out.below HBw.out) (by omega)
        obtain ⟨y0, y1, y2, y3⟩ := hc2 k hlt
        clear hc1 hc2
        have HS : Hid (allTo (vqQ vk vk' vn vn' vd vd' vs vs') (k + 1) = (vqQ vk vk' vn vn' vd vd' vs vs') k) := by show _ = _; rw [allTo, HK.out, Bool.true_and]
        have HD : Hid ((vqQ vk vk' vn vn' vd vd' vs vs') k = (vk k == vk' k && (vn k == vn' k && (vd k == vd' k && (decide (vs k = vs' k)))))) := rfl
        have HL : Hid ((vqQ vk vk' vn vn' vd vd' vs vs') k = false → ve = false) := fun h => by rw [HE.out]; exact allTo_le (k := k + 1) (by rw [HS.out, h]) (by omega)
        generalize vk k = vk9 at *
        generalize vk' k = vk8 at *
        generalize vn k = vn9 at *
        generalize vn' k = vn8 at *
        generalize vd k = vd9 at *
        generalize vd' k = vd8 at *
        generalize vs k = vs9 at *
        generalize vs' k = vs8 at *
        by_cases g0 : vk9 = vk8
        · subst g0
          by_cases g1 : vn9 = vn8
          · subst g1
            by_cases g2 : vd9 = vd8
            · subst g2
              by_cases g3 : vs9 = vs8
              · subst g3
                have HR : Hid (allTo (vqQ vk vk' vn vn' vd vd' vs vs') (k + 1) = true) := by show _ = _; rw [HS.out, HD.out]; simp
                clear HS HD HL
                go_wp2
                go_quiet (fail)
                go_wp2
                go_roundw
                case rel => exact ⟨k + 1, by omega, by go_num, HR.out, drewB HBw.out _⟩
                case measure => simp [intOf]; omega
              · have HF : Hid (ve = false) := HL.out (by rw [HD.out]; simp [g3])
                have e3 : ¬ vs9.toList = vs8.toList := fun h => g3 (str_eq (by rw [h]; simp))
                clear HS HD HL
                go_wp2
                go_quiet (fail)
                go_wp2
                go_ret
                exact ⟨by rw [HF.out]; rfl, drewB HBw.out _⟩
            · have HF : Hid (ve = false) := HL.out (by rw [HD.out]; simp [g2])
              clear HS HD HL
              go_wp2
              go_quiet (fail)
              go_wp2
              go_ret
              exact ⟨by rw [HF.out]; rfl, drewB HBw.out _⟩
          · have HF : Hid (ve = false) := HL.out (by rw [HD.out]; simp [g1])
            clear HS HD HL
            go_wp2
            go_quiet (fail)
            go_wp2
            go_ret
            exact ⟨by rw [HF.out]; rfl, drewB HBw.out _⟩
        · have HF : Hid (ve = false) := HL.out (by rw [HD.out]; simp [g0])
          clear HS HD HL
          go_wp2
          go_quiet (fail)
          go_wp2
          go_ret
          exact ⟨by rw [HF.out]; rfl, drewB HBw.out _⟩
      · obtain rfl : k = n := by omega
        go_wp2
        go_ret
        exact ⟨by rw [HE.out, HK.out]; rfl, HBw.out⟩
  · have HE : Hid (ve = false) := by show _ = _; rw [← HV.out, sameV, beq_false_of_ne h0, Bool.false_and]
    have h1 : ((n : Int) != (m : Int)) = true := by rw [bne_iff_ne]; omega
    go_enter Tryz.func109, Tryz.ntmps109
    go_wp2
    go_ret
    exact ⟨by rw [HE.out]; rfl, Below.refl _ _⟩
end Go.Proofs.YthmnmologmmeaaaGreatDoor
end

/- Two lists of integers compared: the library. -/
section
namespace Go.Proofs.YthmnmologmmeaaaGreatDoor
open Go Go.RowKit Go.Deep

set_option maxRecDepth 100000 in
set_option maxHeartbeats 2000000 in
theorem c_EqInts (w : World) (A B : Option Addr) (n c m d : Nat) (f g : Nat → Int) (ha : IntsAt w A n f) (hb : IntsAt w B m g) (hn : n ≤ 1000000) (hm : m ≤ 1000000) :
    Calls Tryz.prog 108 #[.slice A n c, .slice B m d] w fun e w' => e = .returned (.bool (sameZ n m f g)) ∧ Below w.heap.size w w' := by
  have HA := Lib.hid ha
  have HB := Lib.hid hb
  obtain ⟨ve, hve⟩ : ∃ ve, sameZ n m f g = ve := ⟨_, rfl⟩
  rw [hve]
  have HV := Lib.hid hve
  clear ha hb hve
  by_cases h0 : n = m
  · subst h0
    have HE : Hid (ve = eqTo f g n) := by show _ = _; rw [← HV.out, sameZ, beq_self_eq_true, Bool.true_and]
    go_enter Tryz.func108, Tryz.ntmps108
    go_wp2
    go_loopw [5, 13] (fun _ i wr => ∃ k : Nat, k ≤ n ∧ i = .int .i64 k ∧ Hid (eqTo f g k = true) ∧ Hid (Below w.heap.size w wr)) (fun _ i _ => n - (intOf i).toNat)
    case atStart => exact ⟨0, Nat.zero_le _, rfl, rfl, Below.refl _ _⟩
    case round =>
      obtain ⟨k, hk, rfl, HK, HBw⟩ := hrel
      by_cases hlt : k < n
      · obtain ⟨b1, o1, rfl, _, hc1⟩ := (HA.out.below HBw.out) (by omega)
        have x0 := hc1 k hlt
        obtain ⟨b2, o2, rfl, _, hc2⟩ := (HB.out.below HBw.out) (by omega)
        have y0 := hc2 k hlt
        clear hc1 hc2
        have HS : Hid (eqTo f g (k + 1) = (f k == g k)) := by show _ = _; rw [eqTo, HK.out, Bool.true_and]
        by_cases he : f k = g k
        · rw [he, beq_self_eq_true] at HS
          rw [he] at x0
          clear he
          generalize g k = y at *
          go_wp2
          go_quiet (fail)
          go_wp2
          go_roundw
          case rel => exact ⟨k + 1, by omega, by go_num, HS, drewB HBw.out _⟩
          case measure => simp [intOf]; omega
        · have h1 : (f k != g k) = true := by rw [bne_iff_ne]; exact he
          have HF : Hid (ve = false) := by
            show _ = _
            rw [HE.out]
            exact eqTo_le (k := k + 1) (by rw [HS.out, beq_eq_false_iff_ne]; exact he) (by omega)
          clear he HS
          generalize f k = x at *
          generalize g k = y at *
          go_wp2
          go_quiet (fail)
          go_wp2
          go_ret
          exact ⟨by rw [HF.out]; rfl, drewB HBw.out _⟩
      · obtain rfl : k = n := by omega
        go_wp2
        go_ret
        exact ⟨by rw [HE.out, HK.out]; rfl, HBw.out⟩
  · have HE : Hid (ve = false) := by show _ = _; rw [← HV.out, sameZ, beq_false_of_ne h0, Bool.false_and]
    have h1 : ((n : Int) != (m : Int)) = true := by rw [bne_iff_ne]; omega
    go_enter Tryz.func108, Tryz.ntmps108
    go_wp2
    go_ret
    exact ⟨by rw [HE.out]; rfl, Below.refl _ _⟩
end Go.Proofs.YthmnmologmmeaaaGreatDoor
end

/- Two cells compared by the program. -/
section
namespace Go.Proofs.YthmnmologmmeaaaGreatDoor
open Go Go.RowKit Go.Deep

set_option maxRecDepth 100000 in
set_option maxHeartbeats 4000000 in
theorem s_sameCell (w : World) (P P' Q Q' : Option Addr) (L1 L2 V1 V2 pc pc' qc qc' : Nat) (x x' vk vk' vn vn' vd vd' : Nat → Int) (vs vs' : Nat → ByteArray) (hx : IntsAt w P L1 x) (hx' : IntsAt w P' L2 x') (hv : ValsAt w Q V1 vk vn vd vs) (hv' : ValsAt w Q' V2 vk' vn' vd' vs') (h1 : L1 ≤ 1000) (h2 : L2 ≤ 1000) (h3 : V1 ≤ 1000) (h4 : V2 ≤ 1000) :
    Calls Tryz.prog 60 #[CelV P L1 pc Q V1 qc, CelV P' L2 pc' Q' V2 qc'] w fun e w' => e = .returned (.bool (sameZ L1 L2 x x' && sameV V1 V2 vk vk' vn vn' vd vd' vs vs')) ∧ Below w.heap.size w w' := by
  have HT : Hid (∀ W, Below (w.heap.size + 2) ((w.alloc (.cells #[.slice P L1 pc, .slice Q V1 qc] 38)).alloc (.cells #[.slice P' L2 pc', .slice Q' V2 qc'] 38)) W → (W.cell? ⟨w.heap.size, 0, none⟩ = some (.slice P L1 pc) ∧ W.cell? ⟨w.heap.size, 1, none⟩ = some (.slice Q V1 qc)) ∧ (W.cell? ⟨w.heap.size + 1, 0, none⟩ = some (.slice P' L2 pc') ∧ W.cell? ⟨w.heap.size + 1, 1, none⟩ = some (.slice Q' V2 qc'))) := fun W hW => by
    have q0 := cel_box w (.slice P L1 pc) (.slice Q V1 qc) 38 W (Below.trans ((Below.refl _ _).alloc (Nat.le_refl _) _) (hW.mono (by simp)))
    have q1 := cel_box (w.alloc (.cells #[.slice P L1 pc, .slice Q V1 qc] 38)) (.slice P' L2 pc') (.slice Q' V2 qc') 38 W (by rw [World.size_alloc, World.size_alloc]; exact hW)
    rw [World.size_alloc] at q1
    exact ⟨q0, q1⟩
  have hz0 : ((w.alloc (.cells #[.slice P L1 pc, .slice Q V1 qc] 38)).alloc (.cells #[.slice P' L2 pc', .slice Q' V2 qc'] 38)).heap.size = w.heap.size + 2 := by simp
  have HB : Hid (Below w.heap.size w ((w.alloc (.cells #[.slice P L1 pc, .slice Q V1 qc] 38)).alloc (.cells #[.slice P' L2 pc', .slice Q' V2 qc'] 38))) := ((Below.refl _ _).alloc (Nat.le_refl _) _).alloc (by simp) _
  have HI1 : Hid (∀ W, Below w.heap.size w W → Calls Tryz.prog 108 #[.slice P L1 pc, .slice P' L2 pc'] W fun e w' => e = .returned (.bool (sameZ L1 L2 x x')) ∧ Below W.heap.size W w') := fun W hW => c_EqInts W P P' _ _ _ _ _ _ (hx.below hW) (hx'.below hW) (by omega) (by omega)
  have HV1 : Hid (∀ W, Below w.heap.size w W → Calls Tryz.prog 109 #[.slice Q V1 qc, .slice Q' V2 qc'] W fun e w' => e = .returned (.bool (sameV V1 V2 vk vk' vn vn' vd vd' vs vs')) ∧ Below W.heap.size W w') := fun W hW => c_EqVals W Q Q' _ _ _ _ _ _ _ _ _ _ _ _ (hv.below hW) (hv'.below hW) (by omega) (by omega)
  clear hx hx' hv hv' h1 h2 h3 h4
  generalize sameZ L1 L2 x x' = r1 at *
  generalize sameV V1 V2 vk vk' vn vn' vd vd' vs vs' = r2 at *
  go_enter Tryz.func60, Tryz.ntmps60
  go_wp2_with fail
  generalize (w.alloc (.cells #[.slice P L1 pc, .slice Q V1 qc] 38)).alloc (.cells #[.slice P' L2 pc', .slice Q' V2 qc'] 38) = W0 at *
  rw [← hz0] at HT
  obtain ⟨⟨l0, l1⟩, m0, m1⟩ := HT.out W0 (Below.refl _ _)
  go_wp2_with fail
  refine (HI1.out _ HB.out).mono ?_
  rintro e w2 ⟨rfl, hb2⟩
  have HB2 : Hid (Below w.heap.size w w2) := st HB.out hb2
  clear l0 l1 m0 m1
  obtain ⟨⟨l0, l1⟩, m0, m1⟩ := HT.out w2 hb2
  cases r1
  · go_wp2
    go_ret
    exact ⟨rfl, HB2.out⟩
  · go_wp2_with fail
    refine (HV1.out _ HB2.out).mono ?_
    rintro e w3 ⟨rfl, hb3⟩
    go_wp2
    go_ret
    exact ⟨rfl, st HB2.out hb3⟩
end Go.Proofs.YthmnmologmmeaaaGreatDoor
end

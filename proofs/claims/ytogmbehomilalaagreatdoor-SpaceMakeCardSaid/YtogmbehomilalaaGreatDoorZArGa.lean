/- Few cells, with few coordinates and values. -/
import Derived.Test.YtogmbehomilalaaGreatDoorZVaC
import Derived.Test.YtogmbehomilalaaGreatDoorZLSa
import Derived.Test.YtogmbehomilalaaGreatDoorZWka
import Derived.Test.YtogmbehomilalaaGreatDoorZPrt2
import Derived.Test.YtogmbehomilalaaGreatDoorZSpE
import Derived.Test.YtogmbehomilalaaGreatDoorZSmA

/- Few cells, with few coordinates and values. -/
section
namespace Go.Proofs.YtogmbehomilalaaGreatDoor
open Go Go.RowKit Go.Deep

/-- Few cells, with few coordinates and values. -/
def CelsB (N : Nat) (most : Int) (ln vl : Nat → Nat) : Prop := (N : Int) ≤ most ∧ ∀ k, k < N → ln k ≤ 10 ∧ vl k ≤ 10
set_option maxRecDepth 100000 in
set_option maxHeartbeats 4000000 in
theorem l_cells (w : World) (C : Option Addr) (N ccap : Nat) (most : Int) (ln vl : Nat → Nat) (x vk vn vd : Nat → Nat → Int) (vs : Nat → Nat → ByteArray) (hc : CelsAt w C N ln vl x vk vn vd vs) (hm : most ≤ 1000000)
    (hs : ∀ k, k < N → ln k ≤ 9223372036854775807 ∧ vl k ≤ 9223372036854775807 ∧ ∀ j, j < vl k → (vs k j).size ≤ 9223372036854775807) :
    Calls Tryz.prog 6 #[.slice C N ccap, .int .i64 most] w fun e w' => (e = .returned (.bool false) ∨ e = .returned (.bool true) ∧ CelsB N most ln vl) ∧ Below w.heap.size w w' := by
  have HC := Lib.hid hc
  have HS := Lib.hid hs
  have HL := Lib.hid l_short
  clear hc hs
  go_enter Tryz.func6, Tryz.ntmps6
  by_cases h0 : (N : Int) > most
  · go_wp2
    go_ret
    exact ⟨Or.inl rfl, Below.refl _ _⟩
  · go_wp2
    go_loopw [5, 6] (fun i _ wr => ∃ k : Nat, k ≤ N ∧ i = .int .i64 k ∧ Hid (∀ j, j < k → ln j ≤ 10 ∧ vl j ≤ 10) ∧ Hid (Below w.heap.size w wr)) (fun i _ _ => N - (intOf i).toNat)
    case atStart => exact ⟨0, Nat.zero_le _, rfl, fun j hj => absurd hj (by omega), Below.refl _ _⟩
    case round =>
      obtain ⟨k, hk, rfl, HK, HB⟩ := hrel
      by_cases hlt : k < N
      · obtain ⟨bc, oc, rfl, hbc, hcc⟩ := (HC.out.below HB.out) (by omega)
        obtain ⟨P, pc, Q, qc, x0, x1, _, x3⟩ := hcc k hlt
        clear hcc
        have HSk := Lib.hid (HS.out k hlt)
        have HV := Lib.hid x3
        clear x3
        obtain ⟨L, hL⟩ : ∃ L, ln k = L := ⟨_, rfl⟩
        obtain ⟨V, hV⟩ : ∃ V, vl k = V := ⟨_, rfl⟩
        have HLV : Hid (ln k = L ∧ vl k = V) := ⟨hL, hV⟩
        rw [hL] at x0 HSk
        rw [hV] at x1 HV HSk
        have hL9 := HSk.out.1
        have hV9 := HSk.out.2.1
        clear hL hV
        have HCW : Hid (∀ W, Below wr.heap.size wr W → W.cell? ⟨bc, oc + k * 2, none⟩ = some (.slice P L pc) ∧ W.cell? ⟨bc, oc + k * 2 + 1, none⟩ = some (.slice Q V qc)) := fun W hW => ⟨(hW.cell (p := ⟨bc, oc + k * 2, none⟩) hbc).trans x0, (hW.cell (p := ⟨bc, oc + k * 2 + 1, none⟩) hbc).trans x1⟩
        by_cases g1 : (L : Int) > 10
        · go_wp2
          go_ret
          exact ⟨Or.inl rfl, HB.out⟩
        · by_cases g2 : (V : Int) > 10
          · go_wp2
            go_ret
            exact ⟨Or.inl rfl, HB.out⟩
          · go_wp2
            clear x0 x1
            obtain ⟨wo, rfl⟩ : ∃ wo, wo = wr := ⟨_, rfl⟩
            go_loopw [6] (fun i wr => ∃ j : Nat, j ≤ V ∧ i = .int .i64 j ∧ Hid (Below wo.heap.size wo wr)) (fun i _ => V - (intOf i).toNat)
            case atStart => exact ⟨0, Nat.zero_le _, rfl, Below.refl _ _⟩
            case round =>
              obtain ⟨j, hj, rfl, HBj⟩ := hrel
              obtain ⟨x0, x1⟩ := HCW.out _ HBj.out
              by_cases hlt2 : j < V
              · obtain ⟨bv, ov, rfl, hbv, hcv⟩ := (HV.out.below HBj.out) (by omega)
                obtain ⟨y0, y1, y2, y3⟩ := hcv j hlt2
                clear hcv
                have HLs := Lib.hid (fun W => HL.out (vs k j) (HSk.out.2.2 j hlt2) W)
                generalize vs k j = s at *
                have KV : Hid (∀ W, Below wr.heap.size wr W → W.cell? ⟨bv, ov + j * 4 + 3, none⟩ = some (.string s) ∧ W.cell? ⟨bc, oc + k * 2 + 1, none⟩ = some (.slice (some ⟨bv, ov, none⟩) V qc)) := fun W hW => ⟨(hW.cell (p := ⟨bv, ov + j * 4 + 3, none⟩) hbv).trans y3, (HCW.out W (st HBj.out hW)).2⟩
                clear y0 y1 y2
                by_cases h5 : s.size ≤ 40
                · rw [decide_eq_true h5] at HLs
                  clear h5
                  go_wp2_with fail
                  refine (HLs.out _).mono ?_
                  rintro e w1 ⟨rfl, rfl⟩
                  go_wp2
                  go_roundw
                  case rel => exact ⟨j + 1, by omega, by go_num, HBj.out⟩
                  case measure => simp [intOf]; omega
                · rw [decide_eq_false h5] at HLs
                  clear h5
                  go_wp2_with fail
                  refine (HLs.out _).mono ?_
                  rintro e w1 ⟨rfl, rfl⟩
                  go_wp2
                  go_ret
                  exact ⟨Or.inl rfl, st HB.out HBj.out⟩
              · obtain rfl : j = V := by omega
                go_wp2
                go_roundw
                case rel =>
                  refine ⟨k + 1, by omega, by go_num, fun i hi => ?_, st HB.out HBj.out⟩
                  by_cases e : i = k
                  · subst e
                    rw [HLV.out.1, HLV.out.2]
                    omega
                  · exact HK.out i (by omega)
                case measure => simp [intOf]; omega
      · obtain rfl : k = N := by omega
        go_wp2
        go_ret
        exact ⟨Or.inr ⟨rfl, by omega, HK.out⟩, HB.out⟩

/-- Few: not more than what is examined. -/
def FewB (n m N : Nat) (most : Int) (ln vl : Nat → Nat) : Prop := n ≤ 10 ∧ m ≤ 10 ∧ CelsB N most ln vl
end Go.Proofs.YtogmbehomilalaaGreatDoor
end

/- Few arrays have few cells. -/
section
namespace Go.Proofs.YtogmbehomilalaaGreatDoor
open Go Go.RowKit Go.Deep

/-- Few arrays have few cells: what the contracts ask of them. -/
theorem ArrF.few {w : World} {A : Option Addr} {n : Nat} {B : Option Addr} {m : Nat} {C : Option Addr} {N : Nat} {nm : Nat → ByteArray} {lo hi : Nat → Int} {an : Nat → ByteArray} {ty : Nat → Int} {ln vl : Nat → Nat} {x vk vn vd : Nat → Nat → Int} {vs : Nat → Nat → ByteArray} {most : Int}
    (h : ArrF w A n B m C N nm lo hi an ty ln vl x vk vn vd vs) (hf : FewB n m N most ln vl) : CellsAt w C N ln vl x vk vn vd vs :=
  h.cells.few fun k hk => by have := (hf.2.2.2 k hk).1; omega
end Go.Proofs.YtogmbehomilalaaGreatDoor
end

/- Drawn regions taken operation by operation, those that a guard leaves out among them. -/
section
namespace Go.Proofs.YtogmbehomilalaaGreatDoor
open Go Go.RowKit Go.Deep

theorem rgi {P : Program} {ops : Array Oper} {Q : Exit → Act → World → Prop} {md : Region.Mode} {S : World → Prop} {fuel : Nat} {listed : Array Bool} {a : Act} {w : World} {oi : Oper} {v : Value} (i : Nat) (hi : ops[i]? = some oi)
    (hs : Region.noSelect ops = true) (hf : Region.free md ops listed i = true) (hr : (Region.ready md ops listed).contains i = true) (hQ : ∀ c a w, Q (.panic c) (a.put oi.dst v) w → Q (.panic c) a w)
    (hw : Region.wanted oi (yielded ops a.tmps) = true) (hy : ∀ w, S w → (execOp a.eval oi).run P w = .ok (.value v) w) (hS : S w) (h : wpAnyH P md ops Q S fuel (listed.setIfInBounds i true) (a.put oi.dst v) w) : wpAnyH P md ops Q S (fuel + 1) listed a w := wpAnyH_take hi hs hf hr hQ (.inl ⟨hw, hy⟩) hS h
theorem rgo {P : Program} {ops : Array Oper} {Q : Exit → Act → World → Prop} {md : Region.Mode} {S : World → Prop} {fuel : Nat} {listed : Array Bool} {a : Act} {w : World} {oi : Oper} (i : Nat) (hi : ops[i]? = some oi)
    (hs : Region.noSelect ops = true) (hf : Region.free md ops listed i = true) (hr : (Region.ready md ops listed).contains i = true) (hQ : ∀ c a w, Q (.panic c) (a.put oi.dst undef) w → Q (.panic c) a w)
    (hw : Region.wanted oi (yielded ops a.tmps) = false) (hS : S w) (h : wpAnyH P md ops Q S fuel (listed.setIfInBounds i true) (a.put oi.dst undef) w) : wpAnyH P md ops Q S (fuel + 1) listed a w := wpAnyH_take hi hs hf hr hQ (.inr ⟨hw, rfl⟩) hS h
end Go.Proofs.YtogmbehomilalaaGreatDoor
end

/- Arrays as data, and as they lie. -/
section
namespace Go.Proofs.YtogmbehomilalaaGreatDoor
open Go Go.RowKit Go.Deep

/-- Cells as data. -/
structure CeD where
  ln : Nat → Nat
  vl : Nat → Nat
  x : Nat → Nat → Int
  vk : Nat → Nat → Int
  vn : Nat → Nat → Int
  vd : Nat → Nat → Int
  vs : Nat → Nat → ByteArray
/-- An array as data. -/
structure ArD where
  n : Nat
  nm : Nat → ByteArray
  lo : Nat → Int
  hi : Nat → Int
  m : Nat
  an : Nat → ByteArray
  ty : Nat → Int
  N : Nat
  c : CeD
/-- The cells c lie in the slice at C. -/
def CeAt (w : World) (C : Option Addr) (N : Nat) (c : CeD) : Prop := CellsAt w C N c.ln c.vl c.x c.vk c.vn c.vd c.vs
theorem CeAt.below {w w' : World} {C : Option Addr} {N : Nat} {c : CeD} (h : CeAt w C N c) (hb : Below w.heap.size w w') : CeAt w' C N c := CellsAt.below h hb
/-- Where an array's slices lie. -/
structure ArP where
  A : Option Addr
  cap : Nat
  B : Option Addr
  bcap : Nat
  C : Option Addr
  ccap : Nat
abbrev ArP.val (p : ArP) (n m N : Nat) : Value := ArrV p.A n p.cap p.B m p.bcap p.C N p.ccap
structure ArAt (w : World) (p : ArP) (D : ArD) : Prop where
  dims : DimsAt w p.A D.n D.nm D.lo D.hi
  attrs : AttrsAt w p.B D.m D.an D.ty
  cells : CeAt w p.C D.N D.c
theorem ArAt.below {w w' : World} {p : ArP} {D : ArD} (h : ArAt w p D) (hb : Below w.heap.size w w') : ArAt w' p D := ⟨h.dims.below hb, h.attrs.below hb, h.cells.below hb⟩
/-- Cells of sizes that can be walked through. -/
def CeOk (N : Nat) (c : CeD) : Prop := ∀ k, k < N → c.ln k ≤ 1000 ∧ c.vl k ≤ 1000 ∧ ∀ j, j < c.vl k → (c.vs k j).size ≤ 9223372036854775807
structure ArOk (D : ArD) : Prop where
  n1 : D.n ≤ 1000
  m1 : D.m ≤ 1000
  N1 : D.N ≤ 1000000
  nmS : ∀ k, k < D.n → (D.nm k).size ≤ 9223372036854775807
  anS : ∀ k, k < D.m → (D.an k).size ≤ 9223372036854775807
  cS : CeOk D.N D.c
/-- What is known of an array that is a law's parameter. -/
def ArR (w : World) (p : ArP) (D : ArD) : Prop := ArrF w p.A D.n p.B D.m p.C D.N D.nm D.lo D.hi D.an D.ty D.c.ln D.c.vl D.c.x D.c.vk D.c.vn D.c.vd D.c.vs
theorem ArR.below {w w' : World} {p : ArP} {D : ArD} (h : ArR w p D) (hb : Below w.heap.size w w') : ArR w' p D := ArrF.below h hb
def FewD (D : ArD) (most : Int) : Prop := FewB D.n D.m D.N most D.c.ln D.c.vl
theorem ArR.ok {w : World} {p : ArP} {D : ArD} {most : Int} (h : ArR w p D) (hf : FewD D most) (hm : most ≤ 1000000) : ArAt w p D ∧ ArOk D := by
  have h1 := hf.1
  have h2 := hf.2.1
  have h3 := hf.2.2.1
  refine ⟨⟨h.dims, h.attrs, h.few hf⟩, by omega, by omega, by omega, h.nmS, h.anS, fun k hk => ?_⟩
  have := hf.2.2.2 k hk
  exact ⟨by omega, by omega, (h.cS k hk).2.2⟩
/-- Are two cells equal? -/
def celQ (c c' : CeD) (k : Nat) : Bool := sameZ (c.ln k) (c'.ln k) (c.x k) (c'.x k) && sameV (c.vl k) (c'.vl k) (c.vk k) (c'.vk k) (c.vn k) (c'.vn k) (c.vd k) (c'.vd k) (c.vs k) (c'.vs k)
def sameC (N N' : Nat) (c c' : CeD) : Bool := N == N' && allTo (celQ c c') N
/-- Are two arrays equal? -/
def eqAr (D D' : ArD) : Bool := sameD D.n D'.n D.nm D'.nm D.lo D'.lo D.hi D'.hi && (sameA D.m D'.m D.an D'.an D.ty D'.ty && sameC D.N D'.N D.c D'.c)

set_option maxRecDepth 100000 in
set_option maxHeartbeats 4000000 in
theorem r_SameCells (w : World) (A B : Option Addr) (n ca m d : Nat) (c c' : CeD) (ha : CeAt w A n c) (hb : CeAt w B m c') (hc : CeOk n c) (hc' : CeOk m c') (hn : n ≤ 1000000) (hm : m ≤ 1000000) :
    Calls Tryz.prog 44 #[.slice A n ca, .slice B m d] w fun e w' => e = .returned (.bool (sameC n m c c')) ∧ Below w.heap.size w w' := by
  have HA := Lib.hid ha
  have HB := Lib.hid hb
  have HC := Lib.hid hc
  have HC' := Lib.hid hc'
  have HI := Lib.hid s_SameInts
  have HVl := Lib.hid r_SameVals
  obtain ⟨ve, hve⟩ : ∃ ve, sameC n m c c' = ve := ⟨_, rfl⟩
  rw [hve]
  have HV := Lib.hid hve
  clear ha hb hve hc hc'
  by_cases h0 : n = m
  · subst h0
    have HE : Hid (ve = allTo (celQ c c') n) := by show _ = _; rw [← HV.out, sameC, beq_self_eq_true, Bool.true_and]
    go_enter Tryz.func44, Tryz.ntmps44
    go_wp2
    go_loopw [5] (fun i wr => ∃ k : Nat, k ≤ n ∧ i = .int .i64 k ∧ Hid (allTo (celQ c c') k = true) ∧ Hid (Below w.heap.size w wr)) (fun i _ => n - (intOf i).toNat)
    case atStart => exact ⟨0, Nat.zero_le _, rfl, rfl, Below.refl _ _⟩
    case round =>
      obtain ⟨k, hk, rfl, HK, HBw⟩ := hrel
      by_cases hlt : k < n
      · obtain ⟨b1, o1, rfl, hb1, hc1⟩ := (HA.out.below HBw.out) (by omega)
        obtain ⟨P, pc, Q, qc, x0, x1, x2, x3, x4⟩ := hc1 k hlt
        obtain ⟨b2, o2, rfl, hb2, hc2⟩ := (HB.out.below HBw.out) (by omega)
        obtain ⟨P', pc', Q', qc', y0, y1, y2, y3, y4⟩ := hc2 k hlt
        clear hc1 hc2
        have HS : Hid (allTo (celQ c c') (k + 1) = celQ c c' k) := by show _ = _; rw [allTo, HK.out, Bool.true_and]
        have HD : Hid (celQ c c' k = (sameZ (c.ln k) (c'.ln k) (c.x k) (c'.x k) && sameV (c.vl k) (c'.vl k) (c.vk k) (c'.vk k) (c.vn k) (c'.vn k) (c.vd k) (c'.vd k) (c.vs k) (c'.vs k))) := rfl
        have HL : Hid (celQ c c' k = false → ve = false) := fun h => by rw [HE.out]; exact allTo_le (k := k + 1) (by rw [HS.out, h]) (by omega)
        have hz := HC.out k hlt
        have hz' := HC'.out k hlt
        have HI1 : Hid (∀ W, Below wr.heap.size wr W → Calls Tryz.prog 24 #[.slice P (c.ln k) pc, .slice P' (c'.ln k) pc'] W fun e w' => e = .returned (.bool (sameZ (c.ln k) (c'.ln k) (c.x k) (c'.x k))) ∧ Below W.heap.size W w') := fun W hW => HI.out W P P' _ _ _ _ _ _ (x2.below hW) (y2.below hW) (by omega) (by omega)
        have HV1 : Hid (∀ W, Below wr.heap.size wr W → Calls Tryz.prog 86 #[.slice Q (c.vl k) qc, .slice Q' (c'.vl k) qc'] W fun e w' => e = .returned (.bool (sameV (c.vl k) (c'.vl k) (c.vk k) (c'.vk k) (c.vn k) (c'.vn k) (c.vd k) (c'.vd k) (c.vs k) (c'.vs k))) ∧ Below W.heap.size W w') := fun W hW => HVl.out W Q Q' _ _ _ _ _ _ _ _ _ _ _ _ (x3.below hW) (y3.below hW) (by omega) (by omega)
        have KW : Hid (∀ W, Below wr.heap.size wr W → (W.cell? ⟨b1, o1 + k * 2, none⟩ = some (.slice P (c.ln k) pc) ∧ W.cell? ⟨b1, o1 + k * 2 + 1, none⟩ = some (.slice Q (c.vl k) qc)) ∧ W.cell? ⟨b2, o2 + k * 2, none⟩ = some (.slice P' (c'.ln k) pc') ∧ W.cell? ⟨b2, o2 + k * 2 + 1, none⟩ = some (.slice Q' (c'.vl k) qc')) := fun W hW =>
          ⟨⟨(hW.cell (p := ⟨b1, o1 + k * 2, none⟩) hb1).trans x0, (hW.cell (p := ⟨b1, o1 + k * 2 + 1, none⟩) hb1).trans x1⟩, (hW.cell (p := ⟨b2, o2 + k * 2, none⟩) hb2).trans y0, (hW.cell (p := ⟨b2, o2 + k * 2 + 1, none⟩) hb2).trans y1⟩
        clear x2 x3 x4 y2 y3 y4 hz hz'
        generalize sameZ (c.ln k) (c'.ln k) (c.x k) (c'.x k) = r1 at *
        generalize sameV (c.vl k) (c'.vl k) (c.vk k) (c'.vk k) (c.vn k) (c'.vn k) (c.vd k) (c'.vd k) (c.vs k) (c'.vs k) = r2 at *
        generalize c.ln k = L1 at *
        generalize c'.ln k = L2 at *
        generalize c.vl k = V1 at *
        generalize c'.vl k = V2 at *
        have B0d : Below wr.heap.size wr wr.drew := Below.drew (Below.refl _ _)
        cases r1
        · have HF : Hid (ve = false) := HL.out (by rw [HD.out]; rfl)
          clear HS HD HL
          go_wp2_with fail
          refine wp_region_held_drew (S := fun W => (W.cell? ⟨b1, o1 + k * 2, none⟩ = some (.slice P L1 pc) ∧ W.cell? ⟨b1, o1 + k * 2 + 1, none⟩ = some (.slice Q V1 qc)) ∧ W.cell? ⟨b2, o2 + k * 2, none⟩ = some (.slice P' L2 pc') ∧ W.cell? ⟨b2, o2 + k * 2 + 1, none⟩ = some (.slice Q' V2 qc')) (by kernel_rfl) (KW.out _ B0d) (fun hHeld => ?_)
          refine rgi (v := ?_) 0 rfl (by kernel_rfl) (by kernel_rfl) (by kernel_rfl) (fun _ _ _ h => h) (by rfl) ?_ hHeld ?_
          rotate_left
          · intro w hSw; (try dsimp only at hSw); (try simp only [List.getElem_toArray, List.getElem_cons_zero]); go_simp; (try with_reducible rfl)
          try simp only [Act.put, List.setIfInBounds_toArray, List.set_cons_zero, List.set_cons_succ, List.getElem_toArray, List.getElem_cons_zero]
          refine rgi (v := ?_) 1 rfl (by kernel_rfl) (by kernel_rfl) (by kernel_rfl) (fun _ _ _ h => h) (by rfl) ?_ hHeld ?_
          rotate_left
          · intro w hSw; (try dsimp only at hSw); (try simp only [List.getElem_toArray, List.getElem_cons_succ, List.getElem_cons_zero]); go_simp; (try with_reducible rfl)
          try simp only [Act.put, List.setIfInBounds_toArray, List.set_cons_zero, List.set_cons_succ, List.getElem_toArray, List.getElem_cons_succ, List.getElem_cons_zero]
          refine rgi (v := ?_) 2 rfl (by kernel_rfl) (by kernel_rfl) (by kernel_rfl) (fun _ _ _ h => h) (by rfl) ?_ hHeld ?_
          rotate_left
          · intro w hSw; (try dsimp only at hSw); (try simp only [List.getElem_toArray, List.getElem_cons_succ, List.getElem_cons_zero]); go_simp; (try with_reducible rfl)
          try simp only [Act.put, List.setIfInBounds_toArray, List.set_cons_zero, List.set_cons_succ, List.getElem_toArray, List.getElem_cons_succ, List.getElem_cons_zero]
          refine rgi (v := ?_) 3 rfl (by kernel_rfl) (by kernel_rfl) (by kernel_rfl) (fun _ _ _ h => h) (by rfl) ?_ hHeld ?_
          rotate_left
          · intro w hSw; (try dsimp only at hSw); (try simp only [List.getElem_toArray, List.getElem_cons_succ, List.getElem_cons_zero]); go_simp; (try with_reducible rfl)
          try simp only [Act.put, List.setIfInBounds_toArray, List.set_cons_zero, List.set_cons_succ, List.getElem_toArray, List.getElem_cons_succ, List.getElem_cons_zero]
          refine rgi (v := ?_) 4 rfl (by kernel_rfl) (by kernel_rfl) (by kernel_rfl) (fun _ _ _ h => h) (by rfl) ?_ hHeld ?_
          rotate_left
          · intro w hSw; (try dsimp only at hSw); (try simp only [List.getElem_toArray, List.getElem_cons_succ, List.getElem_cons_zero]); go_simp; (try with_reducible rfl)
          try simp only [Act.put, List.setIfInBounds_toArray, List.set_cons_zero, List.set_cons_succ, List.getElem_toArray, List.getElem_cons_succ, List.getElem_cons_zero]
          refine rgi (v := ?_) 5 rfl (by kernel_rfl) (by kernel_rfl) (by kernel_rfl) (fun _ _ _ h => h) (by rfl) ?_ hHeld ?_
          rotate_left
          · intro w hSw; (try dsimp only at hSw); (try simp only [List.getElem_toArray, List.getElem_cons_succ, List.getElem_cons_zero]); go_simp; (try with_reducible rfl)
          try simp only [Act.put, List.setIfInBounds_toArray, List.set_cons_zero, List.set_cons_succ, List.getElem_toArray, List.getElem_cons_succ, List.getElem_cons_zero]
          refine rgi (v := ?_) 6 rfl (by kernel_rfl) (by kernel_rfl) (by kernel_rfl) (fun _ _ _ h => h) (by rfl) ?_ hHeld ?_
          rotate_left
          · intro w hSw; (try dsimp only at hSw); (try simp only [List.getElem_toArray, List.getElem_cons_succ, List.getElem_cons_zero]); go_simp; (try with_reducible rfl)
          try simp only [Act.put, List.setIfInBounds_toArray, List.set_cons_zero, List.set_cons_succ, List.getElem_toArray, List.getElem_cons_succ, List.getElem_cons_zero]
          refine rgi (v := ?_) 7 rfl (by kernel_rfl) (by kernel_rfl) (by kernel_rfl) (fun _ _ _ h => h) (by rfl) ?_ hHeld ?_
          rotate_left
          · intro w hSw; (try dsimp only at hSw); (try simp only [List.getElem_toArray, List.getElem_cons_succ, List.getElem_cons_zero]); go_simp; (try with_reducible rfl)
          try simp only [Act.put, List.setIfInBounds_toArray, List.set_cons_zero, List.set_cons_succ, List.getElem_toArray, List.getElem_cons_succ, List.getElem_cons_zero]
          refine rgi (v := ?_) 8 rfl (by kernel_rfl) (by kernel_rfl) (by kernel_rfl) (fun _ _ _ h => h) (by rfl) ?_ hHeld ?_
          rotate_left
          · intro w hSw; (try dsimp only at hSw); (try simp only [List.getElem_toArray, List.getElem_cons_succ, List.getElem_cons_zero]); go_simp; (try with_reducible rfl)
          try simp only [Act.put, List.setIfInBounds_toArray, List.set_cons_zero, List.set_cons_succ, List.getElem_toArray, List.getElem_cons_succ, List.getElem_cons_zero]
          refine rgi (v := ?_) 9 rfl (by kernel_rfl) (by kernel_rfl) (by kernel_rfl) (fun _ _ _ h => h) (by rfl) ?_ hHeld ?_
          rotate_left
          · intro w hSw; (try dsimp only at hSw); (try simp only [List.getElem_toArray, List.getElem_cons_succ, List.getElem_cons_zero]); go_simp; (try with_reducible rfl)
          try simp only [Act.put, List.setIfInBounds_toArray, List.set_cons_zero, List.set_cons_succ, List.getElem_toArray, List.getElem_cons_succ, List.getElem_cons_zero]
          refine wpAnyH_ready (rs := [10]) (by kernel_rfl) (by simp) ?_
          refine AllReadyH.cons rfl (fun K hK => ?_) AllReadyH.nil
          try simp only [List.getElem_toArray, List.getElem_cons_succ, List.getElem_cons_zero]
          go_simp
          go_at_call 24
          refine (HI1.out _ B0d).mono ?_
          rintro e w2 ⟨rfl, hb2⟩
          have B1 : Below wr.heap.size wr w2 := st B0d hb2
          go_wp2_with fail
          refine hK.out _ _ (KW.out _ B1) (fun hHeld => ?_)
          clear hK K
          try simp only [Act.put, List.setIfInBounds_toArray, List.set_cons_zero, List.set_cons_succ, List.getElem_toArray, List.getElem_cons_succ, List.getElem_cons_zero]
          refine rgi (v := ?_) 11 rfl (by kernel_rfl) (by kernel_rfl) (by kernel_rfl) (fun _ _ _ h => h) (by rfl) ?_ hHeld ?_
          rotate_left
          · intro w hSw; (try dsimp only at hSw); (try simp only [List.getElem_toArray, List.getElem_cons_succ, List.getElem_cons_zero]); go_simp; (try with_reducible rfl)
          try simp only [Act.put, List.setIfInBounds_toArray, List.set_cons_zero, List.set_cons_succ, List.getElem_toArray, List.getElem_cons_succ, List.getElem_cons_zero]
          refine rgi (v := ?_) 12 rfl (by kernel_rfl) (by kernel_rfl) (by kernel_rfl) (fun _ _ _ h => h) (by rfl) ?_ hHeld ?_
          rotate_left
          · intro w hSw; (try dsimp only at hSw); (try simp only [List.getElem_toArray, List.getElem_cons_succ, List.getElem_cons_zero]); go_simp; (try with_reducible rfl)
          try simp only [Act.put, List.setIfInBounds_toArray, List.set_cons_zero, List.set_cons_succ, List.getElem_toArray, List.getElem_cons_succ, List.getElem_cons_zero]
          refine rgo 13 rfl (by kernel_rfl) (by kernel_rfl) (by kernel_rfl) (fun _ _ _ h => h) (by rfl) hHeld ?_
          try simp only [Act.put, List.setIfInBounds_toArray, List.set_cons_zero, List.set_cons_succ, List.getElem_toArray, List.getElem_cons_succ, List.getElem_cons_zero]
          refine rgo 14 rfl (by kernel_rfl) (by kernel_rfl) (by kernel_rfl) (fun _ _ _ h => h) (by rfl) hHeld ?_
          try simp only [Act.put, List.setIfInBounds_toArray, List.set_cons_zero, List.set_cons_succ, List.getElem_toArray, List.getElem_cons_succ, List.getElem_cons_zero]
          refine rgo 15 rfl (by kernel_rfl) (by kernel_rfl) (by kernel_rfl) (fun _ _ _ h => h) (by rfl) hHeld ?_
          try simp only [Act.put, List.setIfInBounds_toArray, List.set_cons_zero, List.set_cons_succ, List.getElem_toArray, List.getElem_cons_succ, List.getElem_cons_zero]
          refine rgo 16 rfl (by kernel_rfl) (by kernel_rfl) (by kernel_rfl) (fun _ _ _ h => h) (by rfl) hHeld ?_
          try simp only [Act.put, List.setIfInBounds_toArray, List.set_cons_zero, List.set_cons_succ, List.getElem_toArray, List.getElem_cons_succ, List.getElem_cons_zero]
          refine rgo 17 rfl (by kernel_rfl) (by kernel_rfl) (by kernel_rfl) (fun _ _ _ h => h) (by rfl) hHeld ?_
          try simp only [Act.put, List.setIfInBounds_toArray, List.set_cons_zero, List.set_cons_succ, List.getElem_toArray, List.getElem_cons_succ, List.getElem_cons_zero]
          refine rgo 18 rfl (by kernel_rfl) (by kernel_rfl) (by kernel_rfl) (fun _ _ _ h => h) (by rfl) hHeld ?_
          try simp only [Act.put, List.setIfInBounds_toArray, List.set_cons_zero, List.set_cons_succ, List.getElem_toArray, List.getElem_cons_succ, List.getElem_cons_zero]
          refine rgo 19 rfl (by kernel_rfl) (by kernel_rfl) (by kernel_rfl) (fun _ _ _ h => h) (by rfl) hHeld ?_
          try simp only [Act.put, List.setIfInBounds_toArray, List.set_cons_zero, List.set_cons_succ, List.getElem_toArray, List.getElem_cons_succ, List.getElem_cons_zero]
          refine rgo 20 rfl (by kernel_rfl) (by kernel_rfl) (by kernel_rfl) (fun _ _ _ h => h) (by rfl) hHeld ?_
          try simp only [Act.put, List.setIfInBounds_toArray, List.set_cons_zero, List.set_cons_succ, List.getElem_toArray, List.getElem_cons_succ, List.getElem_cons_zero]
          refine rgo 21 rfl (by kernel_rfl) (by kernel_rfl) (by kernel_rfl) (fun _ _ _ h => h) (by rfl) hHeld ?_
          try simp only [Act.put, List.setIfInBounds_toArray, List.set_cons_zero, List.set_cons_succ, List.getElem_toArray, List.getElem_cons_succ, List.getElem_cons_zero]
          refine rgo 22 rfl (by kernel_rfl) (by kernel_rfl) (by kernel_rfl) (fun _ _ _ h => h) (by rfl) hHeld ?_
          try simp only [Act.put, List.setIfInBounds_toArray, List.set_cons_zero, List.set_cons_succ, List.getElem_toArray, List.getElem_cons_succ, List.getElem_cons_zero]
          refine wpAnyH_ready (rs := [23]) (by kernel_rfl) (by simp) ?_
          refine AllReadyH.cons rfl (fun K hK => ?_) AllReadyH.nil
          rw [if_neg (fun h => Bool.noConfusion h)]
          refine hK.out _ _ hHeld (fun hHeld => ?_)
          clear hK K
          simp only [Act.put, List.setIfInBounds_toArray, List.set_cons_zero, List.set_cons_succ, List.getElem_toArray, List.getElem_cons_succ, List.getElem_cons_zero]
          refine rgo 24 rfl (by kernel_rfl) (by kernel_rfl) (by kernel_rfl) (fun _ _ _ h => h) (by rfl) hHeld ?_
          try simp only [Act.put, List.setIfInBounds_toArray, List.set_cons_zero, List.set_cons_succ, List.getElem_toArray, List.getElem_cons_succ, List.getElem_cons_zero]
          refine rgi (v := ?_) 25 rfl (by kernel_rfl) (by kernel_rfl) (by kernel_rfl) (fun _ _ _ h => h) (by rfl) ?_ hHeld ?_
          rotate_left
          · intro w hSw; (try dsimp only at hSw); (try simp only [List.getElem_toArray, List.getElem_cons_succ, List.getElem_cons_zero]); go_simp; (try with_reducible rfl)
          try simp only [Act.put, List.setIfInBounds_toArray, List.set_cons_zero, List.set_cons_succ, List.getElem_toArray, List.getElem_cons_succ, List.getElem_cons_zero]
          refine wpAnyH_done (by kernel_rfl) ?_ _
          go_wp2
          go_ret
          exact ⟨by rw [HF.out]; rfl, st HBw.out B1⟩
        · cases r2
          · have HF : Hid (ve = false) := HL.out (by rw [HD.out]; rfl)
            clear HS HD HL
            go_wp2_with fail
            go_region_held3 (fun W => (W.cell? ⟨b1, o1 + k * 2, none⟩ = some (.slice P L1 pc) ∧ W.cell? ⟨b1, o1 + k * 2 + 1, none⟩ = some (.slice Q V1 qc)) ∧ W.cell? ⟨b2, o2 + k * 2, none⟩ = some (.slice P' L2 pc') ∧ W.cell? ⟨b2, o2 + k * 2 + 1, none⟩ = some (.slice Q' V2 qc'))
              (first | exact KW.out _ B2 | exact KW.out _ B1 | exact KW.out _ B0d | exact KW.out _ (Below.refl _ _))
              (first
                | (go_at_call 24; refine (HI1.out _ B0d).mono ?_; rintro e w2 ⟨rfl, hb2⟩; have B1 : Below wr.heap.size wr w2 := st B0d hb2)
                | (go_at_call 86; refine (HV1.out _ B1).mono ?_; rintro e w3 ⟨rfl, hb3⟩; have B2 : Below wr.heap.size wr w3 := st B1 hb3))
            all_goals
              go_wp2
              go_ret
              exact ⟨by rw [HF.out]; rfl, st HBw.out B2⟩
          · have HR : Hid (allTo (celQ c c') (k + 1) = true) := by show _ = _; rw [HS.out, HD.out]; rfl
            clear HS HD HL
            go_wp2_with fail
            go_region_held3 (fun W => (W.cell? ⟨b1, o1 + k * 2, none⟩ = some (.slice P L1 pc) ∧ W.cell? ⟨b1, o1 + k * 2 + 1, none⟩ = some (.slice Q V1 qc)) ∧ W.cell? ⟨b2, o2 + k * 2, none⟩ = some (.slice P' L2 pc') ∧ W.cell? ⟨b2, o2 + k * 2 + 1, none⟩ = some (.slice Q' V2 qc'))
              (first | exact KW.out _ B2 | exact KW.out _ B1 | exact KW.out _ B0d | exact KW.out _ (Below.refl _ _))
              (first
                | (go_at_call 24; refine (HI1.out _ B0d).mono ?_; rintro e w2 ⟨rfl, hb2⟩; have B1 : Below wr.heap.size wr w2 := st B0d hb2)
                | (go_at_call 86; refine (HV1.out _ B1).mono ?_; rintro e w3 ⟨rfl, hb3⟩; have B2 : Below wr.heap.size wr w3 := st B1 hb3))
            all_goals
              go_wp2
              go_roundw
              case rel => exact ⟨k + 1, by omega, by go_num, HR.out, st HBw.out B2⟩
              case measure => simp [intOf]; omega
      · obtain rfl : k = n := by omega
        go_wp2
        go_ret
        exact ⟨by rw [HE.out, HK.out]; rfl, HBw.out⟩
  · have HE : Hid (ve = false) := by show _ = _; rw [← HV.out, sameC, beq_false_of_ne h0, Bool.false_and]
    have h1 : ((n : Int) != (m : Int)) = true := by rw [bne_iff_ne]; omega
    go_enter Tryz.func44, Tryz.ntmps44
    go_wp2
    go_ret
    exact ⟨by rw [HE.out]; rfl, Below.refl _ _⟩
end Go.Proofs.YtogmbehomilalaaGreatDoor
end

/- Arrays compared. -/
section
namespace Go.Proofs.YtogmbehomilalaaGreatDoor
open Go Go.RowKit Go.Deep

/-- The box of an array. -/
abbrev ArP.obj (p : ArP) (n m N : Nat) : Obj := .cells #[.slice p.A n p.cap, .slice p.B m p.bcap, .slice p.C N p.ccap] 29
/-- The array lies in the box at b. -/
def ArIn (W : World) (b : Nat) (p : ArP) (n m N : Nat) : Prop := W.cell? ⟨b, 0, none⟩ = some (.slice p.A n p.cap) ∧ W.cell? ⟨b, 1, none⟩ = some (.slice p.B m p.bcap) ∧ W.cell? ⟨b, 2, none⟩ = some (.slice p.C N p.ccap)
theorem two_arr (w : World) (p q : ArP) (n m N n' m' N' : Nat) (W : World) (hW : Below (w.heap.size + 2) ((w.alloc (p.obj n m N)).alloc (q.obj n' m' N')) W) : ArIn W w.heap.size p n m N ∧ ArIn W (w.heap.size + 1) q n' m' N' := by
  have q0 := arr_box w (.slice p.A n p.cap) (.slice p.B m p.bcap) (.slice p.C N p.ccap) 29 W (Below.trans ((Below.refl _ _).alloc (Nat.le_refl _) _) (hW.mono (by simp)))
  have q1 := arr_box (w.alloc (p.obj n m N)) (.slice q.A n' q.cap) (.slice q.B m' q.bcap) (.slice q.C N' q.ccap) 29 W (by rw [World.size_alloc, World.size_alloc]; exact hW)
  rw [World.size_alloc] at q1
  exact ⟨q0, q1⟩
set_option maxRecDepth 100000 in
set_option maxHeartbeats 4000000 in
theorem ar_Equal (w : World) (p q : ArP) (D E : ArD) (h : ArAt w p D) (ho : ArOk D) (h' : ArAt w q E) (ho' : ArOk E) :
    Calls Tryz.prog 11 #[p.val D.n D.m D.N, q.val E.n E.m E.N] w fun e w' => e = .returned (.bool (eqAr D E)) ∧ Below w.heap.size w w' := by
  have HT := Lib.hid (two_arr w p q D.n D.m D.N E.n E.m E.N)
  have hz0 : ((w.alloc (p.obj D.n D.m D.N)).alloc (q.obj E.n E.m E.N)).heap.size = w.heap.size + 2 := by simp
  have HB : Hid (Below w.heap.size w ((w.alloc (p.obj D.n D.m D.N)).alloc (q.obj E.n E.m E.N))) := ((Below.refl _ _).alloc (Nat.le_refl _) _).alloc (by simp) _
  have n1 := ho.n1
  have n2 := ho'.n1
  have m1 := ho.m1
  have m2 := ho'.m1
  have H1 : Hid (∀ W, Below w.heap.size w W → Calls Tryz.prog 42 #[.slice p.A D.n p.cap, .slice q.A E.n q.cap] W fun e w' => e = .returned (.bool (sameD D.n E.n D.nm E.nm D.lo E.lo D.hi E.hi)) ∧ Below W.heap.size W w') := fun W hW => r_SameDims W _ _ _ _ _ _ _ _ _ _ _ _ (h.dims.below hW) (h'.dims.below hW) (by omega) (by omega)
  have H2 : Hid (∀ W, Below w.heap.size w W → Calls Tryz.prog 43 #[.slice p.B D.m p.bcap, .slice q.B E.m q.bcap] W fun e w' => e = .returned (.bool (sameA D.m E.m D.an E.an D.ty E.ty)) ∧ Below W.heap.size W w') := fun W hW => r_SameAttrs W _ _ _ _ _ _ _ _ _ _ (h.attrs.below hW) (h'.attrs.below hW) (by omega) (by omega)
  have H3 : Hid (∀ W, Below w.heap.size w W → Calls Tryz.prog 44 #[.slice p.C D.N p.ccap, .slice q.C E.N q.ccap] W fun e w' => e = .returned (.bool (sameC D.N E.N D.c E.c)) ∧ Below W.heap.size W w') := fun W hW => r_SameCells W _ _ _ _ _ _ _ _ (h.cells.below hW) (h'.cells.below hW) ho.cS ho'.cS ho.N1 ho'.N1
  have HD : Hid (eqAr D E = (sameD D.n E.n D.nm E.nm D.lo E.lo D.hi E.hi && (sameA D.m E.m D.an E.an D.ty E.ty && sameC D.N E.N D.c E.c))) := rfl
  rw [HD.out]
  clear h h' ho ho' n1 n2 m1 m2 HD
  generalize sameD D.n E.n D.nm E.nm D.lo E.lo D.hi E.hi = r1 at *
  generalize sameA D.m E.m D.an E.an D.ty E.ty = r2 at *
  generalize sameC D.N E.N D.c E.c = r3 at *
  go_enter Tryz.func11, Tryz.ntmps11
  go_wp2_with fail
  generalize (w.alloc (p.obj D.n D.m D.N)).alloc (q.obj E.n E.m E.N) = W0 at *
  rw [← hz0] at HT
  obtain ⟨⟨a0, a1, a2⟩, b0, b1, b2⟩ := HT.out W0 (Below.refl _ _)
  go_wp2_with fail
  refine (H1.out _ HB.out).mono ?_
  rintro e w1 ⟨rfl, hb1⟩
  have HB1 : Hid (Below w.heap.size w w1) := st HB.out hb1
  clear a0 a1 a2 b0 b1 b2
  cases r1
  · go_wp2
    go_ret
    exact ⟨rfl, HB1.out⟩
  · obtain ⟨⟨a0, a1, a2⟩, b0, b1, b2⟩ := HT.out w1 hb1
    go_wp2_with fail
    refine (H2.out _ HB1.out).mono ?_
    rintro e w2 ⟨rfl, hb2⟩
    have HB2 : Hid (Below w.heap.size w w2) := st HB1.out hb2
    clear a0 a1 a2 b0 b1 b2
    cases r2
    · go_wp2
      go_ret
      exact ⟨rfl, HB2.out⟩
    · obtain ⟨⟨a0, a1, a2⟩, b0, b1, b2⟩ := HT.out w2 (st hb1 hb2)
      go_wp2_with fail
      refine (H3.out _ HB2.out).mono ?_
      rintro e w3 ⟨rfl, hb3⟩
      go_wp2
      go_ret
      exact ⟨by cases r3 <;> rfl, st HB2.out hb3⟩

end Go.Proofs.YtogmbehomilalaaGreatDoor
end

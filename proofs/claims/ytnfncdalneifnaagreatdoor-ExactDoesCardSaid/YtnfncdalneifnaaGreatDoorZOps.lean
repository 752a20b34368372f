/- The table of operations: its rows, and how one is found. -/
import Derived.Test.YtnfncdalneifnaaGreatDoorZOrd
import Derived.Laws.Rows
namespace Go.Proofs.YtnfncdalneifnaaGreatDoor
open Go.RowKit Go.Deep

theorem run_storeCells (P : Program) (g t : Nat) : ∀ (vs : List Value) (w : World) (i : Nat) (cs : Array Value), w.heap[g]? = some (.cells cs t (0, 0)) → cs.size = i + vs.length → (∀ v ∈ vs, v.oneCell' = true) →
    ∃ w', (storeCells ⟨g, 0, none⟩ vs i).run P w = .ok () w' ∧ w'.heap[g]? = some (.cells (cs.toList.take i ++ vs).toArray t (0, 0)) ∧ w.grownBy w' (some g) ∧ w'.heap.size = w.heap.size := by
  intro vs
  induction vs with
  | nil =>
    intro w i cs h hs _
    refine ⟨w, rfl, ?_, World.grownBy.refl w _, rfl⟩
    rw [List.append_nil, List.take_of_length_le (by simp at hs ⊢; omega)]
    simpa using h
  | cons v vs ih =>
    intro w i cs h hs h1
    have hlen : i < cs.size := by simp at hs; omega
    have hc : w.cell? ⟨g, 0 + i, none⟩ = some cs[i] := by rw [cell_of_row _ _ _ _ _ _ h, Nat.zero_add]; exact Array.getElem?_eq_getElem hlen
    have hf : w.frozen? ⟨g, 0 + i, none⟩ = false := by rw [Nat.zero_add]; simp [World.frozen?, h]
    have hset : (w.setCell ⟨g, 0 + i, none⟩ v).heap[g]? = some (.cells (cs.setIfInBounds i v) t (0, 0)) := by simp [World.setCell, Array.getElem?_modify, h]
    obtain ⟨w', e1, e2, e3, e4⟩ := ih (w.setCell ⟨g, 0 + i, none⟩ v) (i + 1) (cs.setIfInBounds i v) hset (by simp at hs ⊢; omega) (fun u hu => h1 u (List.mem_cons_of_mem _ hu))
    refine ⟨w', ?_, ?_, ?_, ?_⟩
    · show ((do store ((⟨g, 0, none⟩ : Addr).add i) v; storeCells ⟨g, 0, none⟩ vs (i + 1)) : Sem Unit).run P w = _
      have hr : (store ((⟨g, 0, none⟩ : Addr).add i) v).run P w = .ok () (w.setCell ⟨g, 0 + i, none⟩ v) := by
        rw [add_mk, run_store P w _ v _ (h1 v (List.mem_cons_self ..)), hc]
        show (if w.frozen? _ = true then _ else _) = _
        rw [hf]; rfl
      simp only [Sem.run_bind, hr, Result.andThen_ok]; exact e1
    · rw [e2]
      congr 2
      have : (cs.setIfInBounds i v).toList.take (i + 1) = cs.toList.take i ++ [v] := by
        rw [Array.toList_setIfInBounds, List.take_add_one, List.getElem?_set_self (by simpa using hlen), List.take_set_of_le (Nat.le_refl i)]
        rfl
      rw [this]; simp
    · refine ⟨e3.os, e3.tape, e3.output, by rw [e4]; simp [World.setCell], fun k hk hne => ?_⟩
      rw [e3.block k (by simpa [World.setCell] using hk) hne]
      exact Below.heap_setCell _ _ _ _ (fun e => hne (by rw [e]))
    · rw [e4]; simp [World.setCell]

theorem wpList_store_row {P : Program} {ops : Array Oper} {rest : List Oper} {o : Oper} {a : Act} {w : World} {Q : Exit → Act → World → Prop} (ty : TypeId) (x y : Operand) (ho : o.op = .store ty x y) (hgd : o.guard = none) (hdst : o.dst = none)
    (g t : Nat) (hx : a.eval x = .pointer (some ⟨g, 0, none⟩)) (vs : List Value) (hy : a.eval y = .agg vs.toArray) (cs : Array Value) (hg : w.heap[g]? = some (.cells cs t (0, 0))) (hs : cs.size = vs.length)
    (hi : (P.info? ty).map (·.size) = some vs.length) (h1 : ∀ v ∈ vs, v.oneCell' = true)
    (h : ∀ w', w'.heap[g]? = some (.cells vs.toArray t (0, 0)) → w.grownBy w' (some g) → w'.heap.size = w.heap.size → wpList P ops Q rest a w') : wpList P ops Q (o :: rest) a w := by
  refine wpList_plain hgd fun K hK => ?_
  obtain ⟨w', e1, e2, e3, e4⟩ := run_storeCells P g t vs w 0 cs hg (by omega) h1
  obtain ⟨j, hj, hjs⟩ := Option.map_eq_some_iff.1 hi
  have hrun : (storeVar ty ⟨g, 0, none⟩ (.agg vs.toArray)).run P w = .ok () w' := by
    simp [storeVar, Sem.run_bind, sizeOf, typeInfo, hj, hjs, Value.cells, e1]
  unfold Oper.wp execOp
  simp only [ho, hx, hy, Instr.storeAt, Instr.sureAddr, Sem.run_bind, Sem.run_pure, Result.andThen_ok, hrun]
  have := hK _ _ (h w' (by simpa using e2) e3 e4)
  rw [Oper.upon_skip, hdst]
  exact this

theorem wpList_value {P : Program} {ops : Array Oper} {rest : List Oper} {o : Oper} {a : Act} {w : World} {Q : Exit → Act → World → Prop} (ty : TypeId) (parts : Array (Nat × Operand)) (_ho : o.op = .build ty parts) (hgd : o.guard = none) (v : Value)
    (hrun : (execOp a.eval o).run P w = .ok (.value v) w) (h : wpList P ops Q rest (a.put o.dst v) w) : wpList P ops Q (o :: rest) a w :=
  wpList_plain hgd fun K hK => by
    unfold Oper.wp
    rw [hrun]
    exact hK _ _ h

def o7 (c n1 n2 n3 r : Int) (l : Bool) (f : Nat) : List Value := [.int .i64 c, .int .i64 n1, .int .i64 n2, .int .i64 n3, .int .i64 r, .bool l, .func (.func f) #[] #[]]
def z7 : List Value := [.int .i64 0, .int .i64 0, .int .i64 0, .int .i64 0, .int .i64 0, .bool false, .nilFunc]
/-- The cells of the table. -/
def tab : List Value :=
  z7 ++
  z7 ++
  z7 ++
  z7 ++
  (o7 1 2 0 0 1 false 110) ++
  (o7 1 3 0 0 0 false 111) ++
  (o7 1 3 0 0 2 false 114) ++
  (o7 1 1 0 0 1 true 115) ++
  (o7 1 1 0 0 2 true 116) ++
  (o7 2 3 3 0 0 false 117) ++
  (o7 2 3 3 0 0 false 118) ++
  (o7 2 3 3 0 0 false 119) ++
  (o7 2 3 3 0 3 false 121) ++
  (o7 2 4 4 0 1 false 122) ++
  (o7 2 4 4 0 1 false 123) ++
  (o7 2 4 4 0 1 false 124) ++
  (o7 2 4 4 0 1 false 125) ++
  (o7 2 4 4 0 1 false 126) ++
  (o7 2 4 4 0 1 false 127) ++
  (o7 2 2 2 0 1 true 128) ++
  (o7 2 2 2 0 1 true 130) ++
  (o7 2 4 4 0 0 true 131) ++
  (o7 3 2 4 4 0 true 133)
theorem tab_one : ∀ v ∈ tab, v.oneCell' = true := by
  have h : tab.all (fun v => v.oneCell') = true := by kernel_rfl
  exact fun v hv => List.all_eq_true.1 h v hv
theorem info_tab : (Tryz.prog.info? 96).map (·.size) = some 161 := by kernel_rfl

set_option maxRecDepth 100000 in
set_option maxHeartbeats 4000000 in
theorem c_operations (w : World) :
    Calls Tryz.prog 60 #[] w fun e w' => e = .returned (.agg tab.toArray) ∧ Below w.heap.size w w' := by
  go_enter Tryz.func60, Tryz.ntmps60
  go_wp2_with (first | (refine wpList_value 96 _ rfl rfl (.agg tab.toArray) (by kernel_rfl) ?_; generalize HT : tab.toArray = TT; have HH := Lib.hid HT; clear HT) | (refine wpList_store_row 96 _ _ rfl rfl rfl w.heap.size 96 rfl tab (congrArg Value.agg HH.out.symm) _ (heap_alloc_new w _) (by kernel_rfl) info_tab tab_one ?_; intro w1 hh1 hg1 hz1; have HZ := Lib.hid hz1; clear hz1))
  refine bodyPost_ret (v := .agg tab.toArray) (results_cell_row Tryz.results60 _ _ w.heap.size 96 tab.toArray (0, 0) _ rfl hh1 Tryz.underlying96 rfl (by rw [info_tab]; rfl)) rfl ⟨rfl, ?_⟩
  exact ((Below.refl _ _).alloc (Nat.le_refl w.heap.size) _).grown hg1 (by simp) (fun k hk => by injection hk with hk; omega)
end Go.Proofs.YtnfncdalneifnaaGreatDoor

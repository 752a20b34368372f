/- The regions of the law about truth values, whatever their order. -/
import Derived.Test.YtfkjfeobhbocjaaGreatDoorRegSt
import Derived.Test.YtfkjfeobhbocjaaGreatDoorLog
import Derived.Test.YtfkjfeobhbocjaaGreatDoorLTri
namespace Go.Proofs.YtfkjfeobhbocjaaGreatDoor
open Go Go.RowKit Go.Deep Go.Shelf
theorem deM1 (x y : Tri) : (x.not).or (y.not) = (x.and y).not := by cases x <;> cases y <;> rfl
theorem deM2 (x y : Tri) : (x.not).and (y.not) = (x.or y).not := by cases x <;> cases y <;> rfl
theorem not_not (x : Tri) : (x.not).not = x := by cases x <;> rfl
theorem ld_orD (x y : Tri) (w : World) (b c : Nat) (h : At w b [(x.not.k, x.not.n, 0, noS), (y.not.k, y.not.n, 0, noS)]) :
    Calls Tryz.prog 25 #[.int .i64 20, .slice (some ⟨b, 0, none⟩) 2 c] w fun e w' => e = .returned (V (x.and y).not.k (x.and y).not.n 0 noS) ∧ Below w.heap.size w w' := by
  rw [← deM1]; exact ld_or _ _ w b c h
theorem ld_andD (x y : Tri) (w : World) (b c : Nat) (h : At w b [(x.not.k, x.not.n, 0, noS), (y.not.k, y.not.n, 0, noS)]) :
    Calls Tryz.prog 25 #[.int .i64 19, .slice (some ⟨b, 0, none⟩) 2 c] w fun e w' => e = .returned (V (x.or y).not.k (x.or y).not.n 0 noS) ∧ Below w.heap.size w w' := by
  rw [← deM2]; exact ld_and _ _ w b c h
theorem ld_nn (x : Tri) (w : World) (b c : Nat) (h : At w b [(x.not.k, x.not.n, 0, noS)]) :
    Calls Tryz.prog 25 #[.int .i64 4, .slice (some ⟨b, 0, none⟩) 1 c] w fun e w' => e = .returned (V x.k x.n 0 noS) ∧ Below w.heap.size w w' := by
  have := ld_not x.not w b c h
  rw [not_not] at this; exact this
theorem dst_of {ops : Array Oper} {l : List (Option Nat)} (h : ops.toList.map (·.dst) = l) {i d : Nat} {o : Oper} (e : ops[i]? = some o) (hl : l[i]? = some (some d)) : o.dst = some d := by
  rw [← h, List.getElem?_map, Array.getElem?_toList, e] at hl
  simpa using hl
theorem old_of {ops : Array Oper} {l : List (Option Nat)} (h : ops.toList.map (·.dst) = l) (t : Nat) (ht : l.contains (some t) = false) {listed : Array Bool} : ∀ i o, ops[i]? = some o → o.dst = some t → listed.getD i false = false := by
  intro i o e hd
  exfalso
  have : l[i]? = some (some t) := by rw [← h, List.getElem?_map, Array.getElem?_toList, e]; simp [hd]
  have hm := List.mem_of_getElem? this
  rw [← List.elem_iff] at hm
  rw [show l.elem (some t) = l.contains (some t) from rfl, ht] at hm
  cases hm
theorem none_of {ops : Array Oper} {l : List (Option Nat)} (h : ops.toList.map (·.dst) = l) {i : Nat} {o : Oper} (e : ops[i]? = some o) (hl : l[i]? = some none) : o.dst = none := by
  rw [← h, List.getElem?_map, Array.getElem?_toList, e] at hl
  simpa using hl
theorem dag_of {ops : Array Oper} (h : (List.range ops.size).all (fun i => (ops[i]?).all fun o => o.after.all fun e => decide (e.on < i)) = true) : ∀ (i : Nat) (o : Oper), ops[i]? = some o → ∀ e : Edge, e ∈ o.after → e.on < i := by
  intro i o ho e he
  have h1 := List.all_eq_true.1 h i (List.mem_range.2 (Array.getElem?_eq_some_iff.1 ho).1)
  rw [ho] at h1
  simp only [Option.all_some, Array.all_eq_true_iff_forall_mem] at h1
  simpa using h1 e he
def ValRow (w : World) (b : Nat) (k n : Int) : Prop := w.heap[b]? = some (.cells #[.int .i64 k, .int .i64 n, .int .i64 0, .string noS] 46 (0, 0))
theorem four_row {w : World} {b : Nat} {k n : Int} (h : ValRow w b k n) : Four w b k n :=
  ⟨by rw [cell_of_row _ _ _ _ _ _ h]; rfl, by rw [cell_of_row _ _ _ _ _ _ h]; rfl, by rw [cell_of_row _ _ _ _ _ _ h]; rfl, by rw [cell_of_row _ _ _ _ _ _ h]; rfl⟩
theorem ValRow.below {w W : World} {b : Nat} {k n : Int} (h : ValRow w b k n) (hb : Below w.heap.size w W) : ValRow W b k n :=
  (hb.block b (Array.getElem?_eq_some_iff.1 h).1).trans h
theorem row4_other (w : World) {r b : Nat} (hne : b ≠ r) (x y z u : Value) : ((((w.setCell ⟨r, 0, none⟩ x).setCell ⟨r, 1, none⟩ y).setCell ⟨r, 2, none⟩ z).setCell ⟨r, 3, none⟩ u).heap[b]? = w.heap[b]? := by
  rw [Below.heap_setCell _ _ _ _ hne, Below.heap_setCell _ _ _ _ hne, Below.heap_setCell _ _ _ _ hne, Below.heap_setCell _ _ _ _ hne]
theorem set_getD (l : Array Bool) (i j : Nat) : (l.setIfInBounds i true).getD j false = if j = i ∧ i < l.size then true else l.getD j false := by
  rw [Array.getD_eq_getD_getElem?, Array.getD_eq_getD_getElem?, Array.getElem?_setIfInBounds]
  by_cases e : i = j
  · subst e
    by_cases h : i < l.size
    · simp [h]
    · simp [h]
  · rw [if_neg e, if_neg (fun x => e x.1.symm)]
theorem slot_put (a : Act) (d t : Nat) (v : Value) (h : d < a.tmps.size) : slot (putSlot a d v) t = if t = d then v else slot a t := by
  show (a.tmps.setIfInBounds d v)[t]?.getD undef = _
  rw [Array.getElem?_setIfInBounds]
  by_cases e : d = t
  · subst e; rw [if_pos rfl, if_pos h, if_pos rfl]; rfl
  · rw [if_neg e, if_neg (fun x => e x.symm)]
/-- Pair2 boxes (operations 10 and 11, in slots 9 and 10) that lie apart; what comes after them has not begun. -/
structure Pair2 (ops : Array Oper) (a0 : Act) (W0 : World) (L : List Desc) (listed : Array Bool) (a : Act) (w : World) : Prop where
  held : Held ops a0 W0 (Kn W0.heap.size L) listed a w
  df : listed.getD 10 false = true → listed.getD 11 false = true → slot a 9 ≠ slot a 10
  lt : ∀ i, 12 ≤ i → listed.getD i false = false
  cl : ∀ i j o, ops[i]? = some o → listed.getD i false = true → (o.after.any fun e => e.on == j && Region.binds .any e) = true → listed.getD j false = true
section
variable {ops : Array Oper} {a0 : Act} {W0 : World} {L : List Desc} {listed : Array Bool} {a : Act} {w w' : World}
theorem lt_set {l : Array Bool} (h : ∀ i, 12 ≤ i → l.getD i false = false) {i : Nat} (hi : i < 12) : ∀ j, 12 ≤ j → (l.setIfInBounds i true).getD j false = false := by
  intro j hj
  rw [set_getD, if_neg (by omega)]
  exact h j hj
theorem cl_set (h : ∀ i j o, ops[i]? = some o → listed.getD i false = true → (o.after.any fun e => e.on == j && Region.binds .any e) = true → listed.getD j false = true) {i : Nat} (hr : i ∈ Region.ready .any ops listed) :
    ∀ k j o, ops[k]? = some o → (listed.setIfInBounds i true).getD k false = true → (o.after.any fun e => e.on == j && Region.binds .any e) = true → (listed.setIfInBounds i true).getD j false = true := by
  intro k j o ho hl ha
  rw [set_getD] at hl ⊢
  split
  · rfl
  · by_cases e : k = i
    · subst e; exact ready_on hr ho ha
    · rw [if_neg (fun x => e x.1)] at hl
      exact h k j o ho hl ha
theorem Pair2.end' (T : Pair2 ops a0 W0 L listed a w)
    (apart : ∀ (i j : Nat) (x y : Oper) (t : Nat), ops[i]? = some x → ops[j]? = some y → x.dst = some t → y.dst = some t → i = j)
    {i : Nat} {o : Oper} {d : Nat} {v : Value} (ho : ops[i]? = some o) (hd : o.dst = some d) (hsz : d < a0.tmps.size) (hb : Below w.heap.size w w') (hv : Kn W0.heap.size L i v w') (hi : i < 12) (hr : i ∈ Region.ready .any ops listed) (hn : i ≠ 10 ∧ i ≠ 11 ∧ d ≠ 9 ∧ d ≠ 10) :
    Pair2 ops a0 W0 L (listed.setIfInBounds i true) (putSlot a d v) w' := by
  refine ⟨T.held.end' apart ho hd hsz hb hv, ?_, lt_set T.lt hi, cl_set T.cl hr⟩
  rw [set_getD, set_getD, if_neg (by omega), if_neg (by omega), slot_put _ _ _ _ (by rw [T.held.frame]; exact hsz), slot_put _ _ _ _ (by rw [T.held.frame]; exact hsz), if_neg (by omega), if_neg (by omega)]
  exact T.df
theorem Pair2.box (T : Pair2 ops a0 W0 L listed a w)
    (apart : ∀ (i j : Nat) (x y : Oper) (t : Nat), ops[i]? = some x → ops[j]? = some y → x.dst = some t → y.dst = some t → i = j)
    {i j : Nat} {o x : Oper} {d t : Nat} (ho : ops[i]? = some o) (hd : o.dst = some d) (hj : ops[j]? = some x) (hx : x.dst = some t) (hsz : d < a0.tmps.size)
    (hc : i = 10 ∧ d = 9 ∧ j = 11 ∧ t = 10 ∨ i = 11 ∧ d = 10 ∧ j = 10 ∧ t = 9) (hL : L.getD i (.c undef) = .box) (hL' : L.getD j (.c undef) = .box) (hr : i ∈ Region.ready .any ops listed) :
    Pair2 ops a0 W0 L (listed.setIfInBounds i true) (putSlot a d (.pointer (some ⟨w.heap.size, 0, none⟩))) (w.alloc (.cells #[.int .i64 0, .int .i64 0, .int .i64 0, .string ⟨#[]⟩] 46)) := by
  have hk : Kn W0.heap.size L i (.pointer (some ⟨w.heap.size, 0, none⟩)) (w.alloc (.cells #[.int .i64 0, .int .i64 0, .int .i64 0, .string ⟨#[]⟩] 46)) := by
    unfold Kn; rw [hL]; exact ⟨w.heap.size, rfl, T.held.below.size, heap_alloc_new w _⟩
  refine ⟨T.held.end' apart ho hd hsz ((Below.refl _ _).alloc (Nat.le_refl _) _) hk, ?_, lt_set T.lt (by omega), cl_set T.cl hr⟩
  have other : listed.getD j false = true → slot a t ≠ .pointer (some ⟨w.heap.size, 0, none⟩) := by
    intro hl e
    have := T.held.got j x t hj hx hl
    unfold Kn at this
    rw [hL'] at this
    obtain ⟨b, h1, _, h3⟩ := this
    rw [e] at h1
    have hlt := (Array.getElem?_eq_some_iff.1 h3).1
    have : w.heap.size = b := by injection h1 with h1; injection h1 with h1; injection h1
    omega
  have hs9 := T.held.frame
  rcases hc with ⟨rfl, rfl, rfl, rfl⟩ | ⟨rfl, rfl, rfl, rfl⟩
  · intro _ h11
    rw [set_getD, if_neg (by omega)] at h11
    rw [slot_put _ _ _ _ (by omega), slot_put _ _ _ _ (by omega), if_pos rfl, if_neg (by omega)]
    exact fun e => other h11 e.symm
  · intro h10 _
    rw [set_getD, if_neg (by omega)] at h10
    rw [slot_put _ _ _ _ (by omega), slot_put _ _ _ _ (by omega), if_pos rfl, if_neg (by omega)]
    exact other h10
end

set_option maxRecDepth 100000 in
set_option maxHeartbeats 4000000 in
theorem r5 (x y : Tri) {id : Nat} {ops : Array Oper} {Q : Exit → Act → World → Prop} {a0 : Act} {w0 : World} (b7 b8 b9 b10 : Nat) (size : ops.size = 45) (hn : a0.tmps.size = 127)
    (dl : ops.toList.map (·.dst) = [some 27, some 28, some 29, some 30, some 31, some 32, some 33, some 34, some 35, some 36, some 37, some 38, some 39, some 40, some 41, some 42, some 43, some 44, some 45, some 46, some 47, some 48, some 49, some 50, some 51, some 52, some 53, some 54, some 55, some 56, some 57, some 58, some 59, some 60, some 61, some 62, some 63, some 64, some 65, some 66, some 67, some 68, some 69, some 70, some 71])
    (dag : ∀ (i : Nat) (o : Oper), ops[i]? = some o → ∀ e : Edge, e ∈ o.after → e.on < i)
    {o0 : Oper} (e0 : ops[0]? = some o0) (k0 : o0.op = .move (.tmp 6)) (g0 : o0.guard = none)
    {o1 : Oper} (e1 : ops[1]? = some o1) (k1 : o1.op = .load 46 (.tmp 9)) (g1 : o1.guard = none)
    {o2 : Oper} (e2 : ops[2]? = some o2) (k2 : o2.op = .buildSlice 51 1 #[(0, .tmp 28)]) (g2 : o2.guard = none) (f2_1 : (o2.after.any fun e => e.on == 1 && Region.binds .any e) = true)
    {o3 : Oper} (e3 : ops[3]? = some o3) (k3 : o3.op = .call { callee := .value (.tmp 27), args := #[.const (.int .i64 4), .tmp 29], argTypes := #[3, 51] }) (g3 : o3.guard = none) (f3_0 : (o3.after.any fun e => e.on == 0 && Region.binds .any e) = true) (f3_2 : (o3.after.any fun e => e.on == 2 && Region.binds .any e) = true)
    {o4 : Oper} (e4 : ops[4]? = some o4) (k4 : o4.op = .move (.tmp 6)) (g4 : o4.guard = none)
    {o5 : Oper} (e5 : ops[5]? = some o5) (k5 : o5.op = .move (.tmp 6)) (g5 : o5.guard = none)
    {o6 : Oper} (e6 : ops[6]? = some o6) (k6 : o6.op = .load 46 (.tmp 7)) (g6 : o6.guard = none)
    {o7 : Oper} (e7 : ops[7]? = some o7) (k7 : o7.op = .buildSlice 51 1 #[(0, .tmp 33)]) (g7 : o7.guard = none) (f7_6 : (o7.after.any fun e => e.on == 6 && Region.binds .any e) = true)
    {o8 : Oper} (e8 : ops[8]? = some o8) (k8 : o8.op = .call { callee := .value (.tmp 32), args := #[.const (.int .i64 4), .tmp 34], argTypes := #[3, 51] }) (g8 : o8.guard = none) (f8_5 : (o8.after.any fun e => e.on == 5 && Region.binds .any e) = true) (f8_7 : (o8.after.any fun e => e.on == 7 && Region.binds .any e) = true)
    {o9 : Oper} (e9 : ops[9]? = some o9) (k9 : o9.op = .move (.tmp 6)) (g9 : o9.guard = none)
    {o10 : Oper} (e10 : ops[10]? = some o10) (k10 : o10.op = .load 46 (.tmp 8)) (g10 : o10.guard = none)
    {o11 : Oper} (e11 : ops[11]? = some o11) (k11 : o11.op = .buildSlice 51 1 #[(0, .tmp 37)]) (g11 : o11.guard = none) (f11_10 : (o11.after.any fun e => e.on == 10 && Region.binds .any e) = true)
    {o12 : Oper} (e12 : ops[12]? = some o12) (k12 : o12.op = .call { callee := .value (.tmp 36), args := #[.const (.int .i64 4), .tmp 38], argTypes := #[3, 51] }) (g12 : o12.guard = none) (f12_9 : (o12.after.any fun e => e.on == 9 && Region.binds .any e) = true) (f12_11 : (o12.after.any fun e => e.on == 11 && Region.binds .any e) = true)
    {o13 : Oper} (e13 : ops[13]? = some o13) (k13 : o13.op = .buildSlice 51 2 #[(0, .tmp 35), (1, .tmp 39)]) (g13 : o13.guard = none) (f13_8 : (o13.after.any fun e => e.on == 8 && Region.binds .any e) = true) (f13_12 : (o13.after.any fun e => e.on == 12 && Region.binds .any e) = true)
    {o14 : Oper} (e14 : ops[14]? = some o14) (k14 : o14.op = .call { callee := .value (.tmp 31), args := #[.const (.int .i64 20), .tmp 40], argTypes := #[3, 51] }) (g14 : o14.guard = none) (f14_4 : (o14.after.any fun e => e.on == 4 && Region.binds .any e) = true) (f14_13 : (o14.after.any fun e => e.on == 13 && Region.binds .any e) = true)
    {o15 : Oper} (e15 : ops[15]? = some o15) (k15 : o15.op = .binOp .neq 46 (.tmp 30) (.tmp 41) 46) (g15 : o15.guard = none) (f15_3 : (o15.after.any fun e => e.on == 3 && Region.binds .any e) = true) (f15_14 : (o15.after.any fun e => e.on == 14 && Region.binds .any e) = true)
    {o16 : Oper} (e16 : ops[16]? = some o16) (k16 : o16.op = .move (.tmp 42)) (g16 : o16.guard = none) (f16_15 : (o16.after.any fun e => e.on == 15 && Region.binds .any e) = true)
    {o17 : Oper} (e17 : ops[17]? = some o17) (k17 : o17.op = .move (.tmp 6)) (g17 : o17.guard = some (16, false)) (f17_16 : (o17.after.any fun e => e.on == 16 && Region.binds .any e) = true)
    {o18 : Oper} (e18 : ops[18]? = some o18) (k18 : o18.op = .load 46 (.tmp 10)) (g18 : o18.guard = some (16, false)) (f18_16 : (o18.after.any fun e => e.on == 16 && Region.binds .any e) = true)
    {o19 : Oper} (e19 : ops[19]? = some o19) (k19 : o19.op = .buildSlice 51 1 #[(0, .tmp 45)]) (g19 : o19.guard = some (16, false)) (f19_16 : (o19.after.any fun e => e.on == 16 && Region.binds .any e) = true) (f19_18 : (o19.after.any fun e => e.on == 18 && Region.binds .any e) = true)
    {o20 : Oper} (e20 : ops[20]? = some o20) (k20 : o20.op = .call { callee := .value (.tmp 44), args := #[.const (.int .i64 4), .tmp 46], argTypes := #[3, 51] }) (g20 : o20.guard = some (16, false)) (f20_16 : (o20.after.any fun e => e.on == 16 && Region.binds .any e) = true) (f20_17 : (o20.after.any fun e => e.on == 17 && Region.binds .any e) = true) (f20_19 : (o20.after.any fun e => e.on == 19 && Region.binds .any e) = true)
    {o21 : Oper} (e21 : ops[21]? = some o21) (k21 : o21.op = .move (.tmp 6)) (g21 : o21.guard = some (16, false)) (f21_16 : (o21.after.any fun e => e.on == 16 && Region.binds .any e) = true)
    {o22 : Oper} (e22 : ops[22]? = some o22) (k22 : o22.op = .move (.tmp 6)) (g22 : o22.guard = some (16, false)) (f22_16 : (o22.after.any fun e => e.on == 16 && Region.binds .any e) = true)
    {o23 : Oper} (e23 : ops[23]? = some o23) (k23 : o23.op = .load 46 (.tmp 7)) (g23 : o23.guard = some (16, false)) (f23_16 : (o23.after.any fun e => e.on == 16 && Region.binds .any e) = true)
    {o24 : Oper} (e24 : ops[24]? = some o24) (k24 : o24.op = .buildSlice 51 1 #[(0, .tmp 50)]) (g24 : o24.guard = some (16, false)) (f24_16 : (o24.after.any fun e => e.on == 16 && Region.binds .any e) = true) (f24_23 : (o24.after.any fun e => e.on == 23 && Region.binds .any e) = true)
    {o25 : Oper} (e25 : ops[25]? = some o25) (k25 : o25.op = .call { callee := .value (.tmp 49), args := #[.const (.int .i64 4), .tmp 51], argTypes := #[3, 51] }) (g25 : o25.guard = some (16, false)) (f25_16 : (o25.after.any fun e => e.on == 16 && Region.binds .any e) = true) (f25_22 : (o25.after.any fun e => e.on == 22 && Region.binds .any e) = true) (f25_24 : (o25.after.any fun e => e.on == 24 && Region.binds .any e) = true)
    {o26 : Oper} (e26 : ops[26]? = some o26) (k26 : o26.op = .move (.tmp 6)) (g26 : o26.guard = some (16, false)) (f26_16 : (o26.after.any fun e => e.on == 16 && Region.binds .any e) = true)
    {o27 : Oper} (e27 : ops[27]? = some o27) (k27 : o27.op = .load 46 (.tmp 8)) (g27 : o27.guard = some (16, false)) (f27_16 : (o27.after.any fun e => e.on == 16 && Region.binds .any e) = true)
    {o28 : Oper} (e28 : ops[28]? = some o28) (k28 : o28.op = .buildSlice 51 1 #[(0, .tmp 54)]) (g28 : o28.guard = some (16, false)) (f28_16 : (o28.after.any fun e => e.on == 16 && Region.binds .any e) = true) (f28_27 : (o28.after.any fun e => e.on == 27 && Region.binds .any e) = true)
    {o29 : Oper} (e29 : ops[29]? = some o29) (k29 : o29.op = .call { callee := .value (.tmp 53), args := #[.const (.int .i64 4), .tmp 55], argTypes := #[3, 51] }) (g29 : o29.guard = some (16, false)) (f29_16 : (o29.after.any fun e => e.on == 16 && Region.binds .any e) = true) (f29_26 : (o29.after.any fun e => e.on == 26 && Region.binds .any e) = true) (f29_28 : (o29.after.any fun e => e.on == 28 && Region.binds .any e) = true)
    {o30 : Oper} (e30 : ops[30]? = some o30) (k30 : o30.op = .buildSlice 51 2 #[(0, .tmp 52), (1, .tmp 56)]) (g30 : o30.guard = some (16, false)) (f30_16 : (o30.after.any fun e => e.on == 16 && Region.binds .any e) = true) (f30_25 : (o30.after.any fun e => e.on == 25 && Region.binds .any e) = true) (f30_29 : (o30.after.any fun e => e.on == 29 && Region.binds .any e) = true)
    {o31 : Oper} (e31 : ops[31]? = some o31) (k31 : o31.op = .call { callee := .value (.tmp 48), args := #[.const (.int .i64 19), .tmp 57], argTypes := #[3, 51] }) (g31 : o31.guard = some (16, false)) (f31_16 : (o31.after.any fun e => e.on == 16 && Region.binds .any e) = true) (f31_21 : (o31.after.any fun e => e.on == 21 && Region.binds .any e) = true) (f31_30 : (o31.after.any fun e => e.on == 30 && Region.binds .any e) = true)
    {o32 : Oper} (e32 : ops[32]? = some o32) (k32 : o32.op = .binOp .neq 46 (.tmp 47) (.tmp 58) 46) (g32 : o32.guard = some (16, false)) (f32_16 : (o32.after.any fun e => e.on == 16 && Region.binds .any e) = true) (f32_20 : (o32.after.any fun e => e.on == 20 && Region.binds .any e) = true) (f32_31 : (o32.after.any fun e => e.on == 31 && Region.binds .any e) = true)
    {o33 : Oper} (e33 : ops[33]? = some o33) (k33 : o33.op = .pick (.tmp 43) (.const (.bool true)) (.tmp 59)) (g33 : o33.guard = none) (f33_16 : (o33.after.any fun e => e.on == 16 && Region.binds .any e) = true) (f33_32 : (o33.after.any fun e => e.on == 32 && Region.binds .any e) = true)
    {o34 : Oper} (e34 : ops[34]? = some o34) (k34 : o34.op = .move (.tmp 60)) (g34 : o34.guard = none) (f34_33 : (o34.after.any fun e => e.on == 33 && Region.binds .any e) = true)
    {o35 : Oper} (e35 : ops[35]? = some o35) (k35 : o35.op = .move (.tmp 6)) (g35 : o35.guard = some (34, false)) (f35_34 : (o35.after.any fun e => e.on == 34 && Region.binds .any e) = true)
    {o36 : Oper} (e36 : ops[36]? = some o36) (k36 : o36.op = .move (.tmp 6)) (g36 : o36.guard = some (34, false)) (f36_34 : (o36.after.any fun e => e.on == 34 && Region.binds .any e) = true)
    {o37 : Oper} (e37 : ops[37]? = some o37) (k37 : o37.op = .load 46 (.tmp 7)) (g37 : o37.guard = some (34, false)) (f37_34 : (o37.after.any fun e => e.on == 34 && Region.binds .any e) = true)
    {o38 : Oper} (e38 : ops[38]? = some o38) (k38 : o38.op = .buildSlice 51 1 #[(0, .tmp 64)]) (g38 : o38.guard = some (34, false)) (f38_34 : (o38.after.any fun e => e.on == 34 && Region.binds .any e) = true) (f38_37 : (o38.after.any fun e => e.on == 37 && Region.binds .any e) = true)
    {o39 : Oper} (e39 : ops[39]? = some o39) (k39 : o39.op = .call { callee := .value (.tmp 63), args := #[.const (.int .i64 4), .tmp 65], argTypes := #[3, 51] }) (g39 : o39.guard = some (34, false)) (f39_34 : (o39.after.any fun e => e.on == 34 && Region.binds .any e) = true) (f39_36 : (o39.after.any fun e => e.on == 36 && Region.binds .any e) = true) (f39_38 : (o39.after.any fun e => e.on == 38 && Region.binds .any e) = true)
    {o40 : Oper} (e40 : ops[40]? = some o40) (k40 : o40.op = .buildSlice 51 1 #[(0, .tmp 66)]) (g40 : o40.guard = some (34, false)) (f40_34 : (o40.after.any fun e => e.on == 34 && Region.binds .any e) = true) (f40_39 : (o40.after.any fun e => e.on == 39 && Region.binds .any e) = true)
    {o41 : Oper} (e41 : ops[41]? = some o41) (k41 : o41.op = .call { callee := .value (.tmp 62), args := #[.const (.int .i64 4), .tmp 67], argTypes := #[3, 51] }) (g41 : o41.guard = some (34, false)) (f41_34 : (o41.after.any fun e => e.on == 34 && Region.binds .any e) = true) (f41_35 : (o41.after.any fun e => e.on == 35 && Region.binds .any e) = true) (f41_40 : (o41.after.any fun e => e.on == 40 && Region.binds .any e) = true)
    {o42 : Oper} (e42 : ops[42]? = some o42) (k42 : o42.op = .load 46 (.tmp 7)) (g42 : o42.guard = some (34, false)) (f42_34 : (o42.after.any fun e => e.on == 34 && Region.binds .any e) = true)
    {o43 : Oper} (e43 : ops[43]? = some o43) (k43 : o43.op = .binOp .neq 46 (.tmp 68) (.tmp 69) 46) (g43 : o43.guard = some (34, false)) (f43_34 : (o43.after.any fun e => e.on == 34 && Region.binds .any e) = true) (f43_41 : (o43.after.any fun e => e.on == 41 && Region.binds .any e) = true) (f43_42 : (o43.after.any fun e => e.on == 42 && Region.binds .any e) = true)
    {o44 : Oper} (e44 : ops[44]? = some o44) (k44 : o44.op = .pick (.tmp 61) (.const (.bool true)) (.tmp 70)) (g44 : o44.guard = none) (f44_34 : (o44.after.any fun e => e.on == 34 && Region.binds .any e) = true) (f44_43 : (o44.after.any fun e => e.on == 43 && Region.binds .any e) = true)
    (s6 : slot a0 6 = .func (.func 25) #[] #[])
    (s7 : slot a0 7 = .pointer (some ⟨b7, 0, none⟩))
    (s8 : slot a0 8 = .pointer (some ⟨b8, 0, none⟩))
    (s9 : slot a0 9 = .pointer (some ⟨b9, 0, none⟩))
    (s10 : slot a0 10 = .pointer (some ⟨b10, 0, none⟩))
    (cells : ∀ W, Below w0.heap.size w0 W → Four W b7 (x).k (x).n ∧ Four W b8 (y).k (y).n ∧ Four W b9 (x.and y).k (x.and y).n ∧ Four W b10 (x.or y).k (x.or y).n)
    (done : ∀ a w, a.tmps.size = 127 → a.defers = a0.defers → Below w0.heap.size w0 w → slot a 71 = .bool false → (∀ t, t < 27 → slot a t = slot a0 t) → Q .normal a w) :
    (Code.region id ops true).wp Tryz.prog Q a0 w0 := by
  have d0 := dst_of dl e0 (d := 27) rfl
  have d1 := dst_of dl e1 (d := 28) rfl
  have d2 := dst_of dl e2 (d := 29) rfl
  have d3 := dst_of dl e3 (d := 30) rfl
  have d4 := dst_of dl e4 (d := 31) rfl
  have d5 := dst_of dl e5 (d := 32) rfl
  have d6 := dst_of dl e6 (d := 33) rfl
  have d7 := dst_of dl e7 (d := 34) rfl
  have d8 := dst_of dl e8 (d := 35) rfl
  have d9 := dst_of dl e9 (d := 36) rfl
  have d10 := dst_of dl e10 (d := 37) rfl
  have d11 := dst_of dl e11 (d := 38) rfl
  have d12 := dst_of dl e12 (d := 39) rfl
  have d13 := dst_of dl e13 (d := 40) rfl
  have d14 := dst_of dl e14 (d := 41) rfl
  have d15 := dst_of dl e15 (d := 42) rfl
  have d16 := dst_of dl e16 (d := 43) rfl
  have d17 := dst_of dl e17 (d := 44) rfl
  have d18 := dst_of dl e18 (d := 45) rfl
  have d19 := dst_of dl e19 (d := 46) rfl
  have d20 := dst_of dl e20 (d := 47) rfl
  have d21 := dst_of dl e21 (d := 48) rfl
  have d22 := dst_of dl e22 (d := 49) rfl
  have d23 := dst_of dl e23 (d := 50) rfl
  have d24 := dst_of dl e24 (d := 51) rfl
  have d25 := dst_of dl e25 (d := 52) rfl
  have d26 := dst_of dl e26 (d := 53) rfl
  have d27 := dst_of dl e27 (d := 54) rfl
  have d28 := dst_of dl e28 (d := 55) rfl
  have d29 := dst_of dl e29 (d := 56) rfl
  have d30 := dst_of dl e30 (d := 57) rfl
  have d31 := dst_of dl e31 (d := 58) rfl
  have d32 := dst_of dl e32 (d := 59) rfl
  have d33 := dst_of dl e33 (d := 60) rfl
  have d34 := dst_of dl e34 (d := 61) rfl
  have d35 := dst_of dl e35 (d := 62) rfl
  have d36 := dst_of dl e36 (d := 63) rfl
  have d37 := dst_of dl e37 (d := 64) rfl
  have d38 := dst_of dl e38 (d := 65) rfl
  have d39 := dst_of dl e39 (d := 66) rfl
  have d40 := dst_of dl e40 (d := 67) rfl
  have d41 := dst_of dl e41 (d := 68) rfl
  have d42 := dst_of dl e42 (d := 69) rfl
  have d43 := dst_of dl e43 (d := 70) rfl
  have d44 := dst_of dl e44 (d := 71) rfl
  have ap := apart_of dl (by decide)
  refine wp_region_known (L := [.c (.func (.func 25) #[] #[]), .c (V (x.and y).k (x.and y).n 0 noS), .s 1 #[.int .i64 (x.and y).k, .int .i64 (x.and y).n, .int .i64 0, .string noS], .c (V ((x.and y).not).k ((x.and y).not).n 0 noS), .c (.func (.func 25) #[] #[]), .c (.func (.func 25) #[] #[]), .c (V (x).k (x).n 0 noS), .s 1 #[.int .i64 (x).k, .int .i64 (x).n, .int .i64 0, .string noS], .c (V ((x).not).k ((x).not).n 0 noS), .c (.func (.func 25) #[] #[]), .c (V (y).k (y).n 0 noS), .s 1 #[.int .i64 (y).k, .int .i64 (y).n, .int .i64 0, .string noS], .c (V ((y).not).k ((y).not).n 0 noS), .s 2 #[.int .i64 ((x).not).k, .int .i64 ((x).not).n, .int .i64 0, .string noS, .int .i64 ((y).not).k, .int .i64 ((y).not).n, .int .i64 0, .string noS], .c (V ((x.and y).not).k ((x.and y).not).n 0 noS), .c (.bool false), .c (.bool false), .c (.func (.func 25) #[] #[]), .c (V (x.or y).k (x.or y).n 0 noS), .s 1 #[.int .i64 (x.or y).k, .int .i64 (x.or y).n, .int .i64 0, .string noS], .c (V ((x.or y).not).k ((x.or y).not).n 0 noS), .c (.func (.func 25) #[] #[]), .c (.func (.func 25) #[] #[]), .c (V (x).k (x).n 0 noS), .s 1 #[.int .i64 (x).k, .int .i64 (x).n, .int .i64 0, .string noS], .c (V ((x).not).k ((x).not).n 0 noS), .c (.func (.func 25) #[] #[]), .c (V (y).k (y).n 0 noS), .s 1 #[.int .i64 (y).k, .int .i64 (y).n, .int .i64 0, .string noS], .c (V ((y).not).k ((y).not).n 0 noS), .s 2 #[.int .i64 ((x).not).k, .int .i64 ((x).not).n, .int .i64 0, .string noS, .int .i64 ((y).not).k, .int .i64 ((y).not).n, .int .i64 0, .string noS], .c (V ((x.or y).not).k ((x.or y).not).n 0 noS), .c (.bool false), .c (.bool false), .c (.bool false), .c (.func (.func 25) #[] #[]), .c (.func (.func 25) #[] #[]), .c (V (x).k (x).n 0 noS), .s 1 #[.int .i64 (x).k, .int .i64 (x).n, .int .i64 0, .string noS], .c (V ((x).not).k ((x).not).n 0 noS), .s 1 #[.int .i64 ((x).not).k, .int .i64 ((x).not).n, .int .i64 0, .string noS], .c (V (x).k (x).n 0 noS), .c (V (x).k (x).n 0 noS), .c (.bool false), .c (.bool false)]) (B := w0.heap.size) (by kernel_rfl) dag ?step ?fin
  case step =>
    intro listed a w i H hi
    have hlt := (mem_ready hi).1
    rw [size] at hlt
    rcases (by omega : i = 0 ∨ i = 1 ∨ i = 2 ∨ i = 3 ∨ i = 4 ∨ i = 5 ∨ i = 6 ∨ i = 7 ∨ i = 8 ∨ i = 9 ∨ i = 10 ∨ i = 11 ∨ i = 12 ∨ i = 13 ∨ i = 14 ∨ i = 15 ∨ i = 16 ∨ i = 17 ∨ i = 18 ∨ i = 19 ∨ i = 20 ∨ i = 21 ∨ i = 22 ∨ i = 23 ∨ i = 24 ∨ i = 25 ∨ i = 26 ∨ i = 27 ∨ i = 28 ∨ i = 29 ∨ i = 30 ∨ i = 31 ∨ i = 32 ∨ i = 33 ∨ i = 34 ∨ i = 35 ∨ i = 36 ∨ i = 37 ∨ i = 38 ∨ i = 39 ∨ i = 40 ∨ i = 41 ∨ i = 42 ∨ i = 43 ∨ i = 44) with rfl | rfl | rfl | rfl | rfl | rfl | rfl | rfl | rfl | rfl | rfl | rfl | rfl | rfl | rfl | rfl | rfl | rfl | rfl | rfl | rfl | rfl | rfl | rfl | rfl | rfl | rfl | rfl | rfl | rfl | rfl | rfl | rfl | rfl | rfl | rfl | rfl | rfl | rfl | rfl | rfl | rfl | rfl | rfl | rfl
    · exact wpOp_of e0 (.inl g0) (op_move k0 d0 ((H.old 6 (old_of dl 6 (by decide))).trans s6) (H.end' ap e0 d0 (by omega) (Below.refl _ _) (show _ = _ from rfl)))
    · exact wpOp_of e1 (.inl g1) (op_loadV k1 d1 ((H.old 9 (old_of dl 9 (by decide))).trans s9) (cells w H.below).2.2.1 (H.end' ap e1 d1 (by omega) (Below.refl _ _) (show _ = _ from rfl)))
    · exact wpOp_of e2 (.inl g2) (op_slice1 k2 d2 (H.known hi e2 f2_1 e1 d1) (H.end' ap e2 d2 (by omega) ((Below.refl _ _).alloc (Nat.le_refl _) _) ⟨w.heap.size, rfl, heap_alloc_new w _⟩))
    · obtain ⟨b, hb1, hb2⟩ := (H.known hi e3 f3_2 e2 d2)
      exact wpOp_of e3 (.inl g3) (op_call2 k3 d3 (H.known hi e3 f3_0 e0 d0) hb1 (enters_of Tryz.func25 (by kernel_rfl) rfl) ((ld_not (x.and y) w b 1 (at_of1 hb2)).mono fun e w' h => ⟨h.1, (H.end' ap e3 d3 (by omega) h.2 (show _ = _ from rfl))⟩))
    · exact wpOp_of e4 (.inl g4) (op_move k4 d4 ((H.old 6 (old_of dl 6 (by decide))).trans s6) (H.end' ap e4 d4 (by omega) (Below.refl _ _) (show _ = _ from rfl)))
    · exact wpOp_of e5 (.inl g5) (op_move k5 d5 ((H.old 6 (old_of dl 6 (by decide))).trans s6) (H.end' ap e5 d5 (by omega) (Below.refl _ _) (show _ = _ from rfl)))
    · exact wpOp_of e6 (.inl g6) (op_loadV k6 d6 ((H.old 7 (old_of dl 7 (by decide))).trans s7) (cells w H.below).1 (H.end' ap e6 d6 (by omega) (Below.refl _ _) (show _ = _ from rfl)))
    · exact wpOp_of e7 (.inl g7) (op_slice1 k7 d7 (H.known hi e7 f7_6 e6 d6) (H.end' ap e7 d7 (by omega) ((Below.refl _ _).alloc (Nat.le_refl _) _) ⟨w.heap.size, rfl, heap_alloc_new w _⟩))
    · obtain ⟨b, hb1, hb2⟩ := (H.known hi e8 f8_7 e7 d7)
      exact wpOp_of e8 (.inl g8) (op_call2 k8 d8 (H.known hi e8 f8_5 e5 d5) hb1 (enters_of Tryz.func25 (by kernel_rfl) rfl) ((ld_not (x) w b 1 (at_of1 hb2)).mono fun e w' h => ⟨h.1, (H.end' ap e8 d8 (by omega) h.2 (show _ = _ from rfl))⟩))
    · exact wpOp_of e9 (.inl g9) (op_move k9 d9 ((H.old 6 (old_of dl 6 (by decide))).trans s6) (H.end' ap e9 d9 (by omega) (Below.refl _ _) (show _ = _ from rfl)))
    · exact wpOp_of e10 (.inl g10) (op_loadV k10 d10 ((H.old 8 (old_of dl 8 (by decide))).trans s8) (cells w H.below).2.1 (H.end' ap e10 d10 (by omega) (Below.refl _ _) (show _ = _ from rfl)))
    · exact wpOp_of e11 (.inl g11) (op_slice1 k11 d11 (H.known hi e11 f11_10 e10 d10) (H.end' ap e11 d11 (by omega) ((Below.refl _ _).alloc (Nat.le_refl _) _) ⟨w.heap.size, rfl, heap_alloc_new w _⟩))
    · obtain ⟨b, hb1, hb2⟩ := (H.known hi e12 f12_11 e11 d11)
      exact wpOp_of e12 (.inl g12) (op_call2 k12 d12 (H.known hi e12 f12_9 e9 d9) hb1 (enters_of Tryz.func25 (by kernel_rfl) rfl) ((ld_not (y) w b 1 (at_of1 hb2)).mono fun e w' h => ⟨h.1, (H.end' ap e12 d12 (by omega) h.2 (show _ = _ from rfl))⟩))
    · exact wpOp_of e13 (.inl g13) (op_slice2 k13 d13 (H.known hi e13 f13_8 e8 d8) (H.known hi e13 f13_12 e12 d12) (H.end' ap e13 d13 (by omega) ((Below.refl _ _).alloc (Nat.le_refl _) _) ⟨w.heap.size, rfl, heap_alloc_new w _⟩))
    · obtain ⟨b, hb1, hb2⟩ := (H.known hi e14 f14_13 e13 d13)
      exact wpOp_of e14 (.inl g14) (op_call2 k14 d14 (H.known hi e14 f14_4 e4 d4) hb1 (enters_of Tryz.func25 (by kernel_rfl) rfl) ((ld_orD x y w b 2 (at_of2 hb2)).mono fun e w' h => ⟨h.1, (H.end' ap e14 d14 (by omega) h.2 (show _ = _ from rfl))⟩))
    · exact wpOp_of e15 (.inl g15) (op_neqV k15 d15 (H.known hi e15 f15_3 e3 d3) (H.known hi e15 f15_14 e14 d14) (H.end' ap e15 d15 (by omega) (Below.refl _ _) (show _ = _ from rfl)))
    · exact wpOp_of e16 (.inl g16) (op_move k16 d16 (H.known hi e16 f16_15 e15 d15) (H.end' ap e16 d16 (by omega) (Below.refl _ _) (show _ = _ from rfl)))
    · exact wpOp_of e17 (.inr ⟨16, false, o16, 43, g17, e16, d16, H.known hi e17 f17_16 e16 d16⟩) (op_move k17 d17 ((H.old 6 (old_of dl 6 (by decide))).trans s6) (H.end' ap e17 d17 (by omega) (Below.refl _ _) (show _ = _ from rfl)))
    · exact wpOp_of e18 (.inr ⟨16, false, o16, 43, g18, e16, d16, H.known hi e18 f18_16 e16 d16⟩) (op_loadV k18 d18 ((H.old 10 (old_of dl 10 (by decide))).trans s10) (cells w H.below).2.2.2 (H.end' ap e18 d18 (by omega) (Below.refl _ _) (show _ = _ from rfl)))
    · exact wpOp_of e19 (.inr ⟨16, false, o16, 43, g19, e16, d16, H.known hi e19 f19_16 e16 d16⟩) (op_slice1 k19 d19 (H.known hi e19 f19_18 e18 d18) (H.end' ap e19 d19 (by omega) ((Below.refl _ _).alloc (Nat.le_refl _) _) ⟨w.heap.size, rfl, heap_alloc_new w _⟩))
    · obtain ⟨b, hb1, hb2⟩ := (H.known hi e20 f20_19 e19 d19)
      exact wpOp_of e20 (.inr ⟨16, false, o16, 43, g20, e16, d16, H.known hi e20 f20_16 e16 d16⟩) (op_call2 k20 d20 (H.known hi e20 f20_17 e17 d17) hb1 (enters_of Tryz.func25 (by kernel_rfl) rfl) ((ld_not (x.or y) w b 1 (at_of1 hb2)).mono fun e w' h => ⟨h.1, (H.end' ap e20 d20 (by omega) h.2 (show _ = _ from rfl))⟩))
    · exact wpOp_of e21 (.inr ⟨16, false, o16, 43, g21, e16, d16, H.known hi e21 f21_16 e16 d16⟩) (op_move k21 d21 ((H.old 6 (old_of dl 6 (by decide))).trans s6) (H.end' ap e21 d21 (by omega) (Below.refl _ _) (show _ = _ from rfl)))
    · exact wpOp_of e22 (.inr ⟨16, false, o16, 43, g22, e16, d16, H.known hi e22 f22_16 e16 d16⟩) (op_move k22 d22 ((H.old 6 (old_of dl 6 (by decide))).trans s6) (H.end' ap e22 d22 (by omega) (Below.refl _ _) (show _ = _ from rfl)))
    · exact wpOp_of e23 (.inr ⟨16, false, o16, 43, g23, e16, d16, H.known hi e23 f23_16 e16 d16⟩) (op_loadV k23 d23 ((H.old 7 (old_of dl 7 (by decide))).trans s7) (cells w H.below).1 (H.end' ap e23 d23 (by omega) (Below.refl _ _) (show _ = _ from rfl)))
    · exact wpOp_of e24 (.inr ⟨16, false, o16, 43, g24, e16, d16, H.known hi e24 f24_16 e16 d16⟩) (op_slice1 k24 d24 (H.known hi e24 f24_23 e23 d23) (H.end' ap e24 d24 (by omega) ((Below.refl _ _).alloc (Nat.le_refl _) _) ⟨w.heap.size, rfl, heap_alloc_new w _⟩))
    · obtain ⟨b, hb1, hb2⟩ := (H.known hi e25 f25_24 e24 d24)
      exact wpOp_of e25 (.inr ⟨16, false, o16, 43, g25, e16, d16, H.known hi e25 f25_16 e16 d16⟩) (op_call2 k25 d25 (H.known hi e25 f25_22 e22 d22) hb1 (enters_of Tryz.func25 (by kernel_rfl) rfl) ((ld_not (x) w b 1 (at_of1 hb2)).mono fun e w' h => ⟨h.1, (H.end' ap e25 d25 (by omega) h.2 (show _ = _ from rfl))⟩))
    · exact wpOp_of e26 (.inr ⟨16, false, o16, 43, g26, e16, d16, H.known hi e26 f26_16 e16 d16⟩) (op_move k26 d26 ((H.old 6 (old_of dl 6 (by decide))).trans s6) (H.end' ap e26 d26 (by omega) (Below.refl _ _) (show _ = _ from rfl)))
    · exact wpOp_of e27 (.inr ⟨16, false, o16, 43, g27, e16, d16, H.known hi e27 f27_16 e16 d16⟩) (op_loadV k27 d27 ((H.old 8 (old_of dl 8 (by decide))).trans s8) (cells w H.below).2.1 (H.end' ap e27 d27 (by omega) (Below.refl _ _) (show _ = _ from rfl)))
    · exact wpOp_of e28 (.inr ⟨16, false, o16, 43, g28, e16, d16, H.known hi e28 f28_16 e16 d16⟩) (op_slice1 k28 d28 (H.known hi e28 f28_27 e27 d27) (H.end' ap e28 d28 (by omega) ((Below.refl _ _).alloc (Nat.le_refl _) _) ⟨w.heap.size, rfl, heap_alloc_new w _⟩))
    · obtain ⟨b, hb1, hb2⟩ := (H.known hi e29 f29_28 e28 d28)
      exact wpOp_of e29 (.inr ⟨16, false, o16, 43, g29, e16, d16, H.known hi e29 f29_16 e16 d16⟩) (op_call2 k29 d29 (H.known hi e29 f29_26 e26 d26) hb1 (enters_of Tryz.func25 (by kernel_rfl) rfl) ((ld_not (y) w b 1 (at_of1 hb2)).mono fun e w' h => ⟨h.1, (H.end' ap e29 d29 (by omega) h.2 (show _ = _ from rfl))⟩))
    · exact wpOp_of e30 (.inr ⟨16, false, o16, 43, g30, e16, d16, H.known hi e30 f30_16 e16 d16⟩) (op_slice2 k30 d30 (H.known hi e30 f30_25 e25 d25) (H.known hi e30 f30_29 e29 d29) (H.end' ap e30 d30 (by omega) ((Below.refl _ _).alloc (Nat.le_refl _) _) ⟨w.heap.size, rfl, heap_alloc_new w _⟩))
    · obtain ⟨b, hb1, hb2⟩ := (H.known hi e31 f31_30 e30 d30)
      exact wpOp_of e31 (.inr ⟨16, false, o16, 43, g31, e16, d16, H.known hi e31 f31_16 e16 d16⟩) (op_call2 k31 d31 (H.known hi e31 f31_21 e21 d21) hb1 (enters_of Tryz.func25 (by kernel_rfl) rfl) ((ld_andD x y w b 2 (at_of2 hb2)).mono fun e w' h => ⟨h.1, (H.end' ap e31 d31 (by omega) h.2 (show _ = _ from rfl))⟩))
    · exact wpOp_of e32 (.inr ⟨16, false, o16, 43, g32, e16, d16, H.known hi e32 f32_16 e16 d16⟩) (op_neqV k32 d32 (H.known hi e32 f32_20 e20 d20) (H.known hi e32 f32_31 e31 d31) (H.end' ap e32 d32 (by omega) (Below.refl _ _) (show _ = _ from rfl)))
    · exact wpOp_of e33 (.inl g33) (op_pickF k33 d33 (H.known hi e33 f33_16 e16 d16) (H.known hi e33 f33_32 e32 d32) (H.end' ap e33 d33 (by omega) (Below.refl _ _) (show _ = _ from rfl)))
    · exact wpOp_of e34 (.inl g34) (op_move k34 d34 (H.known hi e34 f34_33 e33 d33) (H.end' ap e34 d34 (by omega) (Below.refl _ _) (show _ = _ from rfl)))
    · exact wpOp_of e35 (.inr ⟨34, false, o34, 61, g35, e34, d34, H.known hi e35 f35_34 e34 d34⟩) (op_move k35 d35 ((H.old 6 (old_of dl 6 (by decide))).trans s6) (H.end' ap e35 d35 (by omega) (Below.refl _ _) (show _ = _ from rfl)))
    · exact wpOp_of e36 (.inr ⟨34, false, o34, 61, g36, e34, d34, H.known hi e36 f36_34 e34 d34⟩) (op_move k36 d36 ((H.old 6 (old_of dl 6 (by decide))).trans s6) (H.end' ap e36 d36 (by omega) (Below.refl _ _) (show _ = _ from rfl)))
    · exact wpOp_of e37 (.inr ⟨34, false, o34, 61, g37, e34, d34, H.known hi e37 f37_34 e34 d34⟩) (op_loadV k37 d37 ((H.old 7 (old_of dl 7 (by decide))).trans s7) (cells w H.below).1 (H.end' ap e37 d37 (by omega) (Below.refl _ _) (show _ = _ from rfl)))
    · exact wpOp_of e38 (.inr ⟨34, false, o34, 61, g38, e34, d34, H.known hi e38 f38_34 e34 d34⟩) (op_slice1 k38 d38 (H.known hi e38 f38_37 e37 d37) (H.end' ap e38 d38 (by omega) ((Below.refl _ _).alloc (Nat.le_refl _) _) ⟨w.heap.size, rfl, heap_alloc_new w _⟩))
    · obtain ⟨b, hb1, hb2⟩ := (H.known hi e39 f39_38 e38 d38)
      exact wpOp_of e39 (.inr ⟨34, false, o34, 61, g39, e34, d34, H.known hi e39 f39_34 e34 d34⟩) (op_call2 k39 d39 (H.known hi e39 f39_36 e36 d36) hb1 (enters_of Tryz.func25 (by kernel_rfl) rfl) ((ld_not (x) w b 1 (at_of1 hb2)).mono fun e w' h => ⟨h.1, (H.end' ap e39 d39 (by omega) h.2 (show _ = _ from rfl))⟩))
    · exact wpOp_of e40 (.inr ⟨34, false, o34, 61, g40, e34, d34, H.known hi e40 f40_34 e34 d34⟩) (op_slice1 k40 d40 (H.known hi e40 f40_39 e39 d39) (H.end' ap e40 d40 (by omega) ((Below.refl _ _).alloc (Nat.le_refl _) _) ⟨w.heap.size, rfl, heap_alloc_new w _⟩))
    · obtain ⟨b, hb1, hb2⟩ := (H.known hi e41 f41_40 e40 d40)
      exact wpOp_of e41 (.inr ⟨34, false, o34, 61, g41, e34, d34, H.known hi e41 f41_34 e34 d34⟩) (op_call2 k41 d41 (H.known hi e41 f41_35 e35 d35) hb1 (enters_of Tryz.func25 (by kernel_rfl) rfl) ((ld_nn x w b 1 (at_of1 hb2)).mono fun e w' h => ⟨h.1, (H.end' ap e41 d41 (by omega) h.2 (show _ = _ from rfl))⟩))
    · exact wpOp_of e42 (.inr ⟨34, false, o34, 61, g42, e34, d34, H.known hi e42 f42_34 e34 d34⟩) (op_loadV k42 d42 ((H.old 7 (old_of dl 7 (by decide))).trans s7) (cells w H.below).1 (H.end' ap e42 d42 (by omega) (Below.refl _ _) (show _ = _ from rfl)))
    · exact wpOp_of e43 (.inr ⟨34, false, o34, 61, g43, e34, d34, H.known hi e43 f43_34 e34 d34⟩) (op_neqV k43 d43 (H.known hi e43 f43_41 e41 d41) (H.known hi e43 f43_42 e42 d42) (H.end' ap e43 d43 (by omega) (Below.refl _ _) (show _ = _ from rfl)))
    · exact wpOp_of e44 (.inl g44) (op_pickF k44 d44 (H.known hi e44 f44_34 e34 d34) (H.known hi e44 f44_43 e43 d43) (H.end' ap e44 d44 (by omega) (Below.refl _ _) (show _ = _ from rfl)))
  case fin =>
    intro a w H
    refine done a w (H.frame.trans hn) H.defers H.below ?_ fun t ht => H.old t ?_
    · exact H.got 44 o44 71 e44 d44 (by rw [size]; rfl)
    · intro i o e hd
      exfalso
      have h9 : [some 27, some 28, some 29, some 30, some 31, some 32, some 33, some 34, some 35, some 36, some 37, some 38, some 39, some 40, some 41, some 42, some 43, some 44, some 45, some 46, some 47, some 48, some 49, some 50, some 51, some 52, some 53, some 54, some 55, some 56, some 57, some 58, some 59, some 60, some 61, some 62, some 63, some 64, some 65, some 66, some 67, some 68, some 69, some 70, some 71][i]? = some (some t) := by rw [← dl, List.getElem?_map, Array.getElem?_toList, e]; simp [hd]
      have hm := List.mem_of_getElem? h9
      simp at hm
      omega

set_option maxRecDepth 100000 in
set_option maxHeartbeats 4000000 in
theorem r4 (x y : Tri) {id : Nat} {ops : Array Oper} {Q : Exit → Act → World → Prop} {a0 : Act} {w0 : World} (b7 b8 : Nat) (size : ops.size = 14) (hn : a0.tmps.size = 127)
    (dl : ops.toList.map (·.dst) = [some 17, some 18, some 19, some 20, some 21, some 22, some 23, some 24, some 25, some 26, some 9, some 10, none, none])
    (dag : ∀ (i : Nat) (o : Oper), ops[i]? = some o → ∀ e : Edge, e ∈ o.after → e.on < i)
    {o0 : Oper} (e0 : ops[0]? = some o0) (k0 : o0.op = .move (.tmp 6)) (g0 : o0.guard = none)
    {o1 : Oper} (e1 : ops[1]? = some o1) (k1 : o1.op = .load 46 (.tmp 7)) (g1 : o1.guard = none)
    {o2 : Oper} (e2 : ops[2]? = some o2) (k2 : o2.op = .load 46 (.tmp 8)) (g2 : o2.guard = none)
    {o3 : Oper} (e3 : ops[3]? = some o3) (k3 : o3.op = .buildSlice 51 2 #[(0, .tmp 18), (1, .tmp 19)]) (g3 : o3.guard = none) (f3_1 : (o3.after.any fun e => e.on == 1 && Region.binds .any e) = true) (f3_2 : (o3.after.any fun e => e.on == 2 && Region.binds .any e) = true)
    {o4 : Oper} (e4 : ops[4]? = some o4) (k4 : o4.op = .call { callee := .value (.tmp 17), args := #[.const (.int .i64 19), .tmp 20], argTypes := #[3, 51] }) (g4 : o4.guard = none) (f4_0 : (o4.after.any fun e => e.on == 0 && Region.binds .any e) = true) (f4_3 : (o4.after.any fun e => e.on == 3 && Region.binds .any e) = true)
    {o5 : Oper} (e5 : ops[5]? = some o5) (k5 : o5.op = .move (.tmp 6)) (g5 : o5.guard = none)
    {o6 : Oper} (e6 : ops[6]? = some o6) (k6 : o6.op = .load 46 (.tmp 7)) (g6 : o6.guard = none)
    {o7 : Oper} (e7 : ops[7]? = some o7) (k7 : o7.op = .load 46 (.tmp 8)) (g7 : o7.guard = none)
    {o8 : Oper} (e8 : ops[8]? = some o8) (k8 : o8.op = .buildSlice 51 2 #[(0, .tmp 23), (1, .tmp 24)]) (g8 : o8.guard = none) (f8_6 : (o8.after.any fun e => e.on == 6 && Region.binds .any e) = true) (f8_7 : (o8.after.any fun e => e.on == 7 && Region.binds .any e) = true)
    {o9 : Oper} (e9 : ops[9]? = some o9) (k9 : o9.op = .call { callee := .value (.tmp 22), args := #[.const (.int .i64 20), .tmp 25], argTypes := #[3, 51] }) (g9 : o9.guard = none) (f9_5 : (o9.after.any fun e => e.on == 5 && Region.binds .any e) = true) (f9_8 : (o9.after.any fun e => e.on == 8 && Region.binds .any e) = true)
    {o10 : Oper} (e10 : ops[10]? = some o10) (k10 : o10.op = .alloc 46) (g10 : o10.guard = none)
    {o11 : Oper} (e11 : ops[11]? = some o11) (k11 : o11.op = .alloc 46) (g11 : o11.guard = none)
    {o12 : Oper} (e12 : ops[12]? = some o12) (k12 : o12.op = .store 46 (.tmp 9) (.tmp 21)) (g12 : o12.guard = none)
    {o13 : Oper} (e13 : ops[13]? = some o13) (k13 : o13.op = .store 46 (.tmp 10) (.tmp 26)) (g13 : o13.guard = none)
    (s6 : slot a0 6 = .func (.func 25) #[] #[])
    (s7 : slot a0 7 = .pointer (some ⟨b7, 0, none⟩))
    (s8 : slot a0 8 = .pointer (some ⟨b8, 0, none⟩))
    (cells : ∀ W, Below w0.heap.size w0 W → Four W b7 (x).k (x).n ∧ Four W b8 (y).k (y).n)
    (l12 : ([0, 1, 2, 3, 4, 9, 10, 11]).all (fun j => o12.after.any fun e => e.on == j && Region.binds .any e) = true)
    (l13 : (List.range 12).all (fun j => o13.after.any fun e => e.on == j && Region.binds .any e) = true)
    (hr1 : Region.ready .any ops (firsts 14 12) = [12]) (hr2 : Region.ready .any ops ((firsts 14 12).setIfInBounds 12 true) = [13]) (hr3 : Region.ready .any ops (((firsts 14 12).setIfInBounds 12 true).setIfInBounds 13 true) = [])
    (done : ∀ a w b9 b10, a.tmps.size = 127 → a.defers = a0.defers → Below w0.heap.size w0 w → slot a 9 = .pointer (some ⟨b9, 0, none⟩) → slot a 10 = .pointer (some ⟨b10, 0, none⟩) → ValRow w b9 (x.and y).k (x.and y).n → ValRow w b10 (x.or y).k (x.or y).n → (∀ t, t < 9 → slot a t = slot a0 t) → Q .normal a w) :
    (Code.region id ops true).wp Tryz.prog Q a0 w0 := by
  have d0 := dst_of dl e0 (d := 17) rfl
  have d1 := dst_of dl e1 (d := 18) rfl
  have d2 := dst_of dl e2 (d := 19) rfl
  have d3 := dst_of dl e3 (d := 20) rfl
  have d4 := dst_of dl e4 (d := 21) rfl
  have d5 := dst_of dl e5 (d := 22) rfl
  have d6 := dst_of dl e6 (d := 23) rfl
  have d7 := dst_of dl e7 (d := 24) rfl
  have d8 := dst_of dl e8 (d := 25) rfl
  have d9 := dst_of dl e9 (d := 26) rfl
  have d10 := dst_of dl e10 (d := 9) rfl
  have d11 := dst_of dl e11 (d := 10) rfl
  have d12 := none_of dl e12 rfl
  have d13 := none_of dl e13 rfl
  have ap : ∀ (i j : Nat) (x y : Oper) (t : Nat), ops[i]? = some x → ops[j]? = some y → x.dst = some t → y.dst = some t → i = j := apart_of dl (by decide)
  refine wp_region_any (by kernel_rfl) (wpAny_head (n1 := 12) (by omega) (Pair2 ops a0 w0 [.c (.func (.func 25) #[] #[]), .c (V (x).k (x).n 0 noS), .c (V (y).k (y).n 0 noS), .s 2 #[.int .i64 (x).k, .int .i64 (x).n, .int .i64 0, .string noS, .int .i64 (y).k, .int .i64 (y).n, .int .i64 0, .string noS], .c (V ((x).and (y)).k ((x).and (y)).n 0 noS), .c (.func (.func 25) #[] #[]), .c (V (x).k (x).n 0 noS), .c (V (y).k (y).n 0 noS), .s 2 #[.int .i64 (x).k, .int .i64 (x).n, .int .i64 0, .string noS, .int .i64 (y).k, .int .i64 (y).n, .int .i64 0, .string noS], .c (V ((x).or (y)).k ((x).or (y)).n 0 noS), .box, .box, .c undef, .c undef]) (fun l a w h => ⟨h.held.size, h.lt⟩) ?late dag ?step ?tail _ _ _ _ ?_ ?_)
  case late =>
    intro listed a w i T hi hle j hj
    have hlt := (mem_ready hi).1
    rw [size] at hlt
    rcases (by omega : i = 12 ∨ i = 13) with rfl | rfl
    · have on := fun j hj => ready_on hi e12 (List.all_eq_true.1 l12 j hj)
      have n9 := on 9 (by decide)
      have n8 := T.cl 9 8 o9 e9 n9 f9_8
      rcases (by omega : j = 0 ∨ j = 1 ∨ j = 2 ∨ j = 3 ∨ j = 4 ∨ j = 5 ∨ j = 6 ∨ j = 7 ∨ j = 8 ∨ j = 9 ∨ j = 10 ∨ j = 11) with rfl | rfl | rfl | rfl | rfl | rfl | rfl | rfl | rfl | rfl | rfl | rfl
      · exact on 0 (by decide)
      · exact on 1 (by decide)
      · exact on 2 (by decide)
      · exact on 3 (by decide)
      · exact on 4 (by decide)
      · exact T.cl 9 5 o9 e9 n9 f9_5
      · exact T.cl 8 6 o8 e8 n8 f8_6
      · exact T.cl 8 7 o8 e8 n8 f8_7
      · exact n8
      · exact n9
      · exact on 10 (by decide)
      · exact on 11 (by decide)
    · exact ready_on hi e13 (List.all_eq_true.1 l13 j (List.mem_range.2 hj))
  case step =>
    intro listed a w i T hi hlt
    have H := T.held
    rcases (by omega : i = 0 ∨ i = 1 ∨ i = 2 ∨ i = 3 ∨ i = 4 ∨ i = 5 ∨ i = 6 ∨ i = 7 ∨ i = 8 ∨ i = 9 ∨ i = 10 ∨ i = 11) with rfl | rfl | rfl | rfl | rfl | rfl | rfl | rfl | rfl | rfl | rfl | rfl
    · exact wpOp_of e0 (.inl g0) (op_move k0 d0 ((H.old 6 (old_of dl 6 (by decide))).trans s6) (T.end' ap e0 d0 (by omega) (Below.refl _ _) (show _ = _ from rfl) (by decide) hi (by decide)))
    · exact wpOp_of e1 (.inl g1) (op_loadV k1 d1 ((H.old 7 (old_of dl 7 (by decide))).trans s7) (cells w H.below).1 (T.end' ap e1 d1 (by omega) (Below.refl _ _) (show _ = _ from rfl) (by decide) hi (by decide)))
    · exact wpOp_of e2 (.inl g2) (op_loadV k2 d2 ((H.old 8 (old_of dl 8 (by decide))).trans s8) (cells w H.below).2 (T.end' ap e2 d2 (by omega) (Below.refl _ _) (show _ = _ from rfl) (by decide) hi (by decide)))
    · exact wpOp_of e3 (.inl g3) (op_slice2 k3 d3 (H.known hi e3 f3_1 e1 d1) (H.known hi e3 f3_2 e2 d2) (T.end' ap e3 d3 (by omega) ((Below.refl _ _).alloc (Nat.le_refl _) _) ⟨w.heap.size, rfl, heap_alloc_new w _⟩ (by decide) hi (by decide)))
    · obtain ⟨b, hb1, hb2⟩ := (H.known hi e4 f4_3 e3 d3)
      exact wpOp_of e4 (.inl g4) (op_call2 k4 d4 (H.known hi e4 f4_0 e0 d0) hb1 (enters_of Tryz.func25 (by kernel_rfl) rfl) ((ld_and (x) (y) w b 2 (at_of2 hb2)).mono fun e w' h => ⟨h.1, (T.end' ap e4 d4 (by omega) h.2 (show _ = _ from rfl) (by decide) hi (by decide))⟩))
    · exact wpOp_of e5 (.inl g5) (op_move k5 d5 ((H.old 6 (old_of dl 6 (by decide))).trans s6) (T.end' ap e5 d5 (by omega) (Below.refl _ _) (show _ = _ from rfl) (by decide) hi (by decide)))
    · exact wpOp_of e6 (.inl g6) (op_loadV k6 d6 ((H.old 7 (old_of dl 7 (by decide))).trans s7) (cells w H.below).1 (T.end' ap e6 d6 (by omega) (Below.refl _ _) (show _ = _ from rfl) (by decide) hi (by decide)))
    · exact wpOp_of e7 (.inl g7) (op_loadV k7 d7 ((H.old 8 (old_of dl 8 (by decide))).trans s8) (cells w H.below).2 (T.end' ap e7 d7 (by omega) (Below.refl _ _) (show _ = _ from rfl) (by decide) hi (by decide)))
    · exact wpOp_of e8 (.inl g8) (op_slice2 k8 d8 (H.known hi e8 f8_6 e6 d6) (H.known hi e8 f8_7 e7 d7) (T.end' ap e8 d8 (by omega) ((Below.refl _ _).alloc (Nat.le_refl _) _) ⟨w.heap.size, rfl, heap_alloc_new w _⟩ (by decide) hi (by decide)))
    · obtain ⟨b, hb1, hb2⟩ := (H.known hi e9 f9_8 e8 d8)
      exact wpOp_of e9 (.inl g9) (op_call2 k9 d9 (H.known hi e9 f9_5 e5 d5) hb1 (enters_of Tryz.func25 (by kernel_rfl) rfl) ((ld_or (x) (y) w b 2 (at_of2 hb2)).mono fun e w' h => ⟨h.1, (T.end' ap e9 d9 (by omega) h.2 (show _ = _ from rfl) (by decide) hi (by decide))⟩))
    · exact wpOp_of e10 (.inl g10) (op_alloc k10 d10 (T.box ap e10 d10 e11 d11 (by omega) (by decide) rfl rfl hi))
    · exact wpOp_of e11 (.inl g11) (op_alloc k11 d11 (T.box ap e11 d11 e10 d10 (by omega) (by decide) rfl rfl hi))
  case tail =>
    intro fuel a w T hf
    rw [size] at T hf ⊢
    obtain ⟨f, rfl⟩ : ∃ f, fuel = f + 2 := ⟨fuel - 2, by omega⟩
    have gt : ∀ j, j < 12 → (firsts 14 12).getD j false = true := fun j hj => by rw [firsts_getD _ _ _ (by decide)]; simpa using hj
    obtain ⟨b9, p9, q9, z9⟩ := T.held.got 10 o10 9 e10 d10 (gt 10 (by decide))
    obtain ⟨b10, p10, q10, z10⟩ := T.held.got 11 o11 10 e11 d11 (gt 11 (by decide))
    have hne : b10 ≠ b9 := fun e => T.df (gt 10 (by decide)) (gt 11 (by decide)) (by rw [p9, p10, e])
    have v21 := T.held.got 4 o4 21 e4 d4 (gt 4 (by decide))
    have v26 := T.held.got 9 o9 26 e9 d9 (gt 9 (by decide))
    have hB := T.held.below
    have hsz := T.held.frame
    have hdf := T.held.defers
    have hold := fun t (ht : t < 9) => T.held.old t (fun i o e hd => by
      exfalso
      have h9 : [some 17, some 18, some 19, some 20, some 21, some 22, some 23, some 24, some 25, some 26, some 9, some 10, none, none][i]? = some (some t) := by rw [← dl, List.getElem?_map, Array.getElem?_toList, e]; simp [hd]
      have hm := List.mem_of_getElem? h9
      simp at hm
      omega)
    refine ⟨fun hr => ?_, fun i hi => ?_⟩
    · rw [hr1] at hr; cases hr
    · rw [hr1] at hi
      obtain rfl : i = 12 := by simpa using hi
      refine wpOp_of e12 (.inl g12) (op_storeV k12 d12 p9 v21 z9 ?_)
      refine ⟨fun hr => ?_, fun i hi => ?_⟩
      · rw [hr2] at hr; cases hr
      · rw [hr2] at hi
        obtain rfl : i = 13 := by simpa using hi
        refine wpOp_of e13 (.inl g13) (op_storeV k13 d13 p10 v26 ((row4_other _ hne _ _ _ _).trans z10) ?_)
        have fin := done a _ b9 b10 (hsz.trans hn) hdf (below4 (below4 hB b9 q9 (.int .i64 (x.and y).k) (.int .i64 (x.and y).n) (.int .i64 0) (.string noS)) b10 q10 (.int .i64 (x.or y).k) (.int .i64 (x.or y).n) (.int .i64 0) (.string noS)) p9 p10 ((row4_other _ (fun e => hne e.symm) _ _ _ _).trans (put4 z9 _ _ _ _)) (put4 ((row4_other _ hne _ _ _ _).trans z10) _ _ _ _) hold
        cases f with
        | zero => exact ⟨hr3, fin⟩
        | succ f => exact ⟨fun _ => fin, fun i hi => by rw [hr3] at hi; cases hi⟩
  · unfold leftOf
    simp
  · have hf : ∀ j, (Array.replicate ops.size false).getD j false = false := by
      intro j
      rw [Array.getD_eq_getD_getElem?, Array.getElem?_replicate]
      split <;> rfl
    exact ⟨⟨by simp, rfl, rfl, Below.drew (Below.refl _ _), fun _ _ => rfl, fun i o t _ _ hl => by rw [hf] at hl; cases hl⟩, fun h _ => (by rw [hf] at h; cases h), fun i _ => hf i, fun i j o _ h => (by rw [hf] at h; cases h)⟩

set_option maxRecDepth 100000 in
set_option maxHeartbeats 4000000 in
theorem r8  {id : Nat} {ops : Array Oper} {Q : Exit → Act → World → Prop} {a0 : Act} {w0 : World} (b9 : Nat) (size : ops.size = 7) (hn : a0.tmps.size = 127)
    (dl : ops.toList.map (·.dst) = [some 79, some 80, some 81, some 82, some 83, some 84, some 4])
    (dag : ∀ (i : Nat) (o : Oper), ops[i]? = some o → ∀ e : Edge, e ∈ o.after → e.on < i)
    {o0 : Oper} (e0 : ops[0]? = some o0) (k0 : o0.op = .load 46 (.tmp 9)) (g0 : o0.guard = none)
    {o1 : Oper} (e1 : ops[1]? = some o1) (k1 : o1.op = .call { callee := .value (.func 23), args := #[.const (.int .i64 0)], argTypes := #[2] }) (g1 : o1.guard = none)
    {o2 : Oper} (e2 : ops[2]? = some o2) (k2 : o2.op = .binOp .eql 46 (.tmp 79) (.tmp 80) 46) (g2 : o2.guard = none) (f2_0 : (o2.after.any fun e => e.on == 0 && Region.binds .any e) = true) (f2_1 : (o2.after.any fun e => e.on == 1 && Region.binds .any e) = true)
    {o3 : Oper} (e3 : ops[3]? = some o3) (k3 : o3.op = .move (.tmp 81)) (g3 : o3.guard = none) (f3_2 : (o3.after.any fun e => e.on == 2 && Region.binds .any e) = true)
    {o4 : Oper} (e4 : ops[4]? = some o4) (k4 : o4.op = .call { callee := .value (.func 6), args := #[], argTypes := #[] }) (g4 : o4.guard = some (3, true)) (f4_3 : (o4.after.any fun e => e.on == 3 && Region.binds .any e) = true)
    {o5 : Oper} (e5 : ops[5]? = some o5) (k5 : o5.op = .pick (.tmp 82) (.tmp 83) (.const (.bool false))) (g5 : o5.guard = none) (f5_3 : (o5.after.any fun e => e.on == 3 && Region.binds .any e) = true) (f5_4 : (o5.after.any fun e => e.on == 4 && Region.binds .any e) = true)
    {o6 : Oper} (e6 : ops[6]? = some o6) (k6 : o6.op = .assign (.tmp 84)) (g6 : o6.guard = none) (f6_5 : (o6.after.any fun e => e.on == 5 && Region.binds .any e) = true)
    (s9 : slot a0 9 = .pointer (some ⟨b9, 0, none⟩))
    (cells : ∀ W, Below w0.heap.size w0 W → Four W b9 (Tri.F).k (Tri.F).n)
    (wk : ∀ W, Below w0.heap.size w0 W → Calls Tryz.prog 6 #[] W fun e w' => e = .returned (.bool true) ∧ Below W.heap.size W w')
    (done : ∀ a w, a.tmps.size = 127 → a.defers = a0.defers → Below w0.heap.size w0 w → slot a 4 = .bool true → Q .normal a w) :
    (Code.region id ops true).wp Tryz.prog Q a0 w0 := by
  have d0 := dst_of dl e0 (d := 79) rfl
  have d1 := dst_of dl e1 (d := 80) rfl
  have d2 := dst_of dl e2 (d := 81) rfl
  have d3 := dst_of dl e3 (d := 82) rfl
  have d4 := dst_of dl e4 (d := 83) rfl
  have d5 := dst_of dl e5 (d := 84) rfl
  have d6 := dst_of dl e6 (d := 4) rfl
  have ap := apart_of dl (by decide)
  refine wp_region_known (L := [.c (V ((.F : Tri)).k ((.F : Tri)).n 0 noS), .c (V ((.F : Tri)).k ((.F : Tri)).n 0 noS), .c (.bool true), .c (.bool true), .c (.bool true), .c (.bool true), .c (.bool true)]) (B := w0.heap.size) (by kernel_rfl) dag ?step ?fin
  case step =>
    intro listed a w i H hi
    have hlt := (mem_ready hi).1
    rw [size] at hlt
    rcases (by omega : i = 0 ∨ i = 1 ∨ i = 2 ∨ i = 3 ∨ i = 4 ∨ i = 5 ∨ i = 6) with rfl | rfl | rfl | rfl | rfl | rfl | rfl
    · exact wpOp_of e0 (.inl g0) (op_loadV k0 d0 ((H.old 9 (old_of dl 9 (by decide))).trans s9) (cells w H.below) (H.end' ap e0 d0 (by omega) (Below.refl _ _) (show _ = _ from rfl)))
    · exact wpOp_of e1 (.inl g1) (op_call1 k1 d1 (enters_of Tryz.func23 (by kernel_rfl) rfl) ((m_truth 0 w).mono fun e w' h => ⟨h.1, (H.end' ap e1 d1 (by omega) h.2 (show _ = _ from rfl))⟩))
    · exact wpOp_of e2 (.inl g2) (op_eqlV k2 d2 (H.known hi e2 f2_0 e0 d0) (H.known hi e2 f2_1 e1 d1) (H.end' ap e2 d2 (by omega) (Below.refl _ _) (show _ = _ from rfl)))
    · exact wpOp_of e3 (.inl g3) (op_move k3 d3 (H.known hi e3 f3_2 e2 d2) (H.end' ap e3 d3 (by omega) (Below.refl _ _) (show _ = _ from rfl)))
    · exact wpOp_of e4 (.inr ⟨3, true, o3, 82, g4, e3, d3, H.known hi e4 f4_3 e3 d3⟩) (op_call0 k4 d4 (enters_of Tryz.func6 (by kernel_rfl) rfl) ((wk w H.below).mono fun e w' h => ⟨h.1, (H.end' ap e4 d4 (by omega) h.2 (show _ = _ from rfl))⟩))
    · exact wpOp_of e5 (.inl g5) (op_pickT k5 d5 (H.known hi e5 f5_3 e3 d3) (H.known hi e5 f5_4 e4 d4) (H.end' ap e5 d5 (by omega) (Below.refl _ _) (show _ = _ from rfl)))
    · exact wpOp_of e6 (.inl g6) (op_assign k6 d6 (H.known hi e6 f6_5 e5 d5) (H.end' ap e6 d6 (by omega) (Below.refl _ _) (show _ = _ from rfl)))
  case fin =>
    intro a w H
    exact done a w (H.frame.trans hn) H.defers H.below (H.got 6 o6 4 e6 d6 (by rw [size]; rfl))

set_option maxRecDepth 100000 in
set_option maxHeartbeats 4000000 in
theorem r10  {id : Nat} {ops : Array Oper} {Q : Exit → Act → World → Prop} {a0 : Act} {w0 : World} (b9 b10 : Nat) (size : ops.size = 12) (hn : a0.tmps.size = 127)
    (dl : ops.toList.map (·.dst) = [some 92, some 93, some 94, some 95, some 96, some 97, some 98, some 99, some 100, some 101, some 102, some 4])
    (dag : ∀ (i : Nat) (o : Oper), ops[i]? = some o → ∀ e : Edge, e ∈ o.after → e.on < i)
    {o0 : Oper} (e0 : ops[0]? = some o0) (k0 : o0.op = .load 46 (.tmp 9)) (g0 : o0.guard = none)
    {o1 : Oper} (e1 : ops[1]? = some o1) (k1 : o1.op = .call { callee := .value (.func 23), args := #[.const (.int .i64 1)], argTypes := #[2] }) (g1 : o1.guard = none)
    {o2 : Oper} (e2 : ops[2]? = some o2) (k2 : o2.op = .binOp .eql 46 (.tmp 92) (.tmp 93) 46) (g2 : o2.guard = none) (f2_0 : (o2.after.any fun e => e.on == 0 && Region.binds .any e) = true) (f2_1 : (o2.after.any fun e => e.on == 1 && Region.binds .any e) = true)
    {o3 : Oper} (e3 : ops[3]? = some o3) (k3 : o3.op = .move (.tmp 94)) (g3 : o3.guard = none) (f3_2 : (o3.after.any fun e => e.on == 2 && Region.binds .any e) = true)
    {o4 : Oper} (e4 : ops[4]? = some o4) (k4 : o4.op = .load 46 (.tmp 10)) (g4 : o4.guard = some (3, true)) (f4_3 : (o4.after.any fun e => e.on == 3 && Region.binds .any e) = true)
    {o5 : Oper} (e5 : ops[5]? = some o5) (k5 : o5.op = .call { callee := .value (.func 23), args := #[.const (.int .i64 1)], argTypes := #[2] }) (g5 : o5.guard = some (3, true)) (f5_3 : (o5.after.any fun e => e.on == 3 && Region.binds .any e) = true)
    {o6 : Oper} (e6 : ops[6]? = some o6) (k6 : o6.op = .binOp .eql 46 (.tmp 96) (.tmp 97) 46) (g6 : o6.guard = some (3, true)) (f6_3 : (o6.after.any fun e => e.on == 3 && Region.binds .any e) = true) (f6_4 : (o6.after.any fun e => e.on == 4 && Region.binds .any e) = true) (f6_5 : (o6.after.any fun e => e.on == 5 && Region.binds .any e) = true)
    {o7 : Oper} (e7 : ops[7]? = some o7) (k7 : o7.op = .pick (.tmp 95) (.tmp 98) (.const (.bool false))) (g7 : o7.guard = none) (f7_3 : (o7.after.any fun e => e.on == 3 && Region.binds .any e) = true) (f7_6 : (o7.after.any fun e => e.on == 6 && Region.binds .any e) = true)
    {o8 : Oper} (e8 : ops[8]? = some o8) (k8 : o8.op = .move (.tmp 99)) (g8 : o8.guard = none) (f8_7 : (o8.after.any fun e => e.on == 7 && Region.binds .any e) = true)
    {o9 : Oper} (e9 : ops[9]? = some o9) (k9 : o9.op = .call { callee := .value (.func 6), args := #[], argTypes := #[] }) (g9 : o9.guard = some (8, true)) (f9_8 : (o9.after.any fun e => e.on == 8 && Region.binds .any e) = true)
    {o10 : Oper} (e10 : ops[10]? = some o10) (k10 : o10.op = .pick (.tmp 100) (.tmp 101) (.const (.bool false))) (g10 : o10.guard = none) (f10_8 : (o10.after.any fun e => e.on == 8 && Region.binds .any e) = true) (f10_9 : (o10.after.any fun e => e.on == 9 && Region.binds .any e) = true)
    {o11 : Oper} (e11 : ops[11]? = some o11) (k11 : o11.op = .assign (.tmp 102)) (g11 : o11.guard = none) (f11_10 : (o11.after.any fun e => e.on == 10 && Region.binds .any e) = true)
    (s9 : slot a0 9 = .pointer (some ⟨b9, 0, none⟩))
    (s10 : slot a0 10 = .pointer (some ⟨b10, 0, none⟩))
    (cells : ∀ W, Below w0.heap.size w0 W → Four W b9 (Tri.T).k (Tri.T).n ∧ Four W b10 (Tri.T).k (Tri.T).n)
    (wk : ∀ W, Below w0.heap.size w0 W → Calls Tryz.prog 6 #[] W fun e w' => e = .returned (.bool true) ∧ Below W.heap.size W w')
    (done : ∀ a w, a.tmps.size = 127 → a.defers = a0.defers → Below w0.heap.size w0 w → slot a 4 = .bool true → Q .normal a w) :
    (Code.region id ops true).wp Tryz.prog Q a0 w0 := by
  have d0 := dst_of dl e0 (d := 92) rfl
  have d1 := dst_of dl e1 (d := 93) rfl
  have d2 := dst_of dl e2 (d := 94) rfl
  have d3 := dst_of dl e3 (d := 95) rfl
  have d4 := dst_of dl e4 (d := 96) rfl
  have d5 := dst_of dl e5 (d := 97) rfl
  have d6 := dst_of dl e6 (d := 98) rfl
  have d7 := dst_of dl e7 (d := 99) rfl
  have d8 := dst_of dl e8 (d := 100) rfl
  have d9 := dst_of dl e9 (d := 101) rfl
  have d10 := dst_of dl e10 (d := 102) rfl
  have d11 := dst_of dl e11 (d := 4) rfl
  have ap := apart_of dl (by decide)
  refine wp_region_known (L := [.c (V ((.T : Tri)).k ((.T : Tri)).n 0 noS), .c (V ((.T : Tri)).k ((.T : Tri)).n 0 noS), .c (.bool true), .c (.bool true), .c (V ((.T : Tri)).k ((.T : Tri)).n 0 noS), .c (V ((.T : Tri)).k ((.T : Tri)).n 0 noS), .c (.bool true), .c (.bool true), .c (.bool true), .c (.bool true), .c (.bool true), .c (.bool true)]) (B := w0.heap.size) (by kernel_rfl) dag ?step ?fin
  case step =>
    intro listed a w i H hi
    have hlt := (mem_ready hi).1
    rw [size] at hlt
    rcases (by omega : i = 0 ∨ i = 1 ∨ i = 2 ∨ i = 3 ∨ i = 4 ∨ i = 5 ∨ i = 6 ∨ i = 7 ∨ i = 8 ∨ i = 9 ∨ i = 10 ∨ i = 11) with rfl | rfl | rfl | rfl | rfl | rfl | rfl | rfl | rfl | rfl | rfl | rfl
    · exact wpOp_of e0 (.inl g0) (op_loadV k0 d0 ((H.old 9 (old_of dl 9 (by decide))).trans s9) (cells w H.below).1 (H.end' ap e0 d0 (by omega) (Below.refl _ _) (show _ = _ from rfl)))
    · exact wpOp_of e1 (.inl g1) (op_call1 k1 d1 (enters_of Tryz.func23 (by kernel_rfl) rfl) ((m_truth 1 w).mono fun e w' h => ⟨h.1, (H.end' ap e1 d1 (by omega) h.2 (show _ = _ from rfl))⟩))
    · exact wpOp_of e2 (.inl g2) (op_eqlV k2 d2 (H.known hi e2 f2_0 e0 d0) (H.known hi e2 f2_1 e1 d1) (H.end' ap e2 d2 (by omega) (Below.refl _ _) (show _ = _ from rfl)))
    · exact wpOp_of e3 (.inl g3) (op_move k3 d3 (H.known hi e3 f3_2 e2 d2) (H.end' ap e3 d3 (by omega) (Below.refl _ _) (show _ = _ from rfl)))
    · exact wpOp_of e4 (.inr ⟨3, true, o3, 95, g4, e3, d3, H.known hi e4 f4_3 e3 d3⟩) (op_loadV k4 d4 ((H.old 10 (old_of dl 10 (by decide))).trans s10) (cells w H.below).2 (H.end' ap e4 d4 (by omega) (Below.refl _ _) (show _ = _ from rfl)))
    · exact wpOp_of e5 (.inr ⟨3, true, o3, 95, g5, e3, d3, H.known hi e5 f5_3 e3 d3⟩) (op_call1 k5 d5 (enters_of Tryz.func23 (by kernel_rfl) rfl) ((m_truth 1 w).mono fun e w' h => ⟨h.1, (H.end' ap e5 d5 (by omega) h.2 (show _ = _ from rfl))⟩))
    · exact wpOp_of e6 (.inr ⟨3, true, o3, 95, g6, e3, d3, H.known hi e6 f6_3 e3 d3⟩) (op_eqlV k6 d6 (H.known hi e6 f6_4 e4 d4) (H.known hi e6 f6_5 e5 d5) (H.end' ap e6 d6 (by omega) (Below.refl _ _) (show _ = _ from rfl)))
    · exact wpOp_of e7 (.inl g7) (op_pickT k7 d7 (H.known hi e7 f7_3 e3 d3) (H.known hi e7 f7_6 e6 d6) (H.end' ap e7 d7 (by omega) (Below.refl _ _) (show _ = _ from rfl)))
    · exact wpOp_of e8 (.inl g8) (op_move k8 d8 (H.known hi e8 f8_7 e7 d7) (H.end' ap e8 d8 (by omega) (Below.refl _ _) (show _ = _ from rfl)))
    · exact wpOp_of e9 (.inr ⟨8, true, o8, 100, g9, e8, d8, H.known hi e9 f9_8 e8 d8⟩) (op_call0 k9 d9 (enters_of Tryz.func6 (by kernel_rfl) rfl) ((wk w H.below).mono fun e w' h => ⟨h.1, (H.end' ap e9 d9 (by omega) h.2 (show _ = _ from rfl))⟩))
    · exact wpOp_of e10 (.inl g10) (op_pickT k10 d10 (H.known hi e10 f10_8 e8 d8) (H.known hi e10 f10_9 e9 d9) (H.end' ap e10 d10 (by omega) (Below.refl _ _) (show _ = _ from rfl)))
    · exact wpOp_of e11 (.inl g11) (op_assign k11 d11 (H.known hi e11 f11_10 e10 d10) (H.end' ap e11 d11 (by omega) (Below.refl _ _) (show _ = _ from rfl)))
  case fin =>
    intro a w H
    exact done a w (H.frame.trans hn) H.defers H.below (H.got 11 o11 4 e11 d11 (by rw [size]; rfl))
end Go.Proofs.YtfkjfeobhbocjaaGreatDoor

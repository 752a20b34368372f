/- A region whose order is open, gone through in whatever order by what is known of each operation's result. -/
import Derived.Orders
import Derived.Below
import Derived.Test.YthppcklegdnjdaaGreatDoorZWk

/- A region whose order is open, gone through in whatever order by what is known of each operation's result. -/
section
namespace Go.Proofs.YthppcklegdnjdaaGreatDoor
open Go Go.RowKit
section
variable {P : Program} {ops : Array Oper} {Q : Exit → Act → World → Prop} {md : Region.Mode}

/-- How many operations are still to come. -/
def leftOf (l : Array Bool) : Nat := (l.toList.filter (!·)).length
theorem leftOf_set (l : Array Bool) (i : Nat) (h : l.getD i true = false) : leftOf (l.setIfInBounds i true) + 1 = leftOf l := by
  have hi : i < l.size := by
    by_cases hi : i < l.size
    · exact hi
    · rw [Array.getD, dif_neg hi] at h; cases h
  have hv : l[i] = false := by rw [Array.getD, dif_pos hi] at h; exact h
  unfold leftOf
  rw [Array.toList_setIfInBounds]
  have key : ∀ (x : List Bool) (k : Nat) (hk : k < x.length), x[k] = false → ((x.set k true).filter (!·)).length + 1 = (x.filter (!·)).length := by
    intro x
    induction x with
    | nil => intro k hk; exact absurd hk (by simp)
    | cons y ys ih =>
      intro k hk hx
      cases k with
      | zero =>
        have : y = false := hx
        subst this
        simp
      | succ k =>
        have := ih k (by simpa using hk) (by simpa using hx)
        cases y <;> simp [List.set_cons_succ] at this ⊢ <;> omega
  exact key l.toList i (by simpa using hi) (by simpa using hv)

theorem mem_ready {listed : Array Bool} {i : Nat} (h : i ∈ Region.ready md ops listed) :
    i < ops.size ∧ listed.getD i true = false ∧ ∀ o, ops[i]? = some o → ∀ e ∈ o.after, Region.binds md e = true → listed.getD e.on false = true := by
  unfold Region.ready at h
  rw [List.mem_filter, List.mem_range] at h
  obtain ⟨h1, h2⟩ := h
  rw [Bool.and_eq_true] at h2
  refine ⟨h1, by simpa using h2.1, fun o ho e he hb => ?_⟩
  have h3 := h2.2
  rw [ho] at h3
  simp only [Option.map_some, Option.getD_some, Array.all_eq_true_iff_forall_mem] at h3
  have := h3 e he
  simpa [hb] using this

theorem wpAny_inv (Inv : Array Bool → Act → World → Prop)
    (step : ∀ listed a w i, Inv listed a w → i ∈ Region.ready md ops listed → wpOp P ops Q i (Inv (listed.setIfInBounds i true)) a w)
    (done : ∀ listed a w, Inv listed a w → Region.ready md ops listed = [] → Q .normal a w) :
    ∀ (fuel : Nat) (listed : Array Bool) (a : Act) (w : World), leftOf listed ≤ fuel → Inv listed a w → wpAny P md ops Q fuel listed a w
  | 0, listed, a, w, hf, hi => by
    have hr : Region.ready md ops listed = [] := by
      cases hr : Region.ready md ops listed with
      | nil => rfl
      | cons i r =>
        obtain ⟨_, h2, _⟩ := mem_ready (md := md) (ops := ops) (listed := listed) (i := i) (by rw [hr]; exact List.mem_cons_self ..)
        have := leftOf_set listed i h2
        omega
    exact ⟨hr, done listed a w hi hr⟩
  | fuel + 1, listed, a, w, hf, hi =>
    ⟨fun hr => done listed a w hi hr, fun i hm => wpOp_mono (fun a' w' h' => wpAny_inv Inv step done fuel _ a' w' (by have := leftOf_set listed i (mem_ready hm).2.1; omega) h') (step listed a w i hi hm)⟩

/-- What is known of a slot. -/
abbrev slot (a : Act) (t : Nat) : Value := a.tmps[t]?.getD undef

/-- Before the region the frame was a0 and the world W0; each operation that is over has left in its slot what T says; all other slots are as they were. -/
structure Held (ops : Array Oper) (a0 : Act) (W0 : World) (T : Nat → Value → World → Prop) (listed : Array Bool) (a : Act) (w : World) : Prop where
  size : listed.size = ops.size
  frame : a.tmps.size = a0.tmps.size
  defers : a.defers = a0.defers
  below : Below W0.heap.size W0 w
  old : ∀ t, (∀ i o, ops[i]? = some o → o.dst = some t → listed.getD i false = false) → slot a t = slot a0 t
  got : ∀ i o t, ops[i]? = some o → o.dst = some t → listed.getD i false = true → T i (slot a t) w

theorem Held.put {a0 : Act} {W0 : World} {T : Nat → Value → World → Prop} {listed : Array Bool} {a : Act} {w w' : World} (h : Held ops a0 W0 T listed a w)
    (stays : ∀ i v x y, T i v x → Below x.heap.size x y → T i v y)
    (apart : ∀ (i j : Nat) (x y : Oper) (t : Nat), ops[i]? = some x → ops[j]? = some y → x.dst = some t → y.dst = some t → i = j)
    {i : Nat} {o : Oper} {d : Nat} {v : Value} (ho : ops[i]? = some o) (hd : o.dst = some d) (hsz : d < a0.tmps.size) (hb : Below w.heap.size w w') (hv : T i v w') :
    Held ops a0 W0 T (listed.setIfInBounds i true) { tmps := a.tmps.setIfInBounds d v, defers := a.defers } w' := by
  have his : i < listed.size := by rw [h.size]; exact (Array.getElem?_eq_some_iff.1 ho).1
  have hget : ∀ j, (listed.setIfInBounds i true).getD j false = if j = i then true else listed.getD j false := by
    intro j
    rw [Array.getD_eq_getD_getElem?, Array.getD_eq_getD_getElem?, Array.getElem?_setIfInBounds]
    by_cases e : i = j
    · subst e; simp [his]
    · rw [if_neg e, if_neg (fun x => e x.symm)]
  have hslot : ∀ t, slot { tmps := a.tmps.setIfInBounds d v, defers := a.defers } t = if t = d then v else slot a t := by
    intro t
    show (a.tmps.setIfInBounds d v)[t]?.getD undef = _
    rw [Array.getElem?_setIfInBounds]
    by_cases e : d = t
    · subst e; rw [if_pos rfl, if_pos (by rw [h.frame]; exact hsz), if_pos rfl]; rfl
    · rw [if_neg e, if_neg (fun x => e x.symm)]
  refine ⟨by simpa using h.size, by simpa using h.frame, h.defers, h.below.trans (hb.mono h.below.size), fun t ht => ?_, fun j x t hj hx hl => ?_⟩
  · have htd : t ≠ d := fun e => by
      subst e
      have := ht i o ho hd
      rw [hget, if_pos rfl] at this
      cases this
    rw [hslot, if_neg htd]
    refine h.old t fun j x hj hx => ?_
    have := ht j x hj hx
    rw [hget] at this
    split at this
    · cases this
    · exact this
  · rw [hslot]
    by_cases e : j = i
    · subst e
      obtain rfl : x = o := Option.some.inj (hj.symm.trans ho)
      obtain rfl : t = d := Option.some.inj (hx.symm.trans hd)
      rw [if_pos rfl]; exact hv
    · have htd : t ≠ d := fun e' => e (apart j i x o t hj ho hx (by rw [hd, e']))
      rw [if_neg htd]
      rw [hget, if_neg e] at hl
      exact stays _ _ _ _ (h.got j x t hj hx hl) hb
end
end Go.Proofs.YthppcklegdnjdaaGreatDoor
end

/- The operations of a region, one by one: what each leaves in its slot. -/
section
namespace Go.Proofs.YthppcklegdnjdaaGreatDoor
open Go Go.RowKit Go.Deep
section
variable {ops : Array Oper} {Q : Exit → Act → World → Prop} {K : Act → World → Prop} {a : Act} {w : World}
abbrev putSlot (a : Act) (d : Nat) (v : Value) : Act := { tmps := a.tmps.setIfInBounds d v, defers := a.defers }

theorem wpOp_of {P : Program} {i : Nat} {o : Oper} (ho : ops[i]? = some o) (hg : o.guard = none ∨ ∃ g b x t, o.guard = some (g, b) ∧ ops[g]? = some x ∧ x.dst = some t ∧ slot a t = .bool b) (h : o.wp P a w K Q) : wpOp P ops Q i K a w := by
  unfold wpOp
  rw [ho]
  have hw : Region.wanted o (yielded ops a.tmps) = true := by
    rcases hg with hg | ⟨g, b, x, t, hg, hx, ht, hs⟩
    · simp [Region.wanted, hg]
    · have hs' : a.tmps[t]?.getD undef = .bool b := hs
      have h9 : a.tmps[t]? = some (.bool b) := by
        cases h9 : a.tmps[t]? with
        | none => rw [h9] at hs'; cases hs'
        | some v => rw [h9] at hs'; exact congrArg some hs'
      simp [Region.wanted, hg, yielded, hx, ht, h9]
  simp only [hw, if_true]
  exact .inl h

theorem op_move {o : Oper} {d t : Nat} {v : Value} (ho : o.op = .move (.tmp t)) (hd : o.dst = some d) (hs : slot a t = v) (h : K (putSlot a d v) w) : o.wp Tryz.prog a w K Q := by
  obtain ⟨op, dst, ty, pos, after, guard⟩ := o
  dsimp only at ho hd
  subst ho hd
  have hs' : a.tmps[t]?.getD undef = v := hs
  unfold Oper.wp
  go_simp
  exact h
theorem op_assign {o : Oper} {d t : Nat} {v : Value} (ho : o.op = .assign (.tmp t)) (hd : o.dst = some d) (hs : slot a t = v) (h : K (putSlot a d v) w) : o.wp Tryz.prog a w K Q := by
  obtain ⟨op, dst, ty, pos, after, guard⟩ := o
  dsimp only at ho hd
  subst ho hd
  have hs' : a.tmps[t]?.getD undef = v := hs
  unfold Oper.wp
  go_simp
  exact h
theorem op_loadV {o : Oper} {d t b : Nat} {k n dd : Int} {s : ByteArray} (ho : o.op = .load 24 (.tmp t)) (hd : o.dst = some d) (hs : slot a t = .pointer (some ⟨b, 0, none⟩))
    (hc : w.cell? ⟨b, 0, none⟩ = some (.int .i64 k) ∧ w.cell? ⟨b, 1, none⟩ = some (.int .i64 n) ∧ w.cell? ⟨b, 2, none⟩ = some (.int .i64 dd) ∧ w.cell? ⟨b, 3, none⟩ = some (.string s)) (h : K (putSlot a d (V k n dd s)) w) : o.wp Tryz.prog a w K Q := by
  obtain ⟨op, dst, ty, pos, after, guard⟩ := o
  dsimp only at ho hd
  subst ho hd
  have hs' : a.tmps[t]?.getD undef = .pointer (some ⟨b, 0, none⟩) := hs
  obtain ⟨c0, c1, c2, c3⟩ := hc
  unfold Oper.wp
  go_simp
  exact h
theorem op_slice1 {o : Oper} {d t : Nat} {k n dd : Int} {s : ByteArray} (ho : o.op = .buildSlice 44 1 #[(0, .tmp t)]) (hd : o.dst = some d) (hs : slot a t = V k n dd s)
    (h : K (putSlot a d (.slice (some ⟨w.heap.size, 0, none⟩) 1 1)) (w.alloc (.cells #[.int .i64 k, .int .i64 n, .int .i64 dd, .string s] 24))) : o.wp Tryz.prog a w K Q := by
  obtain ⟨op, dst, ty, pos, after, guard⟩ := o
  dsimp only at ho hd
  subst ho hd
  have hs' : a.tmps[t]?.getD undef = V k n dd s := hs
  unfold Oper.wp
  go_simp
  exact h
theorem op_slice2 {o : Oper} {d t t' : Nat} {k n dd : Int} {s : ByteArray} {k' n' dd' : Int} {s' : ByteArray} (ho : o.op = .buildSlice 44 2 #[(0, .tmp t), (1, .tmp t')]) (hd : o.dst = some d) (hs : slot a t = V k n dd s) (hs2 : slot a t' = V k' n' dd' s')
    (h : K (putSlot a d (.slice (some ⟨w.heap.size, 0, none⟩) 2 2)) (w.alloc (.cells #[.int .i64 k, .int .i64 n, .int .i64 dd, .string s, .int .i64 k', .int .i64 n', .int .i64 dd', .string s'] 24))) : o.wp Tryz.prog a w K Q := by
  obtain ⟨op, dst, ty, pos, after, guard⟩ := o
  dsimp only at ho hd
  subst ho hd
  have hs' : a.tmps[t]?.getD undef = V k n dd s := hs
  have hs2' : a.tmps[t']?.getD undef = V k' n' dd' s' := hs2
  unfold Oper.wp
  go_simp
  exact h
theorem op_alloc {o : Oper} {d : Nat} (ho : o.op = .alloc 24) (hd : o.dst = some d)
    (h : K (putSlot a d (.pointer (some ⟨w.heap.size, 0, none⟩))) (w.alloc (.cells #[.int .i64 0, .int .i64 0, .int .i64 0, .string ⟨#[]⟩] 24))) : o.wp Tryz.prog a w K Q := by
  obtain ⟨op, dst, ty, pos, after, guard⟩ := o
  dsimp only at ho hd
  subst ho hd
  unfold Oper.wp
  go_simp
  exact h
theorem op_neqV {o : Oper} {d t t' : Nat} {k n : Int} (ho : o.op = .binOp .neq 24 (.tmp t) (.tmp t') 24) (hd : o.dst = some d) (hs : slot a t = V k n 0 noS) (hs2 : slot a t' = V k n 0 noS)
    (h : K (putSlot a d (.bool false)) w) : o.wp Tryz.prog a w K Q := by
  obtain ⟨op, dst, ty, pos, after, guard⟩ := o
  dsimp only at ho hd
  subst ho hd
  have hs' : a.tmps[t]?.getD undef = V k n 0 noS := hs
  have hs2' : a.tmps[t']?.getD undef = V k n 0 noS := hs2
  unfold Oper.wp
  go_simp
  exact h
theorem op_eqlV {o : Oper} {d t t' : Nat} {k n : Int} (ho : o.op = .binOp .eql 24 (.tmp t) (.tmp t') 24) (hd : o.dst = some d) (hs : slot a t = V k n 0 noS) (hs2 : slot a t' = V k n 0 noS)
    (h : K (putSlot a d (.bool true)) w) : o.wp Tryz.prog a w K Q := by
  obtain ⟨op, dst, ty, pos, after, guard⟩ := o
  dsimp only at ho hd
  subst ho hd
  have hs' : a.tmps[t]?.getD undef = V k n 0 noS := hs
  have hs2' : a.tmps[t']?.getD undef = V k n 0 noS := hs2
  unfold Oper.wp
  go_simp
  exact h
theorem op_pickF {o : Oper} {d t t' : Nat} {v : Value} (ho : o.op = .pick (.tmp t) (.const (.bool true)) (.tmp t')) (hd : o.dst = some d) (hs : slot a t = .bool false) (hs2 : slot a t' = v)
    (h : K (putSlot a d v) w) : o.wp Tryz.prog a w K Q := by
  obtain ⟨op, dst, ty, pos, after, guard⟩ := o
  dsimp only at ho hd
  subst ho hd
  have hs' : a.tmps[t]?.getD undef = .bool false := hs
  have hs2' : a.tmps[t']?.getD undef = v := hs2
  unfold Oper.wp
  go_simp
  exact h
theorem op_pickT {o : Oper} {d t t' : Nat} {v : Value} (ho : o.op = .pick (.tmp t) (.tmp t') (.const (.bool false))) (hd : o.dst = some d) (hs : slot a t = .bool true) (hs2 : slot a t' = v)
    (h : K (putSlot a d v) w) : o.wp Tryz.prog a w K Q := by
  obtain ⟨op, dst, ty, pos, after, guard⟩ := o
  dsimp only at ho hd
  subst ho hd
  have hs' : a.tmps[t]?.getD undef = .bool true := hs
  have hs2' : a.tmps[t']?.getD undef = v := hs2
  unfold Oper.wp
  go_simp
  exact h
end
end Go.Proofs.YthppcklegdnjdaaGreatDoor
end

/- A region whose order is open: each operation's result known, whatever the order. -/
section
namespace Go.Proofs.YthppcklegdnjdaaGreatDoor
open Go Go.RowKit Go.Deep

/-- What an operation leaves: this value; a slice of a new block with these cells; or a new value's box. -/
inductive Desc
  | c (v : Value)
  | s (n : Nat) (cells : Array Value)
  | box
def Desc.holds (B : Nat) : Desc → Value → World → Prop
  | .c x, v, _ => v = x
  | .s n cells, v, w => ∃ b, v = .slice (some ⟨b, 0, none⟩) n n ∧ w.heap[b]? = some (.cells cells 24 (0, 0))
  | .box, v, w => ∃ b, v = .pointer (some ⟨b, 0, none⟩) ∧ B ≤ b ∧ w.heap[b]? = some (.cells #[.int .i64 0, .int .i64 0, .int .i64 0, .string ⟨#[]⟩] 24 (0, 0))
theorem Desc.stays {B : Nat} (x : Desc) (v : Value) (w w' : World) (h : x.holds B v w) (hb : Below w.heap.size w w') : x.holds B v w' := by
  cases x with
  | c y => exact h
  | s n cells =>
    obtain ⟨b, h1, h2⟩ := h
    exact ⟨b, h1, (hb.block b (Array.getElem?_eq_some_iff.1 h2).1).trans h2⟩
  | box =>
    obtain ⟨b, h1, h3, h2⟩ := h
    exact ⟨b, h1, h3, (hb.block b (Array.getElem?_eq_some_iff.1 h2).1).trans h2⟩
def Kn (B : Nat) (L : List Desc) (i : Nat) (v : Value) (w : World) : Prop := (L.getD i (.c undef)).holds B v w

section
variable {ops : Array Oper} {Q : Exit → Act → World → Prop}

theorem apart_of {l : List (Option Nat)} (h : ops.toList.map (·.dst) = l) (hn : (List.range l.length).all (fun i => (List.range l.length).all fun j => i == j || l[i]? != l[j]? || l[i]? == some none) = true) :
    ∀ (i j : Nat) (x y : Oper) (t : Nat), ops[i]? = some x → ops[j]? = some y → x.dst = some t → y.dst = some t → i = j := by
  intro i j x y t hi hj hx hy
  have li : l[i]? = some (some t) := by rw [← h, List.getElem?_map, Array.getElem?_toList, hi]; simp [hx]
  have lj : l[j]? = some (some t) := by rw [← h, List.getElem?_map, Array.getElem?_toList, hj]; simp [hy]
  have a1 := List.all_eq_true.1 hn i (List.mem_range.2 (List.getElem?_eq_some_iff.1 li).1)
  have a2 := List.all_eq_true.1 a1 j (List.mem_range.2 (List.getElem?_eq_some_iff.1 lj).1)
  rw [li, lj] at a2
  simpa using a2

theorem all_listed {listed : Array Bool} (hs : listed.size = ops.size) (dag : ∀ (i : Nat) (o : Oper), ops[i]? = some o → ∀ e : Edge, e ∈ o.after → e.on < i) (hr : Region.ready .any ops listed = []) : ∀ i, i < ops.size → listed.getD i false = true := by
  intro i
  induction i using Nat.strongRecOn with
  | _ i ih =>
    intro hi
    cases hl : listed.getD i false with
    | true => rfl
    | false =>
      exfalso
      have hmem : i ∈ Region.ready .any ops listed := by
        unfold Region.ready
        rw [List.mem_filter, List.mem_range]
        refine ⟨hi, ?_⟩
        have h1 : listed.getD i true = false := by
          rw [Array.getD, dif_pos (by omega)] at hl ⊢
          exact hl
        rw [h1, Array.getElem?_eq_getElem hi]
        simp only [Bool.not_false, Bool.true_and, Option.map_some, Option.getD_some, Array.all_eq_true_iff_forall_mem]
        intro e he
        have := ih e.on (dag i _ (Array.getElem?_eq_getElem hi) e he) (by have := dag i _ (Array.getElem?_eq_getElem hi) e he; omega)
        rw [this]; simp
      rw [hr] at hmem
      cases hmem

theorem wp_region_known {id : Nat} {a0 : Act} {w0 : World} {L : List Desc} {B : Nat} {P : Program} (hm : P.follows .mixedOrders = true)
    (dag : ∀ (i : Nat) (o : Oper), ops[i]? = some o → ∀ e : Edge, e ∈ o.after → e.on < i)
    (step : ∀ listed a w i, Held ops a0 w0 (Kn B L) listed a w → i ∈ Region.ready .any ops listed → wpOp P ops Q i (Held ops a0 w0 (Kn B L) (listed.setIfInBounds i true)) a w)
    (done : ∀ a w, Held ops a0 w0 (Kn B L) (Array.replicate ops.size true) a w → Q .normal a w) : (Code.region id ops true).wp P Q a0 w0 := by
  refine wp_region_any hm (wpAny_inv (Held ops a0 w0 (Kn B L)) step ?_ _ _ _ _ ?_ ?_)
  · intro listed a w h hr
    have hall := all_listed h.size dag hr
    have e : listed = Array.replicate ops.size true := by
      apply Array.ext
      · simp [h.size]
      · intro i h1 h2
        have := hall i (by rw [← h.size]; exact h1)
        rw [Array.getD, dif_pos h1] at this
        simpa using this
    rw [e] at h
    exact done a w h
  · unfold leftOf
    simp
  · have hf : ∀ j, (Array.replicate ops.size false).getD j false = false := by
      intro j
      rw [Array.getD_eq_getD_getElem?, Array.getElem?_replicate]
      split <;> rfl
    exact ⟨by simp, rfl, rfl, Below.drew (Below.refl _ _), fun _ _ => rfl, fun i o t _ _ hl => by rw [hf] at hl; cases hl⟩

theorem least_ready {listed : Array Bool} (dag : ∀ (i : Nat) (o : Oper), ops[i]? = some o → ∀ e : Edge, e ∈ o.after → e.on < i) (hs : listed.size = ops.size) {j : Nat} (hj : j < ops.size) (hl : listed.getD j false = false) : ∃ i, i ≤ j ∧ i ∈ Region.ready .any ops listed := by
  induction j using Nat.strongRecOn with
  | _ j ih =>
    by_cases h : ∃ k, k < j ∧ listed.getD k false = false
    · obtain ⟨k, hk, hkl⟩ := h
      obtain ⟨i, h1, h2⟩ := ih k hk (by omega) hkl
      exact ⟨i, by omega, h2⟩
    · refine ⟨j, Nat.le_refl _, ?_⟩
      unfold Region.ready
      rw [List.mem_filter, List.mem_range]
      refine ⟨hj, ?_⟩
      have h1 : listed.getD j true = false := by
        rw [Array.getD, dif_pos (by omega)] at hl ⊢
        exact hl
      rw [h1, Array.getElem?_eq_getElem hj]
      simp only [Bool.not_false, Bool.true_and, Option.map_some, Option.getD_some, Array.all_eq_true_iff_forall_mem]
      intro e he
      have hlt := dag j _ (Array.getElem?_eq_getElem hj) e he
      cases hv : listed.getD e.on false with
      | true => simp
      | false => exact absurd ⟨e.on, hlt, hv⟩ h

/-- The first n1 operations are over, the others are to come. -/
def firsts (n n1 : Nat) : Array Bool := Array.replicate n1 true ++ Array.replicate (n - n1) false
theorem firsts_getD (n n1 j : Nat) (_h : n1 ≤ n) : (firsts n n1).getD j false = decide (j < n1) := by
  unfold firsts
  rw [Array.getD_eq_getD_getElem?, Array.getElem?_append]
  by_cases hj : j < n1
  · rw [if_pos (by simpa using hj), Array.getElem?_replicate, if_pos hj]; simp [hj]
  · rw [if_neg (by simpa using hj), Array.getElem?_replicate]
    simp only [Array.size_replicate]
    split <;> simp [hj]
theorem firsts_size (n n1 : Nat) (h : n1 ≤ n) : (firsts n n1).size = n := by simp [firsts]; omega
theorem eq_firsts {listed : Array Bool} {n1 : Nat} (hn : n1 ≤ ops.size) (hs : listed.size = ops.size) (h1 : ∀ j, j < n1 → listed.getD j false = true) (h2 : ∀ i, n1 ≤ i → listed.getD i false = false) : listed = firsts ops.size n1 := by
  apply Array.ext
  · rw [firsts_size _ _ hn, hs]
  · intro i hi hi'
    have e1 : listed.getD i false = listed[i] := by rw [Array.getD, dif_pos hi]; rfl
    have e2 : (firsts ops.size n1).getD i false = (firsts ops.size n1)[i] := by rw [Array.getD, dif_pos hi']; rfl
    rw [← e1, ← e2, firsts_getD _ _ _ hn]
    by_cases hlt : i < n1
    · rw [h1 i hlt]; simp [hlt]
    · rw [h2 i (by omega)]; simp [hlt]
theorem leftOf_firsts (n n1 : Nat) (_h : n1 ≤ n) : leftOf (firsts n n1) = n - n1 := by
  unfold leftOf firsts
  simp [List.filter_append]
theorem wpAny_head {P : Program} {n1 : Nat} (hn1 : n1 ≤ ops.size) (Inv : Array Bool → Act → World → Prop)
    (form : ∀ listed a w, Inv listed a w → listed.size = ops.size ∧ ∀ i, n1 ≤ i → listed.getD i false = false)
    (late : ∀ listed a w i, Inv listed a w → i ∈ Region.ready .any ops listed → n1 ≤ i → ∀ j, j < n1 → listed.getD j false = true)
    (dag : ∀ (i : Nat) (o : Oper), ops[i]? = some o → ∀ e : Edge, e ∈ o.after → e.on < i)
    (step : ∀ listed a w i, Inv listed a w → i ∈ Region.ready .any ops listed → i < n1 → wpOp P ops Q i (Inv (listed.setIfInBounds i true)) a w)
    (tail : ∀ fuel a w, Inv (firsts ops.size n1) a w → ops.size - n1 ≤ fuel → wpAny P .any ops Q fuel (firsts ops.size n1) a w) :
    ∀ (fuel : Nat) (listed : Array Bool) (a : Act) (w : World), leftOf listed ≤ fuel → Inv listed a w → wpAny P .any ops Q fuel listed a w := by
  intro fuel
  induction fuel with
  | zero =>
    intro listed a w hf hi
    obtain ⟨hs, hl⟩ := form listed a w hi
    by_cases hall : ∀ j, j < n1 → listed.getD j false = true
    · have e := eq_firsts hn1 hs hall hl
      subst e
      exact tail 0 a w hi (by have := leftOf_firsts ops.size n1 hn1; omega)
    · exfalso
      obtain ⟨j, hj⟩ := Classical.not_forall.1 hall
      obtain ⟨hj1, hj2⟩ := Classical.not_imp.1 hj
      have := leftOf_set listed j (by rw [Array.getD, dif_pos (by omega)] at hj2 ⊢; simpa using hj2)
      omega
  | succ fuel ih =>
    intro listed a w hf hi
    obtain ⟨hs, hl⟩ := form listed a w hi
    by_cases hall : ∀ j, j < n1 → listed.getD j false = true
    · have e := eq_firsts hn1 hs hall hl
      subst e
      exact tail (fuel + 1) a w hi (by have := leftOf_firsts ops.size n1 hn1; omega)
    · obtain ⟨j, hj⟩ := Classical.not_forall.1 hall
      obtain ⟨hj1, hj2⟩ := Classical.not_imp.1 hj
      have hj3 : listed.getD j false = false := by simpa using hj2
      refine ⟨fun hr => ?_, fun i hm => ?_⟩
      · obtain ⟨i, _, hi2⟩ := least_ready dag hs (by omega) hj3
        rw [hr] at hi2
        cases hi2
      · have hr := mem_ready hm
        have hin : i < n1 := by
          by_cases hin : i < n1
          · exact hin
          · exfalso
            have := late listed a w i hi hm (by omega) j hj1
            rw [hj3] at this
            cases this
        exact wpOp_mono (fun a' w' h' => ih _ a' w' (by have := leftOf_set listed i hr.2.1; omega) h') (step listed a w i hi hm hin)

theorem ready_on {listed : Array Bool} {i j : Nat} {o : Oper} (hr : i ∈ Region.ready .any ops listed) (ho : ops[i]? = some o) (ha : (o.after.any fun e => e.on == j && Region.binds .any e) = true) : listed.getD j false = true := by
  rw [Array.any_eq_true] at ha
  obtain ⟨k, hk, hk2⟩ := ha
  rw [Bool.and_eq_true] at hk2
  have := (mem_ready hr).2.2 o ho o.after[k] (Array.getElem_mem hk) hk2.2
  rwa [show o.after[k].on = j by simpa using hk2.1] at this
/-- What an operation that comes after another one knows of its result. -/
theorem Held.known {a0 : Act} {W0 : World} {L : List Desc} {B : Nat} {listed : Array Bool} {a : Act} {w : World} (h : Held ops a0 W0 (Kn B L) listed a w) {i : Nat} (hr : i ∈ Region.ready .any ops listed)
    {o x : Oper} {j t : Nat} (ho : ops[i]? = some o) (ha : (o.after.any fun e => e.on == j && Region.binds .any e) = true) (hj : ops[j]? = some x) (hx : x.dst = some t) : Kn B L j (slot a t) w := by
  rw [Array.any_eq_true] at ha
  obtain ⟨k, hk, hk2⟩ := ha
  rw [Bool.and_eq_true] at hk2
  have := (mem_ready hr).2.2 o ho o.after[k] (Array.getElem_mem hk) hk2.2
  rw [show o.after[k].on = j by simpa using hk2.1] at this
  exact h.got j x t hj hx this

/-- The operation is over: it has left in its slot what was said. -/
theorem Held.end' {a0 : Act} {W0 : World} {L : List Desc} {B : Nat} {listed : Array Bool} {a : Act} {w w' : World} (h : Held ops a0 W0 (Kn B L) listed a w)
    (apart : ∀ (i j : Nat) (x y : Oper) (t : Nat), ops[i]? = some x → ops[j]? = some y → x.dst = some t → y.dst = some t → i = j)
    {i : Nat} {o : Oper} {d : Nat} {v : Value} (ho : ops[i]? = some o) (hd : o.dst = some d) (hsz : d < a0.tmps.size) (hb : Below w.heap.size w w') (hv : Kn B L i v w') :
    Held ops a0 W0 (Kn B L) (listed.setIfInBounds i true) (putSlot a d v) w' :=
  h.put (fun _ v x y hx hb => Desc.stays _ v x y hx hb) apart ho hd hsz hb hv

variable {K : Act → World → Prop} {a : Act} {w : World}
theorem op_call2 {o : Oper} {d f t g : Nat} {c s v : Value} {tys : Array TypeId} (ho : o.op = .call { callee := .value (.tmp f), args := #[.const c, .tmp t], argTypes := tys }) (hd : o.dst = some d) (hf : slot a f = .func (.func g) #[] #[]) (hs : slot a t = s)
    (he : ∀ args w, (callFunc g args).run Tryz.prog w = .ok (.enter g args) w) (h : Calls Tryz.prog g #[c, s] w fun e w' => e = .returned v ∧ K (putSlot a d v) w') : o.wp Tryz.prog a w K Q := by
  obtain ⟨op, dst, ty, pos, after, guard⟩ := o
  dsimp only at ho hd
  subst ho hd
  have hf' : a.tmps[f]?.getD undef = .func (.func g) #[] #[] := hf
  have hs' : a.tmps[t]?.getD undef = s := hs
  have he' := he #[c, s] w
  unfold Oper.wp
  go_simp
  exact h.mono fun e w' ⟨h1, h2⟩ => by subst h1; exact h2
theorem op_call1 {o : Oper} {d g : Nat} {c v : Value} {tys : Array TypeId} (ho : o.op = .call { callee := .value (.func g), args := #[.const c], argTypes := tys }) (hd : o.dst = some d)
    (he : ∀ args w, (callFunc g args).run Tryz.prog w = .ok (.enter g args) w) (h : Calls Tryz.prog g #[c] w fun e w' => e = .returned v ∧ K (putSlot a d v) w') : o.wp Tryz.prog a w K Q := by
  obtain ⟨op, dst, ty, pos, after, guard⟩ := o
  dsimp only at ho hd
  subst ho hd
  have he' := he #[c] w
  unfold Oper.wp
  go_simp
  exact h.mono fun e w' ⟨h1, h2⟩ => by subst h1; exact h2
theorem op_call0 {o : Oper} {d g : Nat} {v : Value} {tys : Array TypeId} (ho : o.op = .call { callee := .value (.func g), args := #[], argTypes := tys }) (hd : o.dst = some d)
    (he : ∀ args w, (callFunc g args).run Tryz.prog w = .ok (.enter g args) w) (h : Calls Tryz.prog g #[] w fun e w' => e = .returned v ∧ K (putSlot a d v) w') : o.wp Tryz.prog a w K Q := by
  obtain ⟨op, dst, ty, pos, after, guard⟩ := o
  dsimp only at ho hd
  subst ho hd
  have he' := he #[] w
  unfold Oper.wp
  go_simp
  exact h.mono fun e w' ⟨h1, h2⟩ => by subst h1; exact h2
end
end Go.Proofs.YthppcklegdnjdaaGreatDoor
end

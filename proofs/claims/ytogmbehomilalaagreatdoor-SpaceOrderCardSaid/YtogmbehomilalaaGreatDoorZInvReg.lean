/- The type of a sum of a whole number and a rational one. -/
import Derived.Test.YtogmbehomilalaaGreatDoorZDo
import Derived.Test.YtogmbehomilalaaGreatDoorZSeem
import Derived.Test.YtogmbehomilalaaGreatDoorZRegInv
import Derived.KernelRfl
import Derived.ArgAppend
import Derived.Shelf.Abstract

/- The type of a sum of a whole number and a rational one. -/
section
namespace Go.Proofs.YtogmbehomilalaaGreatDoor
open Go.RowKit Go.Deep

end Go.Proofs.YtogmbehomilalaaGreatDoor
end

/- The numbers of the chapter's examples. -/
section
namespace Go.Proofs.YtogmbehomilalaaGreatDoor
open Go.RowKit Go.Deep

end Go.Proofs.YtogmbehomilalaaGreatDoor
end

/- The operations of a region, one by one: what each leaves in its slot. -/
section
namespace Go.Proofs.YtogmbehomilalaaGreatDoor
open Go Go.RowKit Go.Deep
section
variable {ops : Array Oper} {Q : Exit → Act → World → Prop} {K : Act → World → Prop} {a : Act} {w : World}
abbrev putSlot (a : Act) (d : Nat) (v : Value) : Act := { tmps := a.tmps.setIfInBounds d v, defers := a.defers }

theorem wpOp_of {P : Program} {i : Nat} {o : Oper} (ho : ops[i]? = some o) (hg : o.guard = none ∨ ∃ g b x t, o.guard = some (g, b) ∧ ops[g]? = some x ∧ x.dst = some t ∧ slot a t = .bool b) (h : o.wp P a w K Q) : wpOp P ops Q i K a w := by
  unfold wpOp
  rw [ho]
  have hw : Region.wanted o (yielded ops a.tmps) = true := by
    rcases hg with hg | ⟨g, b, x, t, hg, hx, ht, hs⟩
    · simp [Region.wanted, hg]
    · have hs' : a.tmps[t]?.getD undef = .bool b := hs
      have h9 : a.tmps[t]? = some (.bool b) := by
        cases h9 : a.tmps[t]? with
        | none => rw [h9] at hs'; cases hs'
        | some v => rw [h9] at hs'; exact congrArg some hs'
      simp [Region.wanted, hg, yielded, hx, ht, h9]
  simp only [hw, if_true]
  exact .inl h

theorem op_move {o : Oper} {d t : Nat} {v : Value} (ho : o.op = .move (.tmp t)) (hd : o.dst = some d) (hs : slot a t = v) (h : K (putSlot a d v) w) : o.wp Tryz.prog a w K Q := by
  obtain ⟨op, dst, ty, pos, after, guard⟩ := o
  dsimp only at ho hd
  subst ho hd
  have hs' : a.tmps[t]?.getD undef = v := hs
  unfold Oper.wp
  go_simp
  exact h
theorem op_assign {o : Oper} {d t : Nat} {v : Value} (ho : o.op = .assign (.tmp t)) (hd : o.dst = some d) (hs : slot a t = v) (h : K (putSlot a d v) w) : o.wp Tryz.prog a w K Q := by
  obtain ⟨op, dst, ty, pos, after, guard⟩ := o
  dsimp only at ho hd
  subst ho hd
  have hs' : a.tmps[t]?.getD undef = v := hs
  unfold Oper.wp
  go_simp
  exact h
theorem op_loadV {o : Oper} {d t b : Nat} {k n dd : Int} {s : ByteArray} (ho : o.op = .load 40 (.tmp t)) (hd : o.dst = some d) (hs : slot a t = .pointer (some ⟨b, 0, none⟩))
    (hc : w.cell? ⟨b, 0, none⟩ = some (.int .i64 k) ∧ w.cell? ⟨b, 1, none⟩ = some (.int .i64 n) ∧ w.cell? ⟨b, 2, none⟩ = some (.int .i64 dd) ∧ w.cell? ⟨b, 3, none⟩ = some (.string s)) (h : K (putSlot a d (V k n dd s)) w) : o.wp Tryz.prog a w K Q := by
  obtain ⟨op, dst, ty, pos, after, guard⟩ := o
  dsimp only at ho hd
  subst ho hd
  have hs' : a.tmps[t]?.getD undef = .pointer (some ⟨b, 0, none⟩) := hs
  obtain ⟨c0, c1, c2, c3⟩ := hc
  unfold Oper.wp
  go_simp
  exact h
theorem op_pickT {o : Oper} {d t t' : Nat} {v : Value} (ho : o.op = .pick (.tmp t) (.tmp t') (.const (.bool false))) (hd : o.dst = some d) (hs : slot a t = .bool true) (hs2 : slot a t' = v)
    (h : K (putSlot a d v) w) : o.wp Tryz.prog a w K Q := by
  obtain ⟨op, dst, ty, pos, after, guard⟩ := o
  dsimp only at ho hd
  subst ho hd
  have hs' : a.tmps[t]?.getD undef = .bool true := hs
  have hs2' : a.tmps[t']?.getD undef = v := hs2
  unfold Oper.wp
  go_simp
  exact h
end
end Go.Proofs.YtogmbehomilalaaGreatDoor
end

/- A region whose order is open: each operation's result known, whatever the order. -/
section
namespace Go.Proofs.YtogmbehomilalaaGreatDoor
open Go Go.RowKit Go.Deep

/-- What an operation leaves: this value; a slice of a new block with these cells; or a new value's box. -/
inductive Desc
  | c (v : Value)
  | s (n : Nat) (cells : Array Value)
  | box
def Desc.holds (B : Nat) : Desc → Value → World → Prop
  | .c x, v, _ => v = x
  | .s n cells, v, w => ∃ b, v = .slice (some ⟨b, 0, none⟩) n n ∧ w.heap[b]? = some (.cells cells 40 (0, 0))
  | .box, v, w => ∃ b, v = .pointer (some ⟨b, 0, none⟩) ∧ B ≤ b ∧ w.heap[b]? = some (.cells #[.int .i64 0, .int .i64 0, .int .i64 0, .string ⟨#[]⟩] 40 (0, 0))
theorem Desc.stays {B : Nat} (x : Desc) (v : Value) (w w' : World) (h : x.holds B v w) (hb : Below w.heap.size w w') : x.holds B v w' := by
  cases x with
  | c y => exact h
  | s n cells =>
    obtain ⟨b, h1, h2⟩ := h
    exact ⟨b, h1, (hb.block b (Array.getElem?_eq_some_iff.1 h2).1).trans h2⟩
  | box =>
    obtain ⟨b, h1, h3, h2⟩ := h
    exact ⟨b, h1, h3, (hb.block b (Array.getElem?_eq_some_iff.1 h2).1).trans h2⟩
def Kn (B : Nat) (L : List Desc) (i : Nat) (v : Value) (w : World) : Prop := (L.getD i (.c undef)).holds B v w

section
variable {ops : Array Oper} {Q : Exit → Act → World → Prop}

theorem apart_of {l : List (Option Nat)} (h : ops.toList.map (·.dst) = l) (hn : (List.range l.length).all (fun i => (List.range l.length).all fun j => i == j || l[i]? != l[j]? || l[i]? == some none) = true) :
    ∀ (i j : Nat) (x y : Oper) (t : Nat), ops[i]? = some x → ops[j]? = some y → x.dst = some t → y.dst = some t → i = j := by
  intro i j x y t hi hj hx hy
  have li : l[i]? = some (some t) := by rw [← h, List.getElem?_map, Array.getElem?_toList, hi]; simp [hx]
  have lj : l[j]? = some (some t) := by rw [← h, List.getElem?_map, Array.getElem?_toList, hj]; simp [hy]
  have a1 := List.all_eq_true.1 hn i (List.mem_range.2 (List.getElem?_eq_some_iff.1 li).1)
  have a2 := List.all_eq_true.1 a1 j (List.mem_range.2 (List.getElem?_eq_some_iff.1 lj).1)
  rw [li, lj] at a2
  simpa using a2

theorem all_listed {listed : Array Bool} (hs : listed.size = ops.size) (dag : ∀ (i : Nat) (o : Oper), ops[i]? = some o → ∀ e : Edge, e ∈ o.after → e.on < i) (hr : Region.ready .any ops listed = []) : ∀ i, i < ops.size → listed.getD i false = true := by
  intro i
  induction i using Nat.strongRecOn with
  | _ i ih =>
    intro hi
    cases hl : listed.getD i false with
    | true => rfl
    | false =>
      exfalso
      have hmem : i ∈ Region.ready .any ops listed := by
        unfold Region.ready
        rw [List.mem_filter, List.mem_range]
        refine ⟨hi, ?_⟩
        have h1 : listed.getD i true = false := by
          rw [Array.getD, dif_pos (by omega)] at hl ⊢
          exact hl
        rw [h1, Array.getElem?_eq_getElem hi]
        simp only [Bool.not_false, Bool.true_and, Option.map_some, Option.getD_some, Array.all_eq_true_iff_forall_mem]
        intro e he
        have := ih e.on (dag i _ (Array.getElem?_eq_getElem hi) e he) (by have := dag i _ (Array.getElem?_eq_getElem hi) e he; omega)
        rw [this]; simp
      rw [hr] at hmem
      cases hmem

theorem ready_on {listed : Array Bool} {i j : Nat} {o : Oper} (hr : i ∈ Region.ready .any ops listed) (ho : ops[i]? = some o) (ha : (o.after.any fun e => e.on == j && Region.binds .any e) = true) : listed.getD j false = true := by
  rw [Array.any_eq_true] at ha
  obtain ⟨k, hk, hk2⟩ := ha
  rw [Bool.and_eq_true] at hk2
  have := (mem_ready hr).2.2 o ho o.after[k] (Array.getElem_mem hk) hk2.2
  rwa [show o.after[k].on = j by simpa using hk2.1] at this
/-- What an operation that comes after another one knows of its result. -/
theorem Held.known {a0 : Act} {W0 : World} {L : List Desc} {B : Nat} {listed : Array Bool} {a : Act} {w : World} (h : Held ops a0 W0 (Kn B L) listed a w) {i : Nat} (hr : i ∈ Region.ready .any ops listed)
    {o x : Oper} {j t : Nat} (ho : ops[i]? = some o) (ha : (o.after.any fun e => e.on == j && Region.binds .any e) = true) (hj : ops[j]? = some x) (hx : x.dst = some t) : Kn B L j (slot a t) w := by
  rw [Array.any_eq_true] at ha
  obtain ⟨k, hk, hk2⟩ := ha
  rw [Bool.and_eq_true] at hk2
  have := (mem_ready hr).2.2 o ho o.after[k] (Array.getElem_mem hk) hk2.2
  rw [show o.after[k].on = j by simpa using hk2.1] at this
  exact h.got j x t hj hx this

variable {K : Act → World → Prop} {a : Act} {w : World}
end
end Go.Proofs.YtogmbehomilalaaGreatDoor
end

/- A list with one more element; what the program says of a pointer's type. -/
section
namespace Go.Proofs.YtogmbehomilalaaGreatDoor
open Go Go.RowKit Go.Deep

/-- A list with one more element. -/
def ext {α : Type} (f : Nat → α) (k : Nat) (x : α) : Nat → α := fun j => if j = k then x else f j
end Go.Proofs.YtogmbehomilalaaGreatDoor
end

/- A region whose order is open, by any description of what each operation leaves in its slot. -/
section
namespace Go.Proofs.YtogmbehomilalaaGreatDoor
open Go Go.RowKit Go.Deep Go.Shelf

theorem dst_of' {ops : Array Oper} {l : List (Option Nat)} (h : ops.toList.map (·.dst) = l) {i d : Nat} {o : Oper} (e : ops[i]? = some o) (hl : l[i]? = some (some d)) : o.dst = some d := by
  rw [← h, List.getElem?_map, Array.getElem?_toList, e] at hl
  simpa using hl
theorem old_of' {ops : Array Oper} {l : List (Option Nat)} (h : ops.toList.map (·.dst) = l) (t : Nat) (ht : l.contains (some t) = false) {listed : Array Bool} : ∀ i o, ops[i]? = some o → o.dst = some t → listed.getD i false = false := by
  intro i o e hd
  exfalso
  have : l[i]? = some (some t) := by rw [← h, List.getElem?_map, Array.getElem?_toList, e]; simp [hd]
  have hm := List.mem_of_getElem? this
  rw [← List.elem_iff] at hm
  rw [show l.elem (some t) = l.contains (some t) from rfl, ht] at hm
  cases hm

/-- What holds of a value goes on holding while memory grows. -/
def Mono (p : Value → World → Prop) : Prop := ∀ v x y, p v x → Below x.heap.size x y → p v y
/-- The descriptions, by the operations' numbers. -/
def TL (L : List (Value → World → Prop)) (i : Nat) : Value → World → Prop := L.getD i fun _ _ => True
theorem TL.stays {L : List (Value → World → Prop)} (h : ∀ p ∈ L, Mono p) : ∀ i v x y, TL L i v x → Below x.heap.size x y → TL L i v y := by
  intro i v x y hv hb
  unfold TL at hv ⊢
  rw [List.getD_eq_getElem?_getD] at hv ⊢
  cases hi : L[i]? with
  | none => trivial
  | some p =>
    rw [hi] at hv
    exact h p (List.mem_of_getElem? hi) v x y hv hb

section
variable {ops : Array Oper} {Q : Exit → Act → World → Prop}
theorem wp_region_T {id : Nat} {a0 : Act} {w0 : World} {T : Nat → Value → World → Prop} {P : Program} (hm : P.follows .mixedOrders = true)
    (dag : ∀ (i : Nat) (o : Oper), ops[i]? = some o → ∀ e : Edge, e ∈ o.after → e.on < i)
    (step : ∀ listed a w i, Held ops a0 w0 T listed a w → i ∈ Region.ready .any ops listed → wpOp P ops Q i (Held ops a0 w0 T (listed.setIfInBounds i true)) a w)
    (done : ∀ a w, Held ops a0 w0 T (Array.replicate ops.size true) a w → Q .normal a w) : (Code.region id ops true).wp P Q a0 w0 := by
  refine wp_region_any hm (wpAny_inv (Held ops a0 w0 T) step ?_ _ _ _ _ ?_ ?_)
  · intro listed a w h hr
    have hall := all_listed h.size dag hr
    have e : listed = Array.replicate ops.size true := by
      apply Array.ext
      · simp [h.size]
      · intro i h1 h2
        have := hall i (by rw [← h.size]; exact h1)
        rw [Array.getD, dif_pos h1] at this
        simpa using this
    rw [e] at h
    exact done a w h
  · unfold leftOf
    simp
  · have hf : ∀ j, (Array.replicate ops.size false).getD j false = false := by
      intro j
      rw [Array.getD_eq_getD_getElem?, Array.getElem?_replicate]
      split <;> rfl
    exact ⟨by simp, rfl, rfl, Below.drew (Below.refl _ _), fun _ _ => rfl, fun i o t _ _ hl => by rw [hf] at hl; cases hl⟩

variable {a0 : Act} {W0 : World} {L : List (Value → World → Prop)} {listed : Array Bool} {a : Act} {w w' : World}
/-- What an operation that comes after another one knows of its result. -/
theorem Held.got' (h : Held ops a0 W0 (TL L) listed a w) {i : Nat} (hr : i ∈ Region.ready .any ops listed)
    {o x : Oper} {j t : Nat} (ho : ops[i]? = some o) (ha : (o.after.any fun e => e.on == j && Region.binds .any e) = true) (hj : ops[j]? = some x) (hx : x.dst = some t) : TL L j (slot a t) w :=
  h.got j x t hj hx (ready_on hr ho ha)
theorem Held.over (h : Held ops a0 W0 (TL L) listed a w) (mono : ∀ p ∈ L, Mono p)
    (apart : ∀ (i j : Nat) (x y : Oper) (t : Nat), ops[i]? = some x → ops[j]? = some y → x.dst = some t → y.dst = some t → i = j)
    {i : Nat} {o : Oper} {d : Nat} {v : Value} (ho : ops[i]? = some o) (hd : o.dst = some d) (hsz : d < a0.tmps.size) (hb : Below w.heap.size w w') (hv : TL L i v w') :
    Held ops a0 W0 (TL L) (listed.setIfInBounds i true) (putSlot a d v) w' :=
  h.put (TL.stays mono) apart ho hd hsz hb hv

/-! The operations. -/
variable {K : Act → World → Prop}
theorem op_T1 {o : Oper} {d t g : Nat} {s : Value} {tys : Array TypeId} (ho : o.op = .call { callee := .value (.func g), args := #[.tmp t], argTypes := tys }) (hd : o.dst = some d) (hs : slot a t = s)
    (he : ∀ args w, (callFunc g args).run Tryz.prog w = .ok (.enter g args) w) (h : Calls Tryz.prog g #[s] w fun e w' => ∃ v, e = .returned v ∧ K (putSlot a d v) w') : o.wp Tryz.prog a w K Q := by
  obtain ⟨op, dst, ty, pos, after, guard⟩ := o
  dsimp only at ho hd
  subst ho hd
  have hs' : a.tmps[t]?.getD undef = s := hs
  have he' := he #[s] w
  unfold Oper.wp
  go_simp
  exact h.mono fun e w' ⟨v, h1, h2⟩ => by subst h1; exact h2
end
end Go.Proofs.YtogmbehomilalaaGreatDoor
end

/- The operations of a region whose order is open: values of cells, their fields, comparisons, and what a guard leaves out. -/
section
namespace Go.Proofs.YtogmbehomilalaaGreatDoor
open Go Go.RowKit Go.Deep Go.Shelf

/-- The value that is said, where the guards hold. -/
def isG (g : Bool) (p : Value → World → Prop) : Value → World → Prop := fun v w => g = true → p v w
theorem isG_mono (g : Bool) {p : Value → World → Prop} (h : Mono p) : Mono (isG g p) := fun v x y hv hb hg => h v x y (hv hg) hb
def isW (x : Value) : Value → World → Prop := fun v _ => v = x
theorem isW_mono (x : Value) : Mono (isW x) := fun _ _ _ h _ => h
/-- The four fields of a value at a place. -/
def Val4 (w : World) (b o : Nat) (k n d : Int) (s : ByteArray) : Prop := w.cell? ⟨b, o, none⟩ = some (.int .i64 k) ∧ w.cell? ⟨b, o + 1, none⟩ = some (.int .i64 n) ∧ w.cell? ⟨b, o + 2, none⟩ = some (.int .i64 d) ∧ w.cell? ⟨b, o + 3, none⟩ = some (.string s)

section
variable {ops : Array Oper} {Q : Exit → Act → World → Prop} {K : Act → World → Prop} {a : Act} {w : World}
/-- An operation that its guard leaves out. -/
theorem wpOp_skip {P : Program} {i g d : Nat} {o x : Oper} {b b' : Bool} {t : Nat} (ho : ops[i]? = some o) (hg : o.guard = some (g, b)) (hx : ops[g]? = some x) (ht : x.dst = some t) (hs : slot a t = .bool b') (hne : b' ≠ b) (hd : o.dst = some d) (h : K (putSlot a d undef) w) : wpOp P ops Q i K a w := by
  unfold wpOp
  rw [ho]
  have hw : Region.wanted o (yielded ops a.tmps) = false := by
    have hs' : a.tmps[t]?.getD undef = .bool b' := hs
    have h9 : a.tmps[t]? = some (.bool b') := by
      cases h9 : a.tmps[t]? with
      | none => rw [h9] at hs'; cases hs'
      | some v => rw [h9] at hs'; exact congrArg some hs'
    simp [Region.wanted, hg, yielded, hx, ht, h9]
    exact hne
  simp only [hw, Bool.false_eq_true, if_false]
  rw [hd]
  exact h
theorem op_mv {o : Oper} {d t : Nat} (ho : o.op = .move (.tmp t)) (hd : o.dst = some d) (h : K (putSlot a d (slot a t)) w) : o.wp Tryz.prog a w K Q := op_move ho hd rfl h
theorem op_as {o : Oper} {d t : Nat} (ho : o.op = .assign (.tmp t)) (hd : o.dst = some d) (h : K (putSlot a d (slot a t)) w) : o.wp Tryz.prog a w K Q := op_assign ho hd rfl h
set_option maxRecDepth 20000 in
theorem op_fa {o : Oper} {d t b f : Nat} (hf : f < 4) (ho : o.op = .fieldAddr 40 (.tmp t) f) (hd : o.dst = some d) (hs : slot a t = .pointer (some ⟨b, 0, none⟩)) (h : K (putSlot a d (.pointer (some ⟨b, f, none⟩))) w) : o.wp Tryz.prog a w K Q := by
  obtain ⟨op, dst, ty, pos, after, guard⟩ := o
  dsimp only at ho hd
  subst ho hd
  have hs' : a.tmps[t]?.getD undef = .pointer (some ⟨b, 0, none⟩) := hs
  unfold Oper.wp
  rcases (by omega : f = 0 ∨ f = 1 ∨ f = 2 ∨ f = 3) with rfl | rfl | rfl | rfl <;> (go_simp; exact h)
theorem op_lv {o : Oper} {d t b : Nat} {k n dd : Int} {s : ByteArray} (ho : o.op = .load 40 (.tmp t)) (hd : o.dst = some d) (hs : slot a t = .pointer (some ⟨b, 0, none⟩))
    (hc : Val4 w b 0 k n dd s) (h : K (putSlot a d (V k n dd s)) w) : o.wp Tryz.prog a w K Q := op_loadV ho hd hs hc h
theorem op_li {o : Oper} {d t b f : Nat} {v : Value} {ty : TypeId} (hty : ty = 2 ∨ ty = 3 ∨ ty = 9 ∨ ty = 4) (ho : o.op = .load ty (.tmp t)) (hd : o.dst = some d) (hs : slot a t = .pointer (some ⟨b, f, none⟩))
    (hc : w.cell? ⟨b, f, none⟩ = some v) (h : K (putSlot a d v) w) : o.wp Tryz.prog a w K Q := by
  obtain ⟨op, dst, ty', pos, after, guard⟩ := o
  dsimp only at ho hd
  subst ho hd
  have hs' : a.tmps[t]?.getD undef = .pointer (some ⟨b, f, none⟩) := hs
  unfold Oper.wp
  rcases hty with rfl | rfl | rfl | rfl <;> (go_simp; exact h)
theorem op_pk {o : Oper} {d t t' : Nat} {e x : Bool} (ho : o.op = .pick (.tmp t) (.tmp t') (.const (.bool false))) (hd : o.dst = some d) (hs : slot a t = .bool e) (hs2 : e = true → slot a t' = .bool x)
    (h : K (putSlot a d (.bool (e && x))) w) : o.wp Tryz.prog a w K Q := by
  cases e with
  | true => exact op_pickT ho hd hs (hs2 rfl) h
  | false =>
    obtain ⟨op, dst, ty, pos, after, guard⟩ := o
    dsimp only at ho hd
    subst ho hd
    have hs' : a.tmps[t]?.getD undef = .bool false := hs
    unfold Oper.wp
    go_simp
    exact h
theorem op_geq {o : Oper} {d t : Nat} {x c : Int} {ty : TypeId} (hty : ty = 2 ∨ ty = 3) (ho : o.op = .binOp .geq ty (.tmp t) (.const (.int .i64 c)) ty) (hd : o.dst = some d) (hs : slot a t = .int .i64 x)
    (h : K (putSlot a d (.bool (decide (c ≤ x)))) w) : o.wp Tryz.prog a w K Q := by
  obtain ⟨op, dst, ty', pos, after, guard⟩ := o
  dsimp only at ho hd
  subst ho hd
  have hs' : a.tmps[t]?.getD undef = .int .i64 x := hs
  unfold Oper.wp
  rcases hty with rfl | rfl <;> (go_simp; exact h)
theorem op_leq {o : Oper} {d t : Nat} {x c : Int} {ty : TypeId} (hty : ty = 2 ∨ ty = 3) (ho : o.op = .binOp .leq ty (.tmp t) (.const (.int .i64 c)) ty) (hd : o.dst = some d) (hs : slot a t = .int .i64 x)
    (h : K (putSlot a d (.bool (decide (x ≤ c)))) w) : o.wp Tryz.prog a w K Q := by
  obtain ⟨op, dst, ty', pos, after, guard⟩ := o
  dsimp only at ho hd
  subst ho hd
  have hs' : a.tmps[t]?.getD undef = .int .i64 x := hs
  unfold Oper.wp
  rcases hty with rfl | rfl <;> (go_simp; exact h)
theorem op_eqI {o : Oper} {d t : Nat} {x c : Int} {ty : TypeId} (hty : ty = 2 ∨ ty = 3) (ho : o.op = .binOp .eql ty (.tmp t) (.const (.int .i64 c)) ty) (hd : o.dst = some d) (hs : slot a t = .int .i64 x)
    (h : K (putSlot a d (.bool (x == c))) w) : o.wp Tryz.prog a w K Q := by
  obtain ⟨op, dst, ty', pos, after, guard⟩ := o
  dsimp only at ho hd
  subst ho hd
  have hs' : a.tmps[t]?.getD undef = .int .i64 x := hs
  unfold Oper.wp
  rcases hty with rfl | rfl <;> (go_simp; exact h)
theorem op_eqV {o : Oper} {d t t' : Nat} {k n dd k' n' dd' : Int} {s s' : ByteArray} (ho : o.op = .binOp .eql 40 (.tmp t) (.tmp t') 40) (hd : o.dst = some d) (hs : slot a t = V k n dd s) (hs2 : slot a t' = V k' n' dd' s')
    (h : K (putSlot a d (.bool (k == k' && n == n' && dd == dd' && s.toList == s'.toList))) w) : o.wp Tryz.prog a w K Q := by
  obtain ⟨op, dst, ty, pos, after, guard⟩ := o
  dsimp only at ho hd
  subst ho hd
  have hs' : a.tmps[t]?.getD undef = V k n dd s := hs
  have hs2' : a.tmps[t']?.getD undef = V k' n' dd' s' := hs2
  unfold Oper.wp
  go_simp
  by_cases h1 : k = k'
  · rw [if_pos h1]
    by_cases h2 : n = n'
    · rw [if_pos h2]
      by_cases h3 : dd = dd'
      · rw [if_pos h3]
        by_cases h4 : s.toList = s'.toList
        · rw [if_pos h4]
          rw [show (k == k' && n == n' && dd == dd' && s.toList == s'.toList) = true by simp [h1, h2, h3, h4]] at h
          exact h
        · rw [if_neg h4]
          rw [show (k == k' && n == n' && dd == dd' && s.toList == s'.toList) = false by simp [h4]] at h
          exact h
      · rw [if_neg h3]
        rw [show (k == k' && n == n' && dd == dd' && s.toList == s'.toList) = false by simp [h3]] at h
        exact h
    · rw [if_neg h2]
      rw [show (k == k' && n == n' && dd == dd' && s.toList == s'.toList) = false by simp [h2]] at h
      exact h
  · rw [if_neg h1]
    rw [show (k == k' && n == n' && dd == dd' && s.toList == s'.toList) = false by simp [h1]] at h
    exact h
end
theorem dag_ofG {ops : Array Oper} (h : (List.range ops.size).all (fun i => (ops[i]?).all fun o => o.after.all fun e => decide (e.on < i)) = true) : ∀ (i : Nat) (o : Oper), ops[i]? = some o → ∀ e : Edge, e ∈ o.after → e.on < i := by
  intro i o ho e he
  have h1 := List.all_eq_true.1 h i (List.mem_range.2 (Array.getElem?_eq_some_iff.1 ho).1)
  rw [ho] at h1
  simp only [Option.all_some, Array.all_eq_true_iff_forall_mem] at h1
  simpa using h1 e he
end Go.Proofs.YtogmbehomilalaaGreatDoor
end

/- validValue, whatever the value: its regions. -/
section
namespace Go.Proofs.YtogmbehomilalaaGreatDoor
open Go Go.RowKit Go.Deep Go.Shelf

set_option maxRecDepth 100000 in
set_option maxHeartbeats 4000000 in
theorem rv_missing (b : Nat) (n d : Int) (s : ByteArray) {id : Nat} {ops : Array Oper} {Q : Exit → Act → World → Prop} {a0 : Act} {w0 : World} {nt : Nat} (size : ops.size = 16) (hn : a0.tmps.size = nt) (hnt : 21 < nt)
    (dl : ops.toList.map (·.dst) = [some 7, some 8, some 9, some 10, some 11, some 12, some 13, some 14, some 15, some 16, some 17, some 18, some 19, some 20, some 21, some 2]) (dag : ∀ (i : Nat) (o : Oper), ops[i]? = some o → ∀ e : Edge, e ∈ o.after → e.on < i)
    {o0 : Oper} (e0 : ops[0]? = some o0) (k0 : o0.op = .load 40 (.tmp 1)) (g0 : o0.guard = none)
    {o1 : Oper} (e1 : ops[1]? = some o1) (k1 : o1.op = .fieldAddr 40 (.tmp 1) 1) (g1 : o1.guard = none)
    {o2 : Oper} (e2 : ops[2]? = some o2) (k2 : o2.op = .load 2 (.tmp 8)) (g2 : o2.guard = none) (f2_1 : (o2.after.any fun e => e.on == 1 && Region.binds .any e) = true)
    {o3 : Oper} (e3 : ops[3]? = some o3) (k3 : o3.op = .call { callee := .value (.func 138), args := #[.tmp 9], argTypes := #[2] }) (g3 : o3.guard = none) (f3_2 : (o3.after.any fun e => e.on == 2 && Region.binds .any e) = true)
    {o4 : Oper} (e4 : ops[4]? = some o4) (k4 : o4.op = .binOp .eql 40 (.tmp 7) (.tmp 10) 40) (g4 : o4.guard = none) (f4_0 : (o4.after.any fun e => e.on == 0 && Region.binds .any e) = true) (f4_3 : (o4.after.any fun e => e.on == 3 && Region.binds .any e) = true)
    {o5 : Oper} (e5 : ops[5]? = some o5) (k5 : o5.op = .move (.tmp 11)) (g5 : o5.guard = none) (f5_4 : (o5.after.any fun e => e.on == 4 && Region.binds .any e) = true)
    {o6 : Oper} (e6 : ops[6]? = some o6) (k6 : o6.op = .fieldAddr 40 (.tmp 1) 1) (g6 : o6.guard = some (5, true)) (f6_5 : (o6.after.any fun e => e.on == 5 && Region.binds .any e) = true)
    {o7 : Oper} (e7 : ops[7]? = some o7) (k7 : o7.op = .load 2 (.tmp 13)) (g7 : o7.guard = some (5, true)) (f7_5 : (o7.after.any fun e => e.on == 5 && Region.binds .any e) = true) (f7_6 : (o7.after.any fun e => e.on == 6 && Region.binds .any e) = true)
    {o8 : Oper} (e8 : ops[8]? = some o8) (k8 : o8.op = .binOp .geq 2 (.tmp 14) (.const (.int .i64 1)) 2) (g8 : o8.guard = some (5, true)) (f8_5 : (o8.after.any fun e => e.on == 5 && Region.binds .any e) = true) (f8_7 : (o8.after.any fun e => e.on == 7 && Region.binds .any e) = true)
    {o9 : Oper} (e9 : ops[9]? = some o9) (k9 : o9.op = .pick (.tmp 12) (.tmp 15) (.const (.bool false))) (g9 : o9.guard = none) (f9_5 : (o9.after.any fun e => e.on == 5 && Region.binds .any e) = true) (f9_8 : (o9.after.any fun e => e.on == 8 && Region.binds .any e) = true)
    {o10 : Oper} (e10 : ops[10]? = some o10) (k10 : o10.op = .move (.tmp 16)) (g10 : o10.guard = none) (f10_9 : (o10.after.any fun e => e.on == 9 && Region.binds .any e) = true)
    {o11 : Oper} (e11 : ops[11]? = some o11) (k11 : o11.op = .fieldAddr 40 (.tmp 1) 1) (g11 : o11.guard = some (10, true)) (f11_10 : (o11.after.any fun e => e.on == 10 && Region.binds .any e) = true)
    {o12 : Oper} (e12 : ops[12]? = some o12) (k12 : o12.op = .load 2 (.tmp 18)) (g12 : o12.guard = some (10, true)) (f12_10 : (o12.after.any fun e => e.on == 10 && Region.binds .any e) = true) (f12_11 : (o12.after.any fun e => e.on == 11 && Region.binds .any e) = true)
    {o13 : Oper} (e13 : ops[13]? = some o13) (k13 : o13.op = .binOp .leq 2 (.tmp 19) (.const (.int .i64 255)) 2) (g13 : o13.guard = some (10, true)) (f13_10 : (o13.after.any fun e => e.on == 10 && Region.binds .any e) = true) (f13_12 : (o13.after.any fun e => e.on == 12 && Region.binds .any e) = true)
    {o14 : Oper} (e14 : ops[14]? = some o14) (k14 : o14.op = .pick (.tmp 17) (.tmp 20) (.const (.bool false))) (g14 : o14.guard = none) (f14_10 : (o14.after.any fun e => e.on == 10 && Region.binds .any e) = true) (f14_13 : (o14.after.any fun e => e.on == 13 && Region.binds .any e) = true)
    {o15 : Oper} (e15 : ops[15]? = some o15) (k15 : o15.op = .assign (.tmp 21)) (g15 : o15.guard = none) (f15_14 : (o15.after.any fun e => e.on == 14 && Region.binds .any e) = true)
    (s1 : slot a0 1 = .pointer (some ⟨b, 0, none⟩))
    (hc_b : ∀ W, Below w0.heap.size w0 W → Val4 W b 0 0 n d s)
    (C3 : ∀ W, Below w0.heap.size w0 W → Calls Tryz.prog 138 #[.int .i64 n] W fun e w' => e = .returned (V 0 n 0 noS) ∧ Below W.heap.size W w')
    (done : ∀ a w, a.tmps.size = nt → a.defers = a0.defers → Below w0.heap.size w0 w → slot a 2 = .bool ((((0 : Int) == 0 && (n : Int) == n && (d : Int) == 0 && ByteArray.toList s == ByteArray.toList noS) && (decide (1 ≤ n))) && (decide (n ≤ 255))) → Q .normal a w) :
    (Code.region id ops true).wp Tryz.prog Q a0 w0 := by
  have d0 := dst_of' dl e0 (d := 7) rfl
  have d1 := dst_of' dl e1 (d := 8) rfl
  have d2 := dst_of' dl e2 (d := 9) rfl
  have d3 := dst_of' dl e3 (d := 10) rfl
  have d4 := dst_of' dl e4 (d := 11) rfl
  have d5 := dst_of' dl e5 (d := 12) rfl
  have d6 := dst_of' dl e6 (d := 13) rfl
  have d7 := dst_of' dl e7 (d := 14) rfl
  have d8 := dst_of' dl e8 (d := 15) rfl
  have d9 := dst_of' dl e9 (d := 16) rfl
  have d10 := dst_of' dl e10 (d := 17) rfl
  have d11 := dst_of' dl e11 (d := 18) rfl
  have d12 := dst_of' dl e12 (d := 19) rfl
  have d13 := dst_of' dl e13 (d := 20) rfl
  have d14 := dst_of' dl e14 (d := 21) rfl
  have d15 := dst_of' dl e15 (d := 2) rfl
  have ap : ∀ (i j : Nat) (x y : Oper) (t : Nat), ops[i]? = some x → ops[j]? = some y → x.dst = some t → y.dst = some t → i = j := apart_of dl (by decide)
  have mono : ∀ p ∈ [isW (V 0 n d s), isW (.pointer (some ⟨b, 1, none⟩)), isW (.int .i64 n), isW (V 0 n 0 noS), isW (.bool ((0 : Int) == 0 && (n : Int) == n && (d : Int) == 0 && ByteArray.toList s == ByteArray.toList noS)), isW (.bool ((0 : Int) == 0 && (n : Int) == n && (d : Int) == 0 && ByteArray.toList s == ByteArray.toList noS)), isG ((0 : Int) == 0 && (n : Int) == n && (d : Int) == 0 && ByteArray.toList s == ByteArray.toList noS) (isW (.pointer (some ⟨b, 1, none⟩))), isG ((0 : Int) == 0 && (n : Int) == n && (d : Int) == 0 && ByteArray.toList s == ByteArray.toList noS) (isW (.int .i64 n)), isG ((0 : Int) == 0 && (n : Int) == n && (d : Int) == 0 && ByteArray.toList s == ByteArray.toList noS) (isW (.bool (decide (1 ≤ n)))), isW (.bool (((0 : Int) == 0 && (n : Int) == n && (d : Int) == 0 && ByteArray.toList s == ByteArray.toList noS) && (decide (1 ≤ n)))), isW (.bool (((0 : Int) == 0 && (n : Int) == n && (d : Int) == 0 && ByteArray.toList s == ByteArray.toList noS) && (decide (1 ≤ n)))), isG (((0 : Int) == 0 && (n : Int) == n && (d : Int) == 0 && ByteArray.toList s == ByteArray.toList noS) && (decide (1 ≤ n))) (isW (.pointer (some ⟨b, 1, none⟩))), isG (((0 : Int) == 0 && (n : Int) == n && (d : Int) == 0 && ByteArray.toList s == ByteArray.toList noS) && (decide (1 ≤ n))) (isW (.int .i64 n)), isG (((0 : Int) == 0 && (n : Int) == n && (d : Int) == 0 && ByteArray.toList s == ByteArray.toList noS) && (decide (1 ≤ n))) (isW (.bool (decide (n ≤ 255)))), isW (.bool ((((0 : Int) == 0 && (n : Int) == n && (d : Int) == 0 && ByteArray.toList s == ByteArray.toList noS) && (decide (1 ≤ n))) && (decide (n ≤ 255)))), isW (.bool ((((0 : Int) == 0 && (n : Int) == n && (d : Int) == 0 && ByteArray.toList s == ByteArray.toList noS) && (decide (1 ≤ n))) && (decide (n ≤ 255))))], Mono p := by
    intro p hp
    simp only [List.mem_cons, List.not_mem_nil, or_false] at hp
    rcases hp with rfl | rfl | rfl | rfl | rfl | rfl | rfl | rfl | rfl | rfl | rfl | rfl | rfl | rfl | rfl | rfl <;> first | exact isW_mono _ | exact isG_mono _ (isW_mono _)
  have en81 : Enters Tryz.prog 138 := enters_of Tryz.func138 (by kernel_rfl) rfl
  refine wp_region_T (T := TL [isW (V 0 n d s), isW (.pointer (some ⟨b, 1, none⟩)), isW (.int .i64 n), isW (V 0 n 0 noS), isW (.bool ((0 : Int) == 0 && (n : Int) == n && (d : Int) == 0 && ByteArray.toList s == ByteArray.toList noS)), isW (.bool ((0 : Int) == 0 && (n : Int) == n && (d : Int) == 0 && ByteArray.toList s == ByteArray.toList noS)), isG ((0 : Int) == 0 && (n : Int) == n && (d : Int) == 0 && ByteArray.toList s == ByteArray.toList noS) (isW (.pointer (some ⟨b, 1, none⟩))), isG ((0 : Int) == 0 && (n : Int) == n && (d : Int) == 0 && ByteArray.toList s == ByteArray.toList noS) (isW (.int .i64 n)), isG ((0 : Int) == 0 && (n : Int) == n && (d : Int) == 0 && ByteArray.toList s == ByteArray.toList noS) (isW (.bool (decide (1 ≤ n)))), isW (.bool (((0 : Int) == 0 && (n : Int) == n && (d : Int) == 0 && ByteArray.toList s == ByteArray.toList noS) && (decide (1 ≤ n)))), isW (.bool (((0 : Int) == 0 && (n : Int) == n && (d : Int) == 0 && ByteArray.toList s == ByteArray.toList noS) && (decide (1 ≤ n)))), isG (((0 : Int) == 0 && (n : Int) == n && (d : Int) == 0 && ByteArray.toList s == ByteArray.toList noS) && (decide (1 ≤ n))) (isW (.pointer (some ⟨b, 1, none⟩))), isG (((0 : Int) == 0 && (n : Int) == n && (d : Int) == 0 && ByteArray.toList s == ByteArray.toList noS) && (decide (1 ≤ n))) (isW (.int .i64 n)), isG (((0 : Int) == 0 && (n : Int) == n && (d : Int) == 0 && ByteArray.toList s == ByteArray.toList noS) && (decide (1 ≤ n))) (isW (.bool (decide (n ≤ 255)))), isW (.bool ((((0 : Int) == 0 && (n : Int) == n && (d : Int) == 0 && ByteArray.toList s == ByteArray.toList noS) && (decide (1 ≤ n))) && (decide (n ≤ 255)))), isW (.bool ((((0 : Int) == 0 && (n : Int) == n && (d : Int) == 0 && ByteArray.toList s == ByteArray.toList noS) && (decide (1 ≤ n))) && (decide (n ≤ 255))))]) (by kernel_rfl) dag ?_ ?_
  · intro listed a w i H hi
    have hlt := (mem_ready hi).1
    rw [size] at hlt
    rcases (by omega : i = 0 ∨ i = 1 ∨ i = 2 ∨ i = 3 ∨ i = 4 ∨ i = 5 ∨ i = 6 ∨ i = 7 ∨ i = 8 ∨ i = 9 ∨ i = 10 ∨ i = 11 ∨ i = 12 ∨ i = 13 ∨ i = 14 ∨ i = 15) with rfl | rfl | rfl | rfl | rfl | rfl | rfl | rfl | rfl | rfl | rfl | rfl | rfl | rfl | rfl | rfl
    · exact wpOp_of e0 (.inl g0) (op_lv k0 d0 ((H.old 1 (old_of' dl 1 (by decide))).trans s1) (hc_b w H.below) (H.over mono ap e0 d0 (by omega) (Below.refl _ _) (show _ = _ from rfl)))
    · exact wpOp_of e1 (.inl g1) (op_fa (by omega) k1 d1 ((H.old 1 (old_of' dl 1 (by decide))).trans s1) (H.over mono ap e1 d1 (by omega) (Below.refl _ _) (show _ = _ from rfl)))
    · exact wpOp_of e2 (.inl g2) (op_li (by decide) k2 d2 (H.got' hi e2 f2_1 e1 d1) (hc_b w H.below).2.1 (H.over mono ap e2 d2 (by omega) (Below.refl _ _) (show _ = _ from rfl)))
    · exact wpOp_of e3 (.inl g3) (op_T1 k3 d3 (H.got' hi e3 f3_2 e2 d2) en81 ((C3 w H.below).mono fun e w' ⟨h1, h3⟩ => ⟨_, h1, (H.over mono ap e3 d3 (by omega) h3 (show _ = _ from rfl))⟩))
    · exact wpOp_of e4 (.inl g4) (op_eqV k4 d4 (H.got' hi e4 f4_0 e0 d0) (H.got' hi e4 f4_3 e3 d3) (H.over mono ap e4 d4 (by omega) (Below.refl _ _) (show _ = _ from rfl)))
    · exact wpOp_of e5 (.inl g5) (op_mv k5 d5 (H.over mono ap e5 d5 (by omega) (Below.refl _ _) (show _ = _ from (H.got' hi e5 f5_4 e4 d4))))
    · have hb := H.got' hi e6 f6_5 e5 d5
      by_cases hg : ((0 : Int) == 0 && (n : Int) == n && (d : Int) == 0 && ByteArray.toList s == ByteArray.toList noS) = true
      · exact wpOp_of e6 (.inr ⟨5, true, o5, 12, g6, e5, d5, hb.trans (congrArg Value.bool hg)⟩) (op_fa (by omega) k6 d6 ((H.old 1 (old_of' dl 1 (by decide))).trans s1) (H.over mono ap e6 d6 (by omega) (Below.refl _ _) (fun _ => (show _ = _ from rfl))))
      · exact wpOp_skip e6 g6 e5 d5 hb (by exact hg) d6 (H.over mono ap e6 d6 (by omega) (Below.refl _ _) (fun h => absurd h hg))
    · have hb := H.got' hi e7 f7_5 e5 d5
      by_cases hg : ((0 : Int) == 0 && (n : Int) == n && (d : Int) == 0 && ByteArray.toList s == ByteArray.toList noS) = true
      · exact wpOp_of e7 (.inr ⟨5, true, o5, 12, g7, e5, d5, hb.trans (congrArg Value.bool hg)⟩) (op_li (by decide) k7 d7 ((H.got' hi e7 f7_6 e6 d6) hg) (hc_b w H.below).2.1 (H.over mono ap e7 d7 (by omega) (Below.refl _ _) (fun _ => (show _ = _ from rfl))))
      · exact wpOp_skip e7 g7 e5 d5 hb (by exact hg) d7 (H.over mono ap e7 d7 (by omega) (Below.refl _ _) (fun h => absurd h hg))
    · have hb := H.got' hi e8 f8_5 e5 d5
      by_cases hg : ((0 : Int) == 0 && (n : Int) == n && (d : Int) == 0 && ByteArray.toList s == ByteArray.toList noS) = true
      · exact wpOp_of e8 (.inr ⟨5, true, o5, 12, g8, e5, d5, hb.trans (congrArg Value.bool hg)⟩) (op_geq (by decide) k8 d8 ((H.got' hi e8 f8_7 e7 d7) hg) (H.over mono ap e8 d8 (by omega) (Below.refl _ _) (fun _ => (show _ = _ from rfl))))
      · exact wpOp_skip e8 g8 e5 d5 hb (by exact hg) d8 (H.over mono ap e8 d8 (by omega) (Below.refl _ _) (fun h => absurd h hg))
    · exact wpOp_of e9 (.inl g9) (op_pk k9 d9 (H.got' hi e9 f9_5 e5 d5) (fun hp => ((H.got' hi e9 f9_8 e8 d8) hp)) (H.over mono ap e9 d9 (by omega) (Below.refl _ _) (show _ = _ from rfl)))
    · exact wpOp_of e10 (.inl g10) (op_mv k10 d10 (H.over mono ap e10 d10 (by omega) (Below.refl _ _) (show _ = _ from (H.got' hi e10 f10_9 e9 d9))))
    · have hb := H.got' hi e11 f11_10 e10 d10
      by_cases hg : (((0 : Int) == 0 && (n : Int) == n && (d : Int) == 0 && ByteArray.toList s == ByteArray.toList noS) && (decide (1 ≤ n))) = true
      · exact wpOp_of e11 (.inr ⟨10, true, o10, 17, g11, e10, d10, hb.trans (congrArg Value.bool hg)⟩) (op_fa (by omega) k11 d11 ((H.old 1 (old_of' dl 1 (by decide))).trans s1) (H.over mono ap e11 d11 (by omega) (Below.refl _ _) (fun _ => (show _ = _ from rfl))))
      · exact wpOp_skip e11 g11 e10 d10 hb (by exact hg) d11 (H.over mono ap e11 d11 (by omega) (Below.refl _ _) (fun h => absurd h hg))
    · have hb := H.got' hi e12 f12_10 e10 d10
      by_cases hg : (((0 : Int) == 0 && (n : Int) == n && (d : Int) == 0 && ByteArray.toList s == ByteArray.toList noS) && (decide (1 ≤ n))) = true
      · exact wpOp_of e12 (.inr ⟨10, true, o10, 17, g12, e10, d10, hb.trans (congrArg Value.bool hg)⟩) (op_li (by decide) k12 d12 ((H.got' hi e12 f12_11 e11 d11) hg) (hc_b w H.below).2.1 (H.over mono ap e12 d12 (by omega) (Below.refl _ _) (fun _ => (show _ = _ from rfl))))
      · exact wpOp_skip e12 g12 e10 d10 hb (by exact hg) d12 (H.over mono ap e12 d12 (by omega) (Below.refl _ _) (fun h => absurd h hg))
    · have hb := H.got' hi e13 f13_10 e10 d10
      by_cases hg : (((0 : Int) == 0 && (n : Int) == n && (d : Int) == 0 && ByteArray.toList s == ByteArray.toList noS) && (decide (1 ≤ n))) = true
      · exact wpOp_of e13 (.inr ⟨10, true, o10, 17, g13, e10, d10, hb.trans (congrArg Value.bool hg)⟩) (op_leq (by decide) k13 d13 ((H.got' hi e13 f13_12 e12 d12) hg) (H.over mono ap e13 d13 (by omega) (Below.refl _ _) (fun _ => (show _ = _ from rfl))))
      · exact wpOp_skip e13 g13 e10 d10 hb (by exact hg) d13 (H.over mono ap e13 d13 (by omega) (Below.refl _ _) (fun h => absurd h hg))
    · exact wpOp_of e14 (.inl g14) (op_pk k14 d14 (H.got' hi e14 f14_10 e10 d10) (fun hp => ((H.got' hi e14 f14_13 e13 d13) hp)) (H.over mono ap e14 d14 (by omega) (Below.refl _ _) (show _ = _ from rfl)))
    · exact wpOp_of e15 (.inl g15) (op_as k15 d15 (H.over mono ap e15 d15 (by omega) (Below.refl _ _) (show _ = _ from (H.got' hi e15 f15_14 e14 d14))))
  · intro a w H
    refine done a w (H.frame.trans hn) H.defers H.below (H.got 15 o15 2 e15 d15 ?_)
    rw [size]
    rfl
set_option maxRecDepth 100000 in
set_option maxHeartbeats 4000000 in
theorem rv_truth (b : Nat) (n d : Int) (s : ByteArray) {id : Nat} {ops : Array Oper} {Q : Exit → Act → World → Prop} {a0 : Act} {w0 : World} {nt : Nat} (size : ops.size = 7) (hn : a0.tmps.size = nt) (hnt : 29 < nt)
    (dl : ops.toList.map (·.dst) = [some 24, some 25, some 26, some 27, some 28, some 29, some 2]) (dag : ∀ (i : Nat) (o : Oper), ops[i]? = some o → ∀ e : Edge, e ∈ o.after → e.on < i)
    {o0 : Oper} (e0 : ops[0]? = some o0) (k0 : o0.op = .load 40 (.tmp 1)) (g0 : o0.guard = none)
    {o1 : Oper} (e1 : ops[1]? = some o1) (k1 : o1.op = .fieldAddr 40 (.tmp 1) 1) (g1 : o1.guard = none)
    {o2 : Oper} (e2 : ops[2]? = some o2) (k2 : o2.op = .load 2 (.tmp 25)) (g2 : o2.guard = none) (f2_1 : (o2.after.any fun e => e.on == 1 && Region.binds .any e) = true)
    {o3 : Oper} (e3 : ops[3]? = some o3) (k3 : o3.op = .binOp .eql 2 (.tmp 26) (.const (.int .i64 1)) 2) (g3 : o3.guard = none) (f3_2 : (o3.after.any fun e => e.on == 2 && Region.binds .any e) = true)
    {o4 : Oper} (e4 : ops[4]? = some o4) (k4 : o4.op = .call { callee := .value (.func 139), args := #[.tmp 27], argTypes := #[4] }) (g4 : o4.guard = none) (f4_3 : (o4.after.any fun e => e.on == 3 && Region.binds .any e) = true)
    {o5 : Oper} (e5 : ops[5]? = some o5) (k5 : o5.op = .binOp .eql 40 (.tmp 24) (.tmp 28) 40) (g5 : o5.guard = none) (f5_0 : (o5.after.any fun e => e.on == 0 && Region.binds .any e) = true) (f5_4 : (o5.after.any fun e => e.on == 4 && Region.binds .any e) = true)
    {o6 : Oper} (e6 : ops[6]? = some o6) (k6 : o6.op = .assign (.tmp 29)) (g6 : o6.guard = none) (f6_5 : (o6.after.any fun e => e.on == 5 && Region.binds .any e) = true)
    (s1 : slot a0 1 = .pointer (some ⟨b, 0, none⟩))
    (hc_b : ∀ W, Below w0.heap.size w0 W → Val4 W b 0 1 n d s)
    (C4 : ∀ W, Below w0.heap.size w0 W → Calls Tryz.prog 139 #[.bool (n == 1)] W fun e w' => e = .returned (V 1 (bit (n == 1)) 0 noS) ∧ Below W.heap.size W w')
    (done : ∀ a w, a.tmps.size = nt → a.defers = a0.defers → Below w0.heap.size w0 w → slot a 2 = .bool ((1 : Int) == 1 && (n : Int) == (bit (n == 1)) && (d : Int) == 0 && ByteArray.toList s == ByteArray.toList noS) → Q .normal a w) :
    (Code.region id ops true).wp Tryz.prog Q a0 w0 := by
  have d0 := dst_of' dl e0 (d := 24) rfl
  have d1 := dst_of' dl e1 (d := 25) rfl
  have d2 := dst_of' dl e2 (d := 26) rfl
  have d3 := dst_of' dl e3 (d := 27) rfl
  have d4 := dst_of' dl e4 (d := 28) rfl
  have d5 := dst_of' dl e5 (d := 29) rfl
  have d6 := dst_of' dl e6 (d := 2) rfl
  have ap : ∀ (i j : Nat) (x y : Oper) (t : Nat), ops[i]? = some x → ops[j]? = some y → x.dst = some t → y.dst = some t → i = j := apart_of dl (by decide)
  have mono : ∀ p ∈ [isW (V 1 n d s), isW (.pointer (some ⟨b, 1, none⟩)), isW (.int .i64 n), isW (.bool (n == 1)), isW (V 1 (bit (n == 1)) 0 noS), isW (.bool ((1 : Int) == 1 && (n : Int) == (bit (n == 1)) && (d : Int) == 0 && ByteArray.toList s == ByteArray.toList noS)), isW (.bool ((1 : Int) == 1 && (n : Int) == (bit (n == 1)) && (d : Int) == 0 && ByteArray.toList s == ByteArray.toList noS))], Mono p := by
    intro p hp
    simp only [List.mem_cons, List.not_mem_nil, or_false] at hp
    rcases hp with rfl | rfl | rfl | rfl | rfl | rfl | rfl <;> first | exact isW_mono _ | exact isG_mono _ (isW_mono _)
  have en82 : Enters Tryz.prog 139 := enters_of Tryz.func139 (by kernel_rfl) rfl
  refine wp_region_T (T := TL [isW (V 1 n d s), isW (.pointer (some ⟨b, 1, none⟩)), isW (.int .i64 n), isW (.bool (n == 1)), isW (V 1 (bit (n == 1)) 0 noS), isW (.bool ((1 : Int) == 1 && (n : Int) == (bit (n == 1)) && (d : Int) == 0 && ByteArray.toList s == ByteArray.toList noS)), isW (.bool ((1 : Int) == 1 && (n : Int) == (bit (n == 1)) && (d : Int) == 0 && ByteArray.toList s == ByteArray.toList noS))]) (by kernel_rfl) dag ?_ ?_
  · intro listed a w i H hi
    have hlt := (mem_ready hi).1
    rw [size] at hlt
    rcases (by omega : i = 0 ∨ i = 1 ∨ i = 2 ∨ i = 3 ∨ i = 4 ∨ i = 5 ∨ i = 6) with rfl | rfl | rfl | rfl | rfl | rfl | rfl
    · exact wpOp_of e0 (.inl g0) (op_lv k0 d0 ((H.old 1 (old_of' dl 1 (by decide))).trans s1) (hc_b w H.below) (H.over mono ap e0 d0 (by omega) (Below.refl _ _) (show _ = _ from rfl)))
    · exact wpOp_of e1 (.inl g1) (op_fa (by omega) k1 d1 ((H.old 1 (old_of' dl 1 (by decide))).trans s1) (H.over mono ap e1 d1 (by omega) (Below.refl _ _) (show _ = _ from rfl)))
    · exact wpOp_of e2 (.inl g2) (op_li (by decide) k2 d2 (H.got' hi e2 f2_1 e1 d1) (hc_b w H.below).2.1 (H.over mono ap e2 d2 (by omega) (Below.refl _ _) (show _ = _ from rfl)))
    · exact wpOp_of e3 (.inl g3) (op_eqI (by decide) k3 d3 (H.got' hi e3 f3_2 e2 d2) (H.over mono ap e3 d3 (by omega) (Below.refl _ _) (show _ = _ from rfl)))
    · exact wpOp_of e4 (.inl g4) (op_T1 k4 d4 (H.got' hi e4 f4_3 e3 d3) en82 ((C4 w H.below).mono fun e w' ⟨h1, h3⟩ => ⟨_, h1, (H.over mono ap e4 d4 (by omega) h3 (show _ = _ from rfl))⟩))
    · exact wpOp_of e5 (.inl g5) (op_eqV k5 d5 (H.got' hi e5 f5_0 e0 d0) (H.got' hi e5 f5_4 e4 d4) (H.over mono ap e5 d5 (by omega) (Below.refl _ _) (show _ = _ from rfl)))
    · exact wpOp_of e6 (.inl g6) (op_as k6 d6 (H.over mono ap e6 d6 (by omega) (Below.refl _ _) (show _ = _ from (H.got' hi e6 f6_5 e5 d5))))
  · intro a w H
    refine done a w (H.frame.trans hn) H.defers H.below (H.got 6 o6 2 e6 d6 ?_)
    rw [size]
    rfl
end Go.Proofs.YtogmbehomilalaaGreatDoor
end

/- Reading a string that is not one of a number in lowest terms. -/
import Derived.Test.YthmnmologmmeaaaGreatDoorZPrt
import Derived.Test.YthmnmologmmeaaaGreatDoorZClo
import Derived.Test.YthmnmologmmeaaaGreatDoorZRegInv
import Derived.KernelRfl
import Derived.ArgAppend
import Derived.Shelf.Abstract

/- Reading a string that is not one of a number in lowest terms. -/
section
namespace Go.Proofs.YthmnmologmmeaaaGreatDoor
open Go.RowKit Go.Deep


end Go.Proofs.YthmnmologmmeaaaGreatDoor
end

/- Reading a string that is not one of a value. -/
section
namespace Go.Proofs.YthmnmologmmeaaaGreatDoor
open Go.RowKit Go.Deep

end Go.Proofs.YthmnmologmmeaaaGreatDoor
end

/- The type of a sum of a whole number and a rational one. -/
section
namespace Go.Proofs.YthmnmologmmeaaaGreatDoor
open Go.RowKit Go.Deep

end Go.Proofs.YthmnmologmmeaaaGreatDoor
end

/- The numbers of the chapter's examples. -/
section
namespace Go.Proofs.YthmnmologmmeaaaGreatDoor
open Go.RowKit Go.Deep

end Go.Proofs.YthmnmologmmeaaaGreatDoor
end

/- The operations of a region, one by one: what each leaves in its slot. -/
section
namespace Go.Proofs.YthmnmologmmeaaaGreatDoor
open Go Go.RowKit Go.Deep
section
variable {ops : Array Oper} {Q : Exit → Act → World → Prop} {K : Act → World → Prop} {a : Act} {w : World}
abbrev putSlot (a : Act) (d : Nat) (v : Value) : Act := { tmps := a.tmps.setIfInBounds d v, defers := a.defers }

theorem wpOp_of {P : Program} {i : Nat} {o : Oper} (ho : ops[i]? = some o) (hg : o.guard = none ∨ ∃ g b x t, o.guard = some (g, b) ∧ ops[g]? = some x ∧ x.dst = some t ∧ slot a t = .bool b) (h : o.wp P a w K Q) : wpOp P ops Q i K a w := by
  unfold wpOp
  rw [ho]
  have hw : Region.wanted o (yielded ops a.tmps) = true := by
    rcases hg with hg | ⟨g, b, x, t, hg, hx, ht, hs⟩
    · simp [Region.wanted, hg]
    · have hs' : a.tmps[t]?.getD undef = .bool b := hs
      have h9 : a.tmps[t]? = some (.bool b) := by
        cases h9 : a.tmps[t]? with
        | none => rw [h9] at hs'; cases hs'
        | some v => rw [h9] at hs'; exact congrArg some hs'
      simp [Region.wanted, hg, yielded, hx, ht, h9]
  simp only [hw, if_true]
  exact .inl h

theorem op_move {o : Oper} {d t : Nat} {v : Value} (ho : o.op = .move (.tmp t)) (hd : o.dst = some d) (hs : slot a t = v) (h : K (putSlot a d v) w) : o.wp Tryz.prog a w K Q := by
  obtain ⟨op, dst, ty, pos, after, guard⟩ := o
  dsimp only at ho hd
  subst ho hd
  have hs' : a.tmps[t]?.getD undef = v := hs
  unfold Oper.wp
  go_simp
  exact h
theorem op_assign {o : Oper} {d t : Nat} {v : Value} (ho : o.op = .assign (.tmp t)) (hd : o.dst = some d) (hs : slot a t = v) (h : K (putSlot a d v) w) : o.wp Tryz.prog a w K Q := by
  obtain ⟨op, dst, ty, pos, after, guard⟩ := o
  dsimp only at ho hd
  subst ho hd
  have hs' : a.tmps[t]?.getD undef = v := hs
  unfold Oper.wp
  go_simp
  exact h
theorem op_loadV {o : Oper} {d t b : Nat} {k n dd : Int} {s : ByteArray} (ho : o.op = .load 40 (.tmp t)) (hd : o.dst = some d) (hs : slot a t = .pointer (some ⟨b, 0, none⟩))
    (hc : w.cell? ⟨b, 0, none⟩ = some (.int .i64 k) ∧ w.cell? ⟨b, 1, none⟩ = some (.int .i64 n) ∧ w.cell? ⟨b, 2, none⟩ = some (.int .i64 dd) ∧ w.cell? ⟨b, 3, none⟩ = some (.string s)) (h : K (putSlot a d (V k n dd s)) w) : o.wp Tryz.prog a w K Q := by
  obtain ⟨op, dst, ty, pos, after, guard⟩ := o
  dsimp only at ho hd
  subst ho hd
  have hs' : a.tmps[t]?.getD undef = .pointer (some ⟨b, 0, none⟩) := hs
  obtain ⟨c0, c1, c2, c3⟩ := hc
  unfold Oper.wp
  go_simp
  exact h
theorem op_pickT {o : Oper} {d t t' : Nat} {v : Value} (ho : o.op = .pick (.tmp t) (.tmp t') (.const (.bool false))) (hd : o.dst = some d) (hs : slot a t = .bool true) (hs2 : slot a t' = v)
    (h : K (putSlot a d v) w) : o.wp Tryz.prog a w K Q := by
  obtain ⟨op, dst, ty, pos, after, guard⟩ := o
  dsimp only at ho hd
  subst ho hd
  have hs' : a.tmps[t]?.getD undef = .bool true := hs
  have hs2' : a.tmps[t']?.getD undef = v := hs2
  unfold Oper.wp
  go_simp
  exact h
end
end Go.Proofs.YthmnmologmmeaaaGreatDoor
end

/- A region whose order is open: each operation's result known, whatever the order. -/
section
namespace Go.Proofs.YthmnmologmmeaaaGreatDoor
open Go Go.RowKit Go.Deep

/-- What an operation leaves: this value; a slice of a new block with these cells; or a new value's box. -/
inductive Desc
  | c (v : Value)
  | s (n : Nat) (cells : Array Value)
  | box
def Desc.holds (B : Nat) : Desc → Value → World → Prop
  | .c x, v, _ => v = x
  | .s n cells, v, w => ∃ b, v = .slice (some ⟨b, 0, none⟩) n n ∧ w.heap[b]? = some (.cells cells 40 (0, 0))
  | .box, v, w => ∃ b, v = .pointer (some ⟨b, 0, none⟩) ∧ B ≤ b ∧ w.heap[b]? = some (.cells #[.int .i64 0, .int .i64 0, .int .i64 0, .string ⟨#[]⟩] 40 (0, 0))
theorem Desc.stays {B : Nat} (x : Desc) (v : Value) (w w' : World) (h : x.holds B v w) (hb : Below w.heap.size w w') : x.holds B v w' := by
  cases x with
  | c y => exact h
  | s n cells =>
    obtain ⟨b, h1, h2⟩ := h
    exact ⟨b, h1, (hb.block b (Array.getElem?_eq_some_iff.1 h2).1).trans h2⟩
  | box =>
    obtain ⟨b, h1, h3, h2⟩ := h
    exact ⟨b, h1, h3, (hb.block b (Array.getElem?_eq_some_iff.1 h2).1).trans h2⟩
def Kn (B : Nat) (L : List Desc) (i : Nat) (v : Value) (w : World) : Prop := (L.getD i (.c undef)).holds B v w

section
variable {ops : Array Oper} {Q : Exit → Act → World → Prop}

theorem apart_of {l : List (Option Nat)} (h : ops.toList.map (·.dst) = l) (hn : (List.range l.length).all (fun i => (List.range l.length).all fun j => i == j || l[i]? != l[j]? || l[i]? == some none) = true) :
    ∀ (i j : Nat) (x y : Oper) (t : Nat), ops[i]? = some x → ops[j]? = some y → x.dst = some t → y.dst = some t → i = j := by
  intro i j x y t hi hj hx hy
  have li : l[i]? = some (some t) := by rw [← h, List.getElem?_map, Array.getElem?_toList, hi]; simp [hx]
  have lj : l[j]? = some (some t) := by rw [← h, List.getElem?_map, Array.getElem?_toList, hj]; simp [hy]
  have a1 := List.all_eq_true.1 hn i (List.mem_range.2 (List.getElem?_eq_some_iff.1 li).1)
  have a2 := List.all_eq_true.1 a1 j (List.mem_range.2 (List.getElem?_eq_some_iff.1 lj).1)
  rw [li, lj] at a2
  simpa using a2

theorem all_listed {listed : Array Bool} (hs : listed.size = ops.size) (dag : ∀ (i : Nat) (o : Oper), ops[i]? = some o → ∀ e : Edge, e ∈ o.after → e.on < i) (hr : Region.ready .any ops listed = []) : ∀ i, i < ops.size → listed.getD i false = true := by
  intro i
  induction i using Nat.strongRecOn with
  | _ i ih =>
    intro hi
    cases hl : listed.getD i false with
    | true => rfl
    | false =>
      exfalso
      have hmem : i ∈ Region.ready .any ops listed := by
        unfold Region.ready
        rw [List.mem_filter, List.mem_range]
        refine ⟨hi, ?_⟩
        have h1 : listed.getD i true = false := by
          rw [Array.getD, dif_pos (by omega)] at hl ⊢
          exact hl
        rw [h1, Array.getElem?_eq_getElem hi]
        simp only [Bool.not_false, Bool.true_and, Option.map_some, Option.getD_some, Array.all_eq_true_iff_forall_mem]
        intro e he
        have := ih e.on (dag i _ (Array.getElem?_eq_getElem hi) e he) (by have := dag i _ (Array.getElem?_eq_getElem hi) e he; omega)
        rw [this]; simp
      rw [hr] at hmem
      cases hmem

theorem ready_on {listed : Array Bool} {i j : Nat} {o : Oper} (hr : i ∈ Region.ready .any ops listed) (ho : ops[i]? = some o) (ha : (o.after.any fun e => e.on == j && Region.binds .any e) = true) : listed.getD j false = true := by
  rw [Array.any_eq_true] at ha
  obtain ⟨k, hk, hk2⟩ := ha
  rw [Bool.and_eq_true] at hk2
  have := (mem_ready hr).2.2 o ho o.after[k] (Array.getElem_mem hk) hk2.2
  rwa [show o.after[k].on = j by simpa using hk2.1] at this
/-- What an operation that comes after another one knows of its result. -/
theorem Held.known {a0 : Act} {W0 : World} {L : List Desc} {B : Nat} {listed : Array Bool} {a : Act} {w : World} (h : Held ops a0 W0 (Kn B L) listed a w) {i : Nat} (hr : i ∈ Region.ready .any ops listed)
    {o x : Oper} {j t : Nat} (ho : ops[i]? = some o) (ha : (o.after.any fun e => e.on == j && Region.binds .any e) = true) (hj : ops[j]? = some x) (hx : x.dst = some t) : Kn B L j (slot a t) w := by
  rw [Array.any_eq_true] at ha
  obtain ⟨k, hk, hk2⟩ := ha
  rw [Bool.and_eq_true] at hk2
  have := (mem_ready hr).2.2 o ho o.after[k] (Array.getElem_mem hk) hk2.2
  rw [show o.after[k].on = j by simpa using hk2.1] at this
  exact h.got j x t hj hx this

variable {K : Act → World → Prop} {a : Act} {w : World}
end
end Go.Proofs.YthmnmologmmeaaaGreatDoor
end

/- A list with one more element; what the program says of a pointer's type. -/
section
namespace Go.Proofs.YthmnmologmmeaaaGreatDoor
open Go Go.RowKit Go.Deep

/-- A list with one more element. -/
def ext {α : Type} (f : Nat → α) (k : Nat) (x : α) : Nat → α := fun j => if j = k then x else f j
end Go.Proofs.YthmnmologmmeaaaGreatDoor
end

/- A region whose order is open, by any description of what each operation leaves in its slot. -/
section
namespace Go.Proofs.YthmnmologmmeaaaGreatDoor
open Go Go.RowKit Go.Deep Go.Shelf

theorem dst_of' {ops : Array Oper} {l : List (Option Nat)} (h : ops.toList.map (·.dst) = l) {i d : Nat} {o : Oper} (e : ops[i]? = some o) (hl : l[i]? = some (some d)) : o.dst = some d := by
  rw [← h, List.getElem?_map, Array.getElem?_toList, e] at hl
  simpa using hl
theorem old_of' {ops : Array Oper} {l : List (Option Nat)} (h : ops.toList.map (·.dst) = l) (t : Nat) (ht : l.contains (some t) = false) {listed : Array Bool} : ∀ i o, ops[i]? = some o → o.dst = some t → listed.getD i false = false := by
  intro i o e hd
  exfalso
  have : l[i]? = some (some t) := by rw [← h, List.getElem?_map, Array.getElem?_toList, e]; simp [hd]
  have hm := List.mem_of_getElem? this
  rw [← List.elem_iff] at hm
  rw [show l.elem (some t) = l.contains (some t) from rfl, ht] at hm
  cases hm

/-- What holds of a value goes on holding while memory grows. -/
def Mono (p : Value → World → Prop) : Prop := ∀ v x y, p v x → Below x.heap.size x y → p v y
/-- The descriptions, by the operations' numbers. -/
def TL (L : List (Value → World → Prop)) (i : Nat) : Value → World → Prop := L.getD i fun _ _ => True
theorem TL.stays {L : List (Value → World → Prop)} (h : ∀ p ∈ L, Mono p) : ∀ i v x y, TL L i v x → Below x.heap.size x y → TL L i v y := by
  intro i v x y hv hb
  unfold TL at hv ⊢
  rw [List.getD_eq_getElem?_getD] at hv ⊢
  cases hi : L[i]? with
  | none => trivial
  | some p =>
    rw [hi] at hv
    exact h p (List.mem_of_getElem? hi) v x y hv hb

section
variable {ops : Array Oper} {Q : Exit → Act → World → Prop}
theorem wp_region_T {id : Nat} {a0 : Act} {w0 : World} {T : Nat → Value → World → Prop} {P : Program} (hm : P.follows .mixedOrders = true)
    (dag : ∀ (i : Nat) (o : Oper), ops[i]? = some o → ∀ e : Edge, e ∈ o.after → e.on < i)
    (step : ∀ listed a w i, Held ops a0 w0 T listed a w → i ∈ Region.ready .any ops listed → wpOp P ops Q i (Held ops a0 w0 T (listed.setIfInBounds i true)) a w)
    (done : ∀ a w, Held ops a0 w0 T (Array.replicate ops.size true) a w → Q .normal a w) : (Code.region id ops true).wp P Q a0 w0 := by
  refine wp_region_any hm (wpAny_inv (Held ops a0 w0 T) step ?_ _ _ _ _ ?_ ?_)
  · intro listed a w h hr
    have hall := all_listed h.size dag hr
    have e : listed = Array.replicate ops.size true := by
      apply Array.ext
      · simp [h.size]
      · intro i h1 h2
        have := hall i (by rw [← h.size]; exact h1)
        rw [Array.getD, dif_pos h1] at this
        simpa using this
    rw [e] at h
    exact done a w h
  · unfold leftOf
    simp
  · have hf : ∀ j, (Array.replicate ops.size false).getD j false = false := by
      intro j
      rw [Array.getD_eq_getD_getElem?, Array.getElem?_replicate]
      split <;> rfl
    exact ⟨by simp, rfl, rfl, Below.drew (Below.refl _ _), fun _ _ => rfl, fun i o t _ _ hl => by rw [hf] at hl; cases hl⟩

variable {a0 : Act} {W0 : World} {L : List (Value → World → Prop)} {listed : Array Bool} {a : Act} {w w' : World}
/-- What an operation that comes after another one knows of its result. -/
theorem Held.got' (h : Held ops a0 W0 (TL L) listed a w) {i : Nat} (hr : i ∈ Region.ready .any ops listed)
    {o x : Oper} {j t : Nat} (ho : ops[i]? = some o) (ha : (o.after.any fun e => e.on == j && Region.binds .any e) = true) (hj : ops[j]? = some x) (hx : x.dst = some t) : TL L j (slot a t) w :=
  h.got j x t hj hx (ready_on hr ho ha)
theorem Held.over (h : Held ops a0 W0 (TL L) listed a w) (mono : ∀ p ∈ L, Mono p)
    (apart : ∀ (i j : Nat) (x y : Oper) (t : Nat), ops[i]? = some x → ops[j]? = some y → x.dst = some t → y.dst = some t → i = j)
    {i : Nat} {o : Oper} {d : Nat} {v : Value} (ho : ops[i]? = some o) (hd : o.dst = some d) (hsz : d < a0.tmps.size) (hb : Below w.heap.size w w') (hv : TL L i v w') :
    Held ops a0 W0 (TL L) (listed.setIfInBounds i true) (putSlot a d v) w' :=
  h.put (TL.stays mono) apart ho hd hsz hb hv

/-! The operations. -/
variable {K : Act → World → Prop}
theorem op_T1 {o : Oper} {d t g : Nat} {s : Value} {tys : Array TypeId} (ho : o.op = .call { callee := .value (.func g), args := #[.tmp t], argTypes := tys }) (hd : o.dst = some d) (hs : slot a t = s)
    (he : ∀ args w, (callFunc g args).run Tryz.prog w = .ok (.enter g args) w) (h : Calls Tryz.prog g #[s] w fun e w' => ∃ v, e = .returned v ∧ K (putSlot a d v) w') : o.wp Tryz.prog a w K Q := by
  obtain ⟨op, dst, ty, pos, after, guard⟩ := o
  dsimp only at ho hd
  subst ho hd
  have hs' : a.tmps[t]?.getD undef = s := hs
  have he' := he #[s] w
  unfold Oper.wp
  go_simp
  exact h.mono fun e w' ⟨v, h1, h2⟩ => by subst h1; exact h2
end
end Go.Proofs.YthmnmologmmeaaaGreatDoor
end

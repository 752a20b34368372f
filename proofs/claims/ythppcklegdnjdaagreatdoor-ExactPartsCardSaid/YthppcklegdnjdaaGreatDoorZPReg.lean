/- A region whose order is open, by any description of what each operation leaves in its slot. -/
import Derived.Test.YthppcklegdnjdaaGreatDoorZRegKn
import Derived.Test.YthppcklegdnjdaaGreatDoorZParts
import Derived.ArgAppend
import Derived.Shelf.Abstract
import Derived.Laws.OwnMore

/- A region whose order is open, by any description of what each operation leaves in its slot. -/
section
namespace Go.Proofs.YthppcklegdnjdaaGreatDoor
open Go Go.RowKit Go.Deep Go.Shelf

theorem dst_of' {ops : Array Oper} {l : List (Option Nat)} (h : ops.toList.map (·.dst) = l) {i d : Nat} {o : Oper} (e : ops[i]? = some o) (hl : l[i]? = some (some d)) : o.dst = some d := by
  rw [← h, List.getElem?_map, Array.getElem?_toList, e] at hl
  simpa using hl
theorem old_of' {ops : Array Oper} {l : List (Option Nat)} (h : ops.toList.map (·.dst) = l) (t : Nat) (ht : l.contains (some t) = false) {listed : Array Bool} : ∀ i o, ops[i]? = some o → o.dst = some t → listed.getD i false = false := by
  intro i o e hd
  exfalso
  have : l[i]? = some (some t) := by rw [← h, List.getElem?_map, Array.getElem?_toList, e]; simp [hd]
  have hm := List.mem_of_getElem? this
  rw [← List.elem_iff] at hm
  rw [show l.elem (some t) = l.contains (some t) from rfl, ht] at hm
  cases hm

/-- What holds of a value goes on holding while memory grows. -/
def Mono (p : Value → World → Prop) : Prop := ∀ v x y, p v x → Below x.heap.size x y → p v y
/-- The descriptions, by the operations' numbers. -/
def TL (L : List (Value → World → Prop)) (i : Nat) : Value → World → Prop := L.getD i fun _ _ => True
theorem TL.stays {L : List (Value → World → Prop)} (h : ∀ p ∈ L, Mono p) : ∀ i v x y, TL L i v x → Below x.heap.size x y → TL L i v y := by
  intro i v x y hv hb
  unfold TL at hv ⊢
  rw [List.getD_eq_getElem?_getD] at hv ⊢
  cases hi : L[i]? with
  | none => trivial
  | some p =>
    rw [hi] at hv
    exact h p (List.mem_of_getElem? hi) v x y hv hb

section
variable {ops : Array Oper} {Q : Exit → Act → World → Prop}
theorem wp_region_T {id : Nat} {a0 : Act} {w0 : World} {T : Nat → Value → World → Prop} {P : Program} (hm : P.follows .mixedOrders = true)
    (dag : ∀ (i : Nat) (o : Oper), ops[i]? = some o → ∀ e : Edge, e ∈ o.after → e.on < i)
    (step : ∀ listed a w i, Held ops a0 w0 T listed a w → i ∈ Region.ready .any ops listed → wpOp P ops Q i (Held ops a0 w0 T (listed.setIfInBounds i true)) a w)
    (done : ∀ a w, Held ops a0 w0 T (Array.replicate ops.size true) a w → Q .normal a w) : (Code.region id ops true).wp P Q a0 w0 := by
  refine wp_region_any hm (wpAny_inv (Held ops a0 w0 T) step ?_ _ _ _ _ ?_ ?_)
  · intro listed a w h hr
    have hall := all_listed h.size dag hr
    have e : listed = Array.replicate ops.size true := by
      apply Array.ext
      · simp [h.size]
      · intro i h1 h2
        have := hall i (by rw [← h.size]; exact h1)
        rw [Array.getD, dif_pos h1] at this
        simpa using this
    rw [e] at h
    exact done a w h
  · unfold leftOf
    simp
  · have hf : ∀ j, (Array.replicate ops.size false).getD j false = false := by
      intro j
      rw [Array.getD_eq_getD_getElem?, Array.getElem?_replicate]
      split <;> rfl
    exact ⟨by simp, rfl, rfl, Below.drew (Below.refl _ _), fun _ _ => rfl, fun i o t _ _ hl => by rw [hf] at hl; cases hl⟩

variable {a0 : Act} {W0 : World} {L : List (Value → World → Prop)} {listed : Array Bool} {a : Act} {w w' : World}
/-- What an operation that comes after another one knows of its result. -/
theorem Held.got' (h : Held ops a0 W0 (TL L) listed a w) {i : Nat} (hr : i ∈ Region.ready .any ops listed)
    {o x : Oper} {j t : Nat} (ho : ops[i]? = some o) (ha : (o.after.any fun e => e.on == j && Region.binds .any e) = true) (hj : ops[j]? = some x) (hx : x.dst = some t) : TL L j (slot a t) w :=
  h.got j x t hj hx (ready_on hr ho ha)
theorem Held.over (h : Held ops a0 W0 (TL L) listed a w) (mono : ∀ p ∈ L, Mono p)
    (apart : ∀ (i j : Nat) (x y : Oper) (t : Nat), ops[i]? = some x → ops[j]? = some y → x.dst = some t → y.dst = some t → i = j)
    {i : Nat} {o : Oper} {d : Nat} {v : Value} (ho : ops[i]? = some o) (hd : o.dst = some d) (hsz : d < a0.tmps.size) (hb : Below w.heap.size w w') (hv : TL L i v w') :
    Held ops a0 W0 (TL L) (listed.setIfInBounds i true) (putSlot a d v) w' :=
  h.put (TL.stays mono) apart ho hd hsz hb hv

/-! The operations. -/
variable {K : Act → World → Prop}
theorem op_T1 {o : Oper} {d t g : Nat} {s : Value} {tys : Array TypeId} (ho : o.op = .call { callee := .value (.func g), args := #[.tmp t], argTypes := tys }) (hd : o.dst = some d) (hs : slot a t = s)
    (he : ∀ args w, (callFunc g args).run Tryz.prog w = .ok (.enter g args) w) (h : Calls Tryz.prog g #[s] w fun e w' => ∃ v, e = .returned v ∧ K (putSlot a d v) w') : o.wp Tryz.prog a w K Q := by
  obtain ⟨op, dst, ty, pos, after, guard⟩ := o
  dsimp only at ho hd
  subst ho hd
  have hs' : a.tmps[t]?.getD undef = s := hs
  have he' := he #[s] w
  unfold Oper.wp
  go_simp
  exact h.mono fun e w' ⟨v, h1, h2⟩ => by subst h1; exact h2
theorem op_T2 {o : Oper} {d t t' g : Nat} {s s' : Value} {tys : Array TypeId} (ho : o.op = .call { callee := .value (.func g), args := #[.tmp t, .tmp t'], argTypes := tys }) (hd : o.dst = some d) (hs : slot a t = s) (hs2 : slot a t' = s')
    (he : ∀ args w, (callFunc g args).run Tryz.prog w = .ok (.enter g args) w) (h : Calls Tryz.prog g #[s, s'] w fun e w' => ∃ v, e = .returned v ∧ K (putSlot a d v) w') : o.wp Tryz.prog a w K Q := by
  obtain ⟨op, dst, ty, pos, after, guard⟩ := o
  dsimp only at ho hd
  subst ho hd
  have hs' : a.tmps[t]?.getD undef = s := hs
  have hs2' : a.tmps[t']?.getD undef = s' := hs2
  have he' := he #[s, s'] w
  unfold Oper.wp
  go_simp
  exact h.mono fun e w' ⟨v, h1, h2⟩ => by subst h1; exact h2
theorem op_T0 {o : Oper} {d g : Nat} {tys : Array TypeId} (ho : o.op = .call { callee := .value (.func g), args := #[], argTypes := tys }) (hd : o.dst = some d)
    (he : ∀ args w, (callFunc g args).run Tryz.prog w = .ok (.enter g args) w) (h : Calls Tryz.prog g #[] w fun e w' => ∃ v, e = .returned v ∧ K (putSlot a d v) w') : o.wp Tryz.prog a w K Q := by
  obtain ⟨op, dst, ty, pos, after, guard⟩ := o
  dsimp only at ho hd
  subst ho hd
  have he' := he #[] w
  unfold Oper.wp
  go_simp
  exact h.mono fun e w' ⟨v, h1, h2⟩ => by subst h1; exact h2
theorem op_slH {o : Oper} {d t t' : Nat} {ty : TypeId} {s s' v : Value} (ho : o.op = .slice ty (.tmp t) none (some (.tmp t')) none) (hd : o.dst = some d) (hs : slot a t = s) (hs2 : slot a t' = s')
    (hr : ∀ W, (Instr.sliceAt ty s none (some s') none).run Tryz.prog W = .ok v W) (h : K (putSlot a d v) w) : o.wp Tryz.prog a w K Q := by
  obtain ⟨op, dst, ty', pos, after, guard⟩ := o
  dsimp only at ho hd
  subst ho hd
  have hs' : a.eval (.tmp t) = s := by rw [← hs]; simp [Act.eval, slot]
  have hs2' : a.eval (.tmp t') = s' := by rw [← hs2]; simp [Act.eval, slot]
  have hr' := hr w
  unfold Oper.wp
  simp only [execOp, Option.map_none, Option.map_some, hs', hs2', Sem.run_bind, hr', Result.andThen_ok]
  go_simp
  exact h
theorem op_slL {o : Oper} {d t t' : Nat} {ty : TypeId} {s s' v : Value} (ho : o.op = .slice ty (.tmp t) (some (.tmp t')) none none) (hd : o.dst = some d) (hs : slot a t = s) (hs2 : slot a t' = s')
    (hr : ∀ W, (Instr.sliceAt ty s (some s') none none).run Tryz.prog W = .ok v W) (h : K (putSlot a d v) w) : o.wp Tryz.prog a w K Q := by
  obtain ⟨op, dst, ty', pos, after, guard⟩ := o
  dsimp only at ho hd
  subst ho hd
  have hs' : a.eval (.tmp t) = s := by rw [← hs]; simp [Act.eval, slot]
  have hs2' : a.eval (.tmp t') = s' := by rw [← hs2]; simp [Act.eval, slot]
  have hr' := hr w
  unfold Oper.wp
  simp only [execOp, Option.map_none, Option.map_some, hs', hs2', Sem.run_bind, hr', Result.andThen_ok]
  go_simp
  exact h
theorem op_one {o : Oper} {d t : Nat} {p : Option Addr} (ho : o.op = .buildSlice 39 1 #[(0, .tmp t)]) (hd : o.dst = some d) (hs : slot a t = .pointer p)
    (h : K (putSlot a d (.slice (some ⟨w.heap.size, 0, none⟩) 1 1)) (w.alloc (.cells #[.pointer p] 26))) : o.wp Tryz.prog a w K Q := by
  obtain ⟨op, dst, ty, pos, after, guard⟩ := o
  dsimp only at ho hd
  subst ho hd
  have hs' : a.tmps[t]?.getD undef = .pointer p := hs
  unfold Oper.wp
  go_simp
  exact h
end
set_option maxRecDepth 20000 in
/-- The two parts of a slice of pointers. -/
theorem slice_parts (X : Option Addr) (t c d : Nat) (hd : d ≤ t) (htc : t ≤ c) (h0 : X = none → t = 0 ∧ c = 0) : ∃ X1 X2,
    (∀ W, (Instr.sliceAt 39 (.slice X t c) none (some (.int .i64 (d : Int))) none).run Tryz.prog W = .ok (.slice X1 d c) W) ∧
    (∀ W, (Instr.sliceAt 39 (.slice X t c) (some (.int .i64 (d : Int))) none none).run Tryz.prog W = .ok (.slice X2 (t - d) (c - d)) W) ∧ (X2 = none → t - d = 0 ∧ c - d = 0) ∧
    ∀ (W : World) (xs : Nat → Value), (∀ j, j < t → ∃ b o, X = some ⟨b, o, none⟩ ∧ b < W.heap.size ∧ W.cell? ⟨b, o + j, none⟩ = some (xs j)) →
      (∀ j, j < d → ∃ b o, X1 = some ⟨b, o, none⟩ ∧ b < W.heap.size ∧ W.cell? ⟨b, o + j, none⟩ = some (xs j)) ∧
      (∀ j, j < t - d → ∃ b o, X2 = some ⟨b, o, none⟩ ∧ b < W.heap.size ∧ W.cell? ⟨b, o + j, none⟩ = some (xs (d + j))) := by
  have hu : Tryz.prog.underlying 39 = some (.slice (Tryz.prog.elem 39)) := by rw [Tryz.underlying39]; rfl
  have hsz : ∀ W, (sizeOf (Tryz.prog.elem 39)).run Tryz.prog W = .ok 1 W := fun W => by
    obtain ⟨i0, hi, hz0, hz1, hz2⟩ := info_parts info_ptr
    rw [show Tryz.prog.elem 39 = 26 by kernel_rfl]
    simp [sizeOf, typeInfo, hi, hz1]
  refine ⟨if c = 0 then X else X.map (·.add (0 * 1)), if c = d then X else X.map (·.add (d * 1)), fun W => ?_, fun W => ?_, fun h => ?_, fun W xs h => ⟨fun j hj => ?_, fun j hj => ?_⟩⟩
  · show ((Instr.slice _ _ _ _ _).run _ _) = _
    rw [run_slice_h W _ X t c hu .i64 (d : Int) (by omega) (by omega), hsz]
    simp [Result.andThen, sliced]
  · show ((Instr.slice _ _ _ _ _).run _ _) = _
    rw [run_slice_l W _ X t c hu .i64 (d : Int) (by omega) (by omega), hsz]
    simp [Result.andThen, sliced]
  · have hX : X = none := by
      split at h
      · exact h
      · cases X with
        | none => rfl
        | some a => cases h
    have := h0 hX
    omega
  · obtain ⟨b, o, rfl, hb, hc⟩ := h j (by omega)
    refine ⟨b, o, ?_, hb, hc⟩
    split
    · rfl
    · simp [Addr.add_lit]
  · obtain ⟨b, o, rfl, hb, hc⟩ := h (d + j) (by omega)
    refine ⟨b, o + d, ?_, hb, by rw [Nat.add_assoc]; exact hc⟩
    rw [if_neg (by omega)]
    simp [Addr.add_lit]
end Go.Proofs.YthppcklegdnjdaaGreatDoor
end

/- Appending a slice of pointers to a literal of one, as an operation of a region whose order is open. -/
section
namespace Go.Proofs.YthppcklegdnjdaaGreatDoor
open Go Go.RowKit Go.Deep Go.Shelf

theorem range_cons (u : Value) (xs : Nat → Value) (m : Nat) : [u] ++ (List.range m).map xs = (List.range (m + 1)).map fun j => if j = 0 then u else xs (j - 1) := by
  rw [List.range_succ_eq_map, List.map_cons, List.map_map]
  simp [Function.comp_def]
theorem ptr_one {u : Value} (h : IsPtr u) : u.oneCell' = true := by
  obtain ⟨a, rfl⟩ := h
  rfl
theorem run_app (w : World) (ty : TypeId) {b m c : Nat} {u : Value} {xo : Option Addr} {xs : Nat → Value}
    (hb : w.heap[b]? = some (.cells #[u] 26 (0, 0))) (h0 : xo = none → m = 0 ∧ c = 0) (hc : ∀ j, j < m → ∃ b o, xo = some ⟨b, o, none⟩ ∧ b < w.heap.size ∧ w.cell? ⟨b, o + j, none⟩ = some (xs j)) (hm : m ≤ 1000) :
    ∃ v' w', (Builtin.append_ #[39, 39] ty #[.slice (some ⟨b, 0, none⟩) 1 1, .slice xo m c]).run Tryz.prog w = .ok v' w' ∧ Below w.heap.size w w' ∧
      ∃ A c, v' = .slice A (m + 1) c ∧ ∀ j, j < m + 1 → ∃ b o, A = some ⟨b, o, none⟩ ∧ b < w'.heap.size ∧ w'.cell? ⟨b, o + j, none⟩ = some (if j = 0 then u else xs (j - 1)) := by
  obtain ⟨i0, hi, hz0, hz1, hz2⟩ := info_parts info_ptr
  have hlt : b < w.heap.size := (Array.getElem?_eq_some_iff.1 hb).1
  have c0 : w.cell? ⟨b, 0, none⟩ = some u := by rw [cell_of_row _ _ _ _ _ _ hb]; rfl
  have stay : ∀ j, j < 0 + 1 → ∃ b' o, (some (⟨b, 0, none⟩ : Addr)) = some ⟨b', o, none⟩ ∧ b' < w.heap.size ∧ w.cell? ⟨b', o + j, none⟩ = some (if j = 0 then u else xs (j - 1)) := by
    intro j hj
    obtain rfl : j = 0 := by omega
    exact ⟨b, 0, rfl, hlt, by rw [if_pos rfl]; exact c0⟩
  have own : w.ownsRow 0 26 1 (.slice (some ⟨b, 0, none⟩) 1 1) 1 [u] := ⟨rfl, .inr ⟨b, 1, #[u], rfl, Nat.zero_le _, hb, Nat.le_refl _, by unfold maxLen; omega, rfl, rfl⟩⟩
  rcases Nat.eq_zero_or_pos m with rfl | hpos
  · cases xo with
    | none =>
      obtain ⟨_, rfl⟩ := h0 rfl
      exact ⟨_, _, run_append_owned_none (P := Tryz.prog) (w := w) 0 39 ty 26 i0 1 Tryz.underlying39 hi _ 1 [u] own, Below.refl _ _, _, _, rfl, stay⟩
    | some ad =>
      have hr := run_append_room_cells (P := Tryz.prog) w 39 ty 26 i0 Tryz.underlying39 hi b 0 1 1 ad 0 c [] (by simp) (by intro j u h; simp at h) (by intro u h; cases h) (by omega) (by intro j h; exact absurd h (by simp)) (by intro j h; exact absurd h (by simp))
      exact ⟨_, _, hr, Below.refl _ _, _, _, rfl, stay⟩
  · obtain ⟨bx, ox, rfl, _, _⟩ := hc 0 hpos
    obtain ⟨v', w', hr, h1, h2⟩ := run_append_arg_grows (P := Tryz.prog) w 39 ty 26 i0 (.pointer none) 1 8 Tryz.underlying39 hi hz0 hz1 hz2 rfl (by decide) ⟨b, 0, none⟩ 1 1 [u] rfl
      (by
        intro j x hx
        cases j with
        | zero => rw [Addr.add_lit]; simp at hx; subst hx; exact c0
        | succ j => simp at hx)
      ⟨bx, ox, none⟩ m c ((List.range m).map xs) (by simp)
      (by
        intro j x hx
        have hj : j < m := by have := (List.getElem?_eq_some_iff.1 hx).1; simpa using this
        obtain ⟨b', o', e, _, hcell⟩ := hc j hj
        cases e
        rw [Addr.add_lit, hcell]
        simpa [hj] using hx)
      (by omega) (by unfold maxLen; omega) (by omega)
    rw [range_cons] at h1
    obtain ⟨A, c', rfl, hk, hn, hcell⟩ := ownsRow_slice (k := m + 1) (by rw [Nat.add_comm] at h1; exact h1)
    refine ⟨_, w', hr, ⟨h2.os, h2.tape, h2.output, h2.size, fun k hk => h2.block k hk (by simp)⟩, A, c', ?_, fun j hj => ?_⟩
    · rfl
    · cases A with
      | none => have := (hn rfl).1; omega
      | some a =>
        obtain ⟨g, o, sp⟩ := a
        obtain ⟨rfl, rfl, _, hg, hce⟩ := hcell g o sp rfl
        exact ⟨g, 0, rfl, hg, by rw [Nat.zero_add]; exact hce j hj⟩

section
variable {Q : Exit → Act → World → Prop} {K : Act → World → Prop} {a : Act} {w : World}
theorem op_app {o : Oper} {d s x : Nat} (ho : o.op = .call { callee := .builtin .append, args := #[.tmp s, .tmp x], argTypes := #[39, 39] }) (hd : o.dst = some d) {b m c : Nat} {u : Value} {xo : Option Addr} {xs : Nat → Value}
    (hs : slot a s = .slice (some ⟨b, 0, none⟩) 1 1) (hx : slot a x = .slice xo m c) (hb : w.heap[b]? = some (.cells #[u] 26 (0, 0))) (h0 : xo = none → m = 0 ∧ c = 0) (hc : ∀ j, j < m → ∃ b o, xo = some ⟨b, o, none⟩ ∧ b < w.heap.size ∧ w.cell? ⟨b, o + j, none⟩ = some (xs j)) (hm : m ≤ 1000)
    (h : ∀ v' w', Below w.heap.size w w' → (∃ A c, v' = .slice A (m + 1) c ∧ ∀ j, j < m + 1 → ∃ b o, A = some ⟨b, o, none⟩ ∧ b < w'.heap.size ∧ w'.cell? ⟨b, o + j, none⟩ = some (if j = 0 then u else xs (j - 1))) → K (putSlot a d v') w') : o.wp Tryz.prog a w K Q := by
  obtain ⟨v', w', hr, hbel, hv⟩ := run_app w o.type hb h0 hc hm
  refine Lib.wp_append_run w (.tmp s) (.tmp x) 39 39 ho _ _ (by rw [← hs]; simp [Act.eval, slot]) (by rw [← hx]; simp [Act.eval, slot]) v' w' hr ?_
  rw [hd]
  exact h v' w' hbel hv
end
end Go.Proofs.YthppcklegdnjdaaGreatDoor
end

/- ExactParts: the region in which its answer is reckoned, whatever the order. -/
section
namespace Go.Proofs.YthppcklegdnjdaaGreatDoor
open Go Go.RowKit Go.Deep Go.Shelf

def isV (x : Value) : Value → World → Prop := fun v _ => v = x
def isN (q : Rat) : Value → World → Prop := fun v w => RatV w v q
def isL (q : Rat) : Value → World → Prop := fun v w => ∃ b u, v = .slice (some ⟨b, 0, none⟩) 1 1 ∧ w.heap[b]? = some (.cells #[u] 26 (0, 0)) ∧ RatV w u q
def HoldsPtrs (w : World) (A : Option Addr) (n : Nat) (xs : Nat → Value) : Prop := ∀ j, j < n → ∃ b o, A = some ⟨b, o, none⟩ ∧ b < w.heap.size ∧ w.cell? ⟨b, o + j, none⟩ = some (xs j)
theorem HoldsPtrs.below {w w' : World} {A : Option Addr} {n : Nat} {xs : Nat → Value} (h : HoldsPtrs w A n xs) (hb : Below w.heap.size w w') : HoldsPtrs w' A n xs := fun j hj => by
  obtain ⟨b, o, e, h1, h2⟩ := h j hj
  exact ⟨b, o, e, Nat.lt_of_lt_of_le h1 hb.size, (hb.cell (p := ⟨b, o + j, none⟩) h1).trans h2⟩
def isS (m : Nat) (q : Rat) (xs : Nat → Value) : Value → World → Prop := fun v w => ∃ A c u, v = .slice A (m + 1) c ∧ RatV w u q ∧ HoldsPtrs w A (m + 1) (fun j => if j = 0 then u else xs (j - 1))
theorem isV_mono (x : Value) : Mono (isV x) := fun _ _ _ h _ => h
theorem isN_mono (q : Rat) : Mono (isN q) := fun _ _ _ h hb => RatV.below h hb
theorem isL_mono (q : Rat) : Mono (isL q) := fun _ _ _ ⟨b, u, h1, h2, h3⟩ hb => ⟨b, u, h1, (hb.block b (Array.getElem?_eq_some_iff.1 h2).1).trans h2, RatV.below h3 hb⟩
theorem isS_mono (m : Nat) (q : Rat) (xs : Nat → Value) : Mono (isS m q xs) := fun _ _ _ ⟨A, c, u, h1, h2, h3⟩ hb => ⟨A, c, u, h1, RatV.below h2 hb, h3.below hb⟩
theorem ratV_isPtr {w : World} {v : Value} {q : Rat} (h : RatV w v q) : ∃ b, v = .pointer (some ⟨b, 0, none⟩) := by
  obtain ⟨b, _, _, h, _⟩ := h
  exact ⟨b, h⟩

set_option maxRecDepth 100000 in
set_option maxHeartbeats 4000000 in
theorem r_parts {id : Nat} {ops : Array Oper} {Q : Exit → Act → World → Prop} {a0 : Act} {w0 : World} {nt : Nat} (size : ops.size = 35) (hn : a0.tmps.size = nt) (hnt : 89 < nt)
    (dl : ops.toList.map (·.dst) = [some 56, some 57, some 58, some 59, some 60, some 61, some 62, some 63, some 64, some 65, some 66, some 67, some 68, some 69, some 70, some 71, some 72, some 73, some 74, some 75, some 76, some 77, some 78, some 79, some 80, some 81, some 82, some 83, some 84, some 85, some 86, some 87, some 88, some 89, some 4])
    (dag : ∀ (i : Nat) (o : Oper), ops[i]? = some o → ∀ e : Edge, e ∈ o.after → e.on < i)
    {o0 : Oper} (e0 : ops[0]? = some o0) (k0 : o0.op = .move (.tmp 11)) (g0 : o0.guard = none)
    {o1 : Oper} (e1 : ops[1]? = some o1) (k1 : o1.op = .move (.tmp 6)) (g1 : o1.guard = none)
    {o2 : Oper} (e2 : ops[2]? = some o2) (k2 : o2.op = .call { callee := .value (.func 14), args := #[.tmp 57], argTypes := #[39] }) (g2 : o2.guard = none) (f2_1 : (o2.after.any fun e => e.on == 1 && Region.binds .any e) = true)
    {o3 : Oper} (e3 : ops[3]? = some o3) (k3 : o3.op = .call { callee := .value (.func 10), args := #[.tmp 56, .tmp 58], argTypes := #[26, 26] }) (g3 : o3.guard = none) (f3_0 : (o3.after.any fun e => e.on == 0 && Region.binds .any e) = true) (f3_2 : (o3.after.any fun e => e.on == 2 && Region.binds .any e) = true)
    {o4 : Oper} (e4 : ops[4]? = some o4) (k4 : o4.op = .move (.tmp 59)) (g4 : o4.guard = none) (f4_3 : (o4.after.any fun e => e.on == 3 && Region.binds .any e) = true)
    {o5 : Oper} (e5 : ops[5]? = some o5) (k5 : o5.op = .move (.tmp 11)) (g5 : o5.guard = some (4, true)) (f5_4 : (o5.after.any fun e => e.on == 4 && Region.binds .any e) = true)
    {o6 : Oper} (e6 : ops[6]? = some o6) (k6 : o6.op = .move (.tmp 5)) (g6 : o6.guard = some (4, true)) (f6_4 : (o6.after.any fun e => e.on == 4 && Region.binds .any e) = true)
    {o7 : Oper} (e7 : ops[7]? = some o7) (k7 : o7.op = .move (.tmp 10)) (g7 : o7.guard = some (4, true)) (f7_4 : (o7.after.any fun e => e.on == 4 && Region.binds .any e) = true)
    {o8 : Oper} (e8 : ops[8]? = some o8) (k8 : o8.op = .slice 39 (.tmp 62) none (some (.tmp 63)) none) (g8 : o8.guard = some (4, true)) (f8_6 : (o8.after.any fun e => e.on == 6 && Region.binds .any e) = true) (f8_7 : (o8.after.any fun e => e.on == 7 && Region.binds .any e) = true) (f8_4 : (o8.after.any fun e => e.on == 4 && Region.binds .any e) = true)
    {o9 : Oper} (e9 : ops[9]? = some o9) (k9 : o9.op = .call { callee := .value (.func 14), args := #[.tmp 64], argTypes := #[39] }) (g9 : o9.guard = some (4, true)) (f9_8 : (o9.after.any fun e => e.on == 8 && Region.binds .any e) = true) (f9_4 : (o9.after.any fun e => e.on == 4 && Region.binds .any e) = true)
    {o10 : Oper} (e10 : ops[10]? = some o10) (k10 : o10.op = .move (.tmp 5)) (g10 : o10.guard = some (4, true)) (f10_4 : (o10.after.any fun e => e.on == 4 && Region.binds .any e) = true)
    {o11 : Oper} (e11 : ops[11]? = some o11) (k11 : o11.op = .move (.tmp 10)) (g11 : o11.guard = some (4, true)) (f11_4 : (o11.after.any fun e => e.on == 4 && Region.binds .any e) = true)
    {o12 : Oper} (e12 : ops[12]? = some o12) (k12 : o12.op = .slice 39 (.tmp 66) (some (.tmp 67)) none none) (g12 : o12.guard = some (4, true)) (f12_10 : (o12.after.any fun e => e.on == 10 && Region.binds .any e) = true) (f12_11 : (o12.after.any fun e => e.on == 11 && Region.binds .any e) = true) (f12_4 : (o12.after.any fun e => e.on == 4 && Region.binds .any e) = true)
    {o13 : Oper} (e13 : ops[13]? = some o13) (k13 : o13.op = .call { callee := .value (.func 14), args := #[.tmp 68], argTypes := #[39] }) (g13 : o13.guard = some (4, true)) (f13_12 : (o13.after.any fun e => e.on == 12 && Region.binds .any e) = true) (f13_4 : (o13.after.any fun e => e.on == 4 && Region.binds .any e) = true)
    {o14 : Oper} (e14 : ops[14]? = some o14) (k14 : o14.op = .call { callee := .value (.func 15), args := #[.tmp 65, .tmp 69], argTypes := #[26, 26] }) (g14 : o14.guard = some (4, true)) (f14_9 : (o14.after.any fun e => e.on == 9 && Region.binds .any e) = true) (f14_13 : (o14.after.any fun e => e.on == 13 && Region.binds .any e) = true) (f14_4 : (o14.after.any fun e => e.on == 4 && Region.binds .any e) = true)
    {o15 : Oper} (e15 : ops[15]? = some o15) (k15 : o15.op = .call { callee := .value (.func 10), args := #[.tmp 61, .tmp 70], argTypes := #[26, 26] }) (g15 : o15.guard = some (4, true)) (f15_5 : (o15.after.any fun e => e.on == 5 && Region.binds .any e) = true) (f15_14 : (o15.after.any fun e => e.on == 14 && Region.binds .any e) = true) (f15_4 : (o15.after.any fun e => e.on == 4 && Region.binds .any e) = true)
    {o16 : Oper} (e16 : ops[16]? = some o16) (k16 : o16.op = .pick (.tmp 60) (.tmp 71) (.const (.bool false))) (g16 : o16.guard = none) (f16_4 : (o16.after.any fun e => e.on == 4 && Region.binds .any e) = true) (f16_15 : (o16.after.any fun e => e.on == 15 && Region.binds .any e) = true)
    {o17 : Oper} (e17 : ops[17]? = some o17) (k17 : o17.op = .move (.tmp 72)) (g17 : o17.guard = none) (f17_16 : (o17.after.any fun e => e.on == 16 && Region.binds .any e) = true)
    {o18 : Oper} (e18 : ops[18]? = some o18) (k18 : o18.op = .move (.tmp 11)) (g18 : o18.guard = some (17, true)) (f18_17 : (o18.after.any fun e => e.on == 17 && Region.binds .any e) = true)
    {o19 : Oper} (e19 : ops[19]? = some o19) (k19 : o19.op = .move (.tmp 5)) (g19 : o19.guard = some (17, true)) (f19_17 : (o19.after.any fun e => e.on == 17 && Region.binds .any e) = true)
    {o20 : Oper} (e20 : ops[20]? = some o20) (k20 : o20.op = .move (.tmp 10)) (g20 : o20.guard = some (17, true)) (f20_17 : (o20.after.any fun e => e.on == 17 && Region.binds .any e) = true)
    {o21 : Oper} (e21 : ops[21]? = some o21) (k21 : o21.op = .slice 39 (.tmp 75) none (some (.tmp 76)) none) (g21 : o21.guard = some (17, true)) (f21_19 : (o21.after.any fun e => e.on == 19 && Region.binds .any e) = true) (f21_20 : (o21.after.any fun e => e.on == 20 && Region.binds .any e) = true) (f21_17 : (o21.after.any fun e => e.on == 17 && Region.binds .any e) = true)
    {o22 : Oper} (e22 : ops[22]? = some o22) (k22 : o22.op = .call { callee := .value (.func 14), args := #[.tmp 77], argTypes := #[39] }) (g22 : o22.guard = some (17, true)) (f22_21 : (o22.after.any fun e => e.on == 21 && Region.binds .any e) = true) (f22_17 : (o22.after.any fun e => e.on == 17 && Region.binds .any e) = true)
    {o23 : Oper} (e23 : ops[23]? = some o23) (k23 : o23.op = .buildSlice 39 1 #[(0, .tmp 78)]) (g23 : o23.guard = some (17, true)) (f23_22 : (o23.after.any fun e => e.on == 22 && Region.binds .any e) = true) (f23_17 : (o23.after.any fun e => e.on == 17 && Region.binds .any e) = true)
    {o24 : Oper} (e24 : ops[24]? = some o24) (k24 : o24.op = .move (.tmp 5)) (g24 : o24.guard = some (17, true)) (f24_17 : (o24.after.any fun e => e.on == 17 && Region.binds .any e) = true)
    {o25 : Oper} (e25 : ops[25]? = some o25) (k25 : o25.op = .move (.tmp 10)) (g25 : o25.guard = some (17, true)) (f25_17 : (o25.after.any fun e => e.on == 17 && Region.binds .any e) = true)
    {o26 : Oper} (e26 : ops[26]? = some o26) (k26 : o26.op = .slice 39 (.tmp 80) (some (.tmp 81)) none none) (g26 : o26.guard = some (17, true)) (f26_24 : (o26.after.any fun e => e.on == 24 && Region.binds .any e) = true) (f26_25 : (o26.after.any fun e => e.on == 25 && Region.binds .any e) = true) (f26_17 : (o26.after.any fun e => e.on == 17 && Region.binds .any e) = true)
    {o27 : Oper} (e27 : ops[27]? = some o27) (k27 : o27.op = .call { callee := .builtin .append, args := #[.tmp 79, .tmp 82], argTypes := #[39, 39] }) (g27 : o27.guard = some (17, true)) (f27_23 : (o27.after.any fun e => e.on == 23 && Region.binds .any e) = true) (f27_26 : (o27.after.any fun e => e.on == 26 && Region.binds .any e) = true) (f27_17 : (o27.after.any fun e => e.on == 17 && Region.binds .any e) = true)
    {o28 : Oper} (e28 : ops[28]? = some o28) (k28 : o28.op = .call { callee := .value (.func 14), args := #[.tmp 83], argTypes := #[39] }) (g28 : o28.guard = some (17, true)) (f28_27 : (o28.after.any fun e => e.on == 27 && Region.binds .any e) = true) (f28_17 : (o28.after.any fun e => e.on == 17 && Region.binds .any e) = true)
    {o29 : Oper} (e29 : ops[29]? = some o29) (k29 : o29.op = .call { callee := .value (.func 10), args := #[.tmp 74, .tmp 84], argTypes := #[26, 26] }) (g29 : o29.guard = some (17, true)) (f29_18 : (o29.after.any fun e => e.on == 18 && Region.binds .any e) = true) (f29_28 : (o29.after.any fun e => e.on == 28 && Region.binds .any e) = true) (f29_17 : (o29.after.any fun e => e.on == 17 && Region.binds .any e) = true)
    {o30 : Oper} (e30 : ops[30]? = some o30) (k30 : o30.op = .pick (.tmp 73) (.tmp 85) (.const (.bool false))) (g30 : o30.guard = none) (f30_17 : (o30.after.any fun e => e.on == 17 && Region.binds .any e) = true) (f30_29 : (o30.after.any fun e => e.on == 29 && Region.binds .any e) = true)
    {o31 : Oper} (e31 : ops[31]? = some o31) (k31 : o31.op = .move (.tmp 86)) (g31 : o31.guard = none) (f31_30 : (o31.after.any fun e => e.on == 30 && Region.binds .any e) = true)
    {o32 : Oper} (e32 : ops[32]? = some o32) (k32 : o32.op = .call { callee := .value (.func 6), args := #[], argTypes := #[] }) (g32 : o32.guard = some (31, true)) (f32_31 : (o32.after.any fun e => e.on == 31 && Region.binds .any e) = true)
    {o33 : Oper} (e33 : ops[33]? = some o33) (k33 : o33.op = .pick (.tmp 87) (.tmp 88) (.const (.bool false))) (g33 : o33.guard = none) (f33_31 : (o33.after.any fun e => e.on == 31 && Region.binds .any e) = true) (f33_32 : (o33.after.any fun e => e.on == 32 && Region.binds .any e) = true)
    {o34 : Oper} (e34 : ops[34]? = some o34) (k34 : o34.op = .assign (.tmp 89)) (g34 : o34.guard = none) (f34_33 : (o34.after.any fun e => e.on == 33 && Region.binds .any e) = true)
    {X Y X1 X2 : Option Addr} {t c c' d m bx : Nat} {S s1 s2 : Rat} {xs : Nat → Value}
    (s5 : slot a0 5 = .slice X t c) (s6 : slot a0 6 = .slice Y t c') (s10 : slot a0 10 = .int .i64 (d : Int)) (s11 : slot a0 11 = .pointer (some ⟨bx, 0, none⟩))
    (hs1 : ∀ W, (Instr.sliceAt 39 (.slice X t c) none (some (.int .i64 (d : Int))) none).run Tryz.prog W = .ok (.slice X1 d c) W)
    (hs2 : ∀ W, (Instr.sliceAt 39 (.slice X t c) (some (.int .i64 (d : Int))) none none).run Tryz.prog W = .ok (.slice X2 m (c - d)) W)
    (h20 : X2 = none → m = 0 ∧ c - d = 0) (hm : m ≤ 1000) (hc2 : ∀ W, Below w0.heap.size w0 W → HoldsPtrs W X2 m xs)
    (VB : ∀ W, Below w0.heap.size w0 W → Calls Tryz.prog 14 #[.slice Y t c'] W (RatVRet W S))
    (V1 : ∀ W, Below w0.heap.size w0 W → Calls Tryz.prog 14 #[.slice X1 d c] W (RatVRet W s1))
    (V2 : ∀ W, Below w0.heap.size w0 W → Calls Tryz.prog 14 #[.slice X2 m (c - d)] W (RatVRet W s2))
    (V3 : ∀ W A c u, Below w0.heap.size w0 W → RatV W u s1 → HoldsPtrs W A (m + 1) (fun j => if j = 0 then u else xs (j - 1)) → Calls Tryz.prog 14 #[.slice A (m + 1) c] W (RatVRet W S))
    (VA : ∀ W x y, RatV W x s1 → RatV W y s2 → Calls Tryz.prog 15 #[x, y] W (RatVRet W S))
    (VE : ∀ W y, Below w0.heap.size w0 W → RatV W y S → Calls Tryz.prog 10 #[.pointer (some ⟨bx, 0, none⟩), y] W fun e w' => e = .returned (.bool true) ∧ Below W.heap.size W w')
    (VW : ∀ W, Below w0.heap.size w0 W → Calls Tryz.prog 6 #[] W fun e w' => e = .returned (.bool true) ∧ Below W.heap.size W w')
    (done : ∀ a w, a.tmps.size = nt → a.defers = a0.defers → Below w0.heap.size w0 w → slot a 4 = .bool true → Q .normal a w) :
    (Code.region id ops true).wp Tryz.prog Q a0 w0 := by
  have d0 := dst_of' dl e0 (d := 56) rfl
  have d1 := dst_of' dl e1 (d := 57) rfl
  have d2 := dst_of' dl e2 (d := 58) rfl
  have d3 := dst_of' dl e3 (d := 59) rfl
  have d4 := dst_of' dl e4 (d := 60) rfl
  have d5 := dst_of' dl e5 (d := 61) rfl
  have d6 := dst_of' dl e6 (d := 62) rfl
  have d7 := dst_of' dl e7 (d := 63) rfl
  have d8 := dst_of' dl e8 (d := 64) rfl
  have d9 := dst_of' dl e9 (d := 65) rfl
  have d10 := dst_of' dl e10 (d := 66) rfl
  have d11 := dst_of' dl e11 (d := 67) rfl
  have d12 := dst_of' dl e12 (d := 68) rfl
  have d13 := dst_of' dl e13 (d := 69) rfl
  have d14 := dst_of' dl e14 (d := 70) rfl
  have d15 := dst_of' dl e15 (d := 71) rfl
  have d16 := dst_of' dl e16 (d := 72) rfl
  have d17 := dst_of' dl e17 (d := 73) rfl
  have d18 := dst_of' dl e18 (d := 74) rfl
  have d19 := dst_of' dl e19 (d := 75) rfl
  have d20 := dst_of' dl e20 (d := 76) rfl
  have d21 := dst_of' dl e21 (d := 77) rfl
  have d22 := dst_of' dl e22 (d := 78) rfl
  have d23 := dst_of' dl e23 (d := 79) rfl
  have d24 := dst_of' dl e24 (d := 80) rfl
  have d25 := dst_of' dl e25 (d := 81) rfl
  have d26 := dst_of' dl e26 (d := 82) rfl
  have d27 := dst_of' dl e27 (d := 83) rfl
  have d28 := dst_of' dl e28 (d := 84) rfl
  have d29 := dst_of' dl e29 (d := 85) rfl
  have d30 := dst_of' dl e30 (d := 86) rfl
  have d31 := dst_of' dl e31 (d := 87) rfl
  have d32 := dst_of' dl e32 (d := 88) rfl
  have d33 := dst_of' dl e33 (d := 89) rfl
  have d34 := dst_of' dl e34 (d := 4) rfl
  have ap : ∀ (i j : Nat) (x y : Oper) (t : Nat), ops[i]? = some x → ops[j]? = some y → x.dst = some t → y.dst = some t → i = j := apart_of dl (by decide)
  have mono : ∀ p ∈ [isV (.pointer (some ⟨bx, 0, none⟩)), isV (.slice Y t c'), isN S, isV (.bool true), isV (.bool true), isV (.pointer (some ⟨bx, 0, none⟩)), isV (.slice X t c), isV (.int .i64 (d : Int)), isV (.slice X1 d c), isN s1, isV (.slice X t c), isV (.int .i64 (d : Int)), isV (.slice X2 m (c - d)), isN s2, isN S, isV (.bool true), isV (.bool true), isV (.bool true), isV (.pointer (some ⟨bx, 0, none⟩)), isV (.slice X t c), isV (.int .i64 (d : Int)), isV (.slice X1 d c), isN s1, isL s1, isV (.slice X t c), isV (.int .i64 (d : Int)), isV (.slice X2 m (c - d)), isS m s1 xs, isN S, isV (.bool true), isV (.bool true), isV (.bool true), isV (.bool true), isV (.bool true), isV (.bool true)], Mono p := by
    intro p hp
    simp only [List.mem_cons, List.not_mem_nil, or_false] at hp
    rcases hp with rfl | rfl | rfl | rfl | rfl | rfl | rfl | rfl | rfl | rfl | rfl | rfl | rfl | rfl | rfl | rfl | rfl | rfl | rfl | rfl | rfl | rfl | rfl | rfl | rfl | rfl | rfl | rfl | rfl | rfl | rfl | rfl | rfl | rfl | rfl <;> first | exact isV_mono _ | exact isN_mono _ | exact isL_mono _ | exact isS_mono _ _ _
  have eS : Enters Tryz.prog 14 := enters_of Tryz.func14 (by kernel_rfl) rfl
  have eE : Enters Tryz.prog 10 := enters_of Tryz.func10 (by kernel_rfl) rfl
  have eA : Enters Tryz.prog 15 := enters_of Tryz.func15 (by kernel_rfl) rfl
  have eW : Enters Tryz.prog 6 := enters_of Tryz.func6 (by kernel_rfl) rfl
  refine wp_region_T (T := TL [isV (.pointer (some ⟨bx, 0, none⟩)), isV (.slice Y t c'), isN S, isV (.bool true), isV (.bool true), isV (.pointer (some ⟨bx, 0, none⟩)), isV (.slice X t c), isV (.int .i64 (d : Int)), isV (.slice X1 d c), isN s1, isV (.slice X t c), isV (.int .i64 (d : Int)), isV (.slice X2 m (c - d)), isN s2, isN S, isV (.bool true), isV (.bool true), isV (.bool true), isV (.pointer (some ⟨bx, 0, none⟩)), isV (.slice X t c), isV (.int .i64 (d : Int)), isV (.slice X1 d c), isN s1, isL s1, isV (.slice X t c), isV (.int .i64 (d : Int)), isV (.slice X2 m (c - d)), isS m s1 xs, isN S, isV (.bool true), isV (.bool true), isV (.bool true), isV (.bool true), isV (.bool true), isV (.bool true)]) (by kernel_rfl) dag ?_ ?_
  · intro listed a w i H hi
    have hlt := (mem_ready hi).1
    rw [size] at hlt
    rcases (by omega : i = 0 ∨ i = 1 ∨ i = 2 ∨ i = 3 ∨ i = 4 ∨ i = 5 ∨ i = 6 ∨ i = 7 ∨ i = 8 ∨ i = 9 ∨ i = 10 ∨ i = 11 ∨ i = 12 ∨ i = 13 ∨ i = 14 ∨ i = 15 ∨ i = 16 ∨ i = 17 ∨ i = 18 ∨ i = 19 ∨ i = 20 ∨ i = 21 ∨ i = 22 ∨ i = 23 ∨ i = 24 ∨ i = 25 ∨ i = 26 ∨ i = 27 ∨ i = 28 ∨ i = 29 ∨ i = 30 ∨ i = 31 ∨ i = 32 ∨ i = 33 ∨ i = 34) with rfl | rfl | rfl | rfl | rfl | rfl | rfl | rfl | rfl | rfl | rfl | rfl | rfl | rfl | rfl | rfl | rfl | rfl | rfl | rfl | rfl | rfl | rfl | rfl | rfl | rfl | rfl | rfl | rfl | rfl | rfl | rfl | rfl | rfl | rfl
    · exact wpOp_of e0 (.inl g0) (op_move k0 d0 ((H.old 11 (old_of' dl 11 (by decide))).trans s11) (H.over mono ap e0 d0 (by omega) (Below.refl _ _) (show _ = _ from rfl)))
    · exact wpOp_of e1 (.inl g1) (op_move k1 d1 ((H.old 6 (old_of' dl 6 (by decide))).trans s6) (H.over mono ap e1 d1 (by omega) (Below.refl _ _) (show _ = _ from rfl)))
    · exact wpOp_of e2 (.inl g2) (op_T1 k2 d2 (H.got' hi e2 f2_1 e1 d1) eS ((VB w H.below).mono fun e w' ⟨u, h1, h2, h3⟩ => ⟨u, h1, (H.over mono ap e2 d2 (by omega) h3 h2)⟩))
    · exact wpOp_of e3 (.inl g3) (op_T2 k3 d3 (H.got' hi e3 f3_0 e0 d0) rfl eE ((VE w _ H.below (H.got' hi e3 f3_2 e2 d2)).mono fun e w' ⟨h1, h3⟩ => ⟨_, h1, (H.over mono ap e3 d3 (by omega) h3 (show _ = _ from rfl))⟩))
    · exact wpOp_of e4 (.inl g4) (op_move k4 d4 (H.got' hi e4 f4_3 e3 d3) (H.over mono ap e4 d4 (by omega) (Below.refl _ _) (show _ = _ from rfl)))
    · exact wpOp_of e5 (.inr ⟨4, true, o4, 60, g5, e4, d4, (H.got' hi e5 f5_4 e4 d4)⟩) (op_move k5 d5 ((H.old 11 (old_of' dl 11 (by decide))).trans s11) (H.over mono ap e5 d5 (by omega) (Below.refl _ _) (show _ = _ from rfl)))
    · exact wpOp_of e6 (.inr ⟨4, true, o4, 60, g6, e4, d4, (H.got' hi e6 f6_4 e4 d4)⟩) (op_move k6 d6 ((H.old 5 (old_of' dl 5 (by decide))).trans s5) (H.over mono ap e6 d6 (by omega) (Below.refl _ _) (show _ = _ from rfl)))
    · exact wpOp_of e7 (.inr ⟨4, true, o4, 60, g7, e4, d4, (H.got' hi e7 f7_4 e4 d4)⟩) (op_move k7 d7 ((H.old 10 (old_of' dl 10 (by decide))).trans s10) (H.over mono ap e7 d7 (by omega) (Below.refl _ _) (show _ = _ from rfl)))
    · exact wpOp_of e8 (.inr ⟨4, true, o4, 60, g8, e4, d4, (H.got' hi e8 f8_4 e4 d4)⟩) (op_slH k8 d8 (H.got' hi e8 f8_6 e6 d6) (H.got' hi e8 f8_7 e7 d7) hs1 (H.over mono ap e8 d8 (by omega) (Below.refl _ _) (show _ = _ from rfl)))
    · exact wpOp_of e9 (.inr ⟨4, true, o4, 60, g9, e4, d4, (H.got' hi e9 f9_4 e4 d4)⟩) (op_T1 k9 d9 (H.got' hi e9 f9_8 e8 d8) eS ((V1 w H.below).mono fun e w' ⟨u, h1, h2, h3⟩ => ⟨u, h1, (H.over mono ap e9 d9 (by omega) h3 h2)⟩))
    · exact wpOp_of e10 (.inr ⟨4, true, o4, 60, g10, e4, d4, (H.got' hi e10 f10_4 e4 d4)⟩) (op_move k10 d10 ((H.old 5 (old_of' dl 5 (by decide))).trans s5) (H.over mono ap e10 d10 (by omega) (Below.refl _ _) (show _ = _ from rfl)))
    · exact wpOp_of e11 (.inr ⟨4, true, o4, 60, g11, e4, d4, (H.got' hi e11 f11_4 e4 d4)⟩) (op_move k11 d11 ((H.old 10 (old_of' dl 10 (by decide))).trans s10) (H.over mono ap e11 d11 (by omega) (Below.refl _ _) (show _ = _ from rfl)))
    · exact wpOp_of e12 (.inr ⟨4, true, o4, 60, g12, e4, d4, (H.got' hi e12 f12_4 e4 d4)⟩) (op_slL k12 d12 (H.got' hi e12 f12_10 e10 d10) (H.got' hi e12 f12_11 e11 d11) hs2 (H.over mono ap e12 d12 (by omega) (Below.refl _ _) (show _ = _ from rfl)))
    · exact wpOp_of e13 (.inr ⟨4, true, o4, 60, g13, e4, d4, (H.got' hi e13 f13_4 e4 d4)⟩) (op_T1 k13 d13 (H.got' hi e13 f13_12 e12 d12) eS ((V2 w H.below).mono fun e w' ⟨u, h1, h2, h3⟩ => ⟨u, h1, (H.over mono ap e13 d13 (by omega) h3 h2)⟩))
    · exact wpOp_of e14 (.inr ⟨4, true, o4, 60, g14, e4, d4, (H.got' hi e14 f14_4 e4 d4)⟩) (op_T2 k14 d14 rfl rfl eA ((VA w _ _ (H.got' hi e14 f14_9 e9 d9) (H.got' hi e14 f14_13 e13 d13)).mono fun e w' ⟨u, h1, h2, h3⟩ => ⟨u, h1, (H.over mono ap e14 d14 (by omega) h3 h2)⟩))
    · exact wpOp_of e15 (.inr ⟨4, true, o4, 60, g15, e4, d4, (H.got' hi e15 f15_4 e4 d4)⟩) (op_T2 k15 d15 (H.got' hi e15 f15_5 e5 d5) rfl eE ((VE w _ H.below (H.got' hi e15 f15_14 e14 d14)).mono fun e w' ⟨h1, h3⟩ => ⟨_, h1, (H.over mono ap e15 d15 (by omega) h3 (show _ = _ from rfl))⟩))
    · exact wpOp_of e16 (.inl g16) (op_pickT k16 d16 (H.got' hi e16 f16_4 e4 d4) (H.got' hi e16 f16_15 e15 d15) (H.over mono ap e16 d16 (by omega) (Below.refl _ _) (show _ = _ from rfl)))
    · exact wpOp_of e17 (.inl g17) (op_move k17 d17 (H.got' hi e17 f17_16 e16 d16) (H.over mono ap e17 d17 (by omega) (Below.refl _ _) (show _ = _ from rfl)))
    · exact wpOp_of e18 (.inr ⟨17, true, o17, 73, g18, e17, d17, (H.got' hi e18 f18_17 e17 d17)⟩) (op_move k18 d18 ((H.old 11 (old_of' dl 11 (by decide))).trans s11) (H.over mono ap e18 d18 (by omega) (Below.refl _ _) (show _ = _ from rfl)))
    · exact wpOp_of e19 (.inr ⟨17, true, o17, 73, g19, e17, d17, (H.got' hi e19 f19_17 e17 d17)⟩) (op_move k19 d19 ((H.old 5 (old_of' dl 5 (by decide))).trans s5) (H.over mono ap e19 d19 (by omega) (Below.refl _ _) (show _ = _ from rfl)))
    · exact wpOp_of e20 (.inr ⟨17, true, o17, 73, g20, e17, d17, (H.got' hi e20 f20_17 e17 d17)⟩) (op_move k20 d20 ((H.old 10 (old_of' dl 10 (by decide))).trans s10) (H.over mono ap e20 d20 (by omega) (Below.refl _ _) (show _ = _ from rfl)))
    · exact wpOp_of e21 (.inr ⟨17, true, o17, 73, g21, e17, d17, (H.got' hi e21 f21_17 e17 d17)⟩) (op_slH k21 d21 (H.got' hi e21 f21_19 e19 d19) (H.got' hi e21 f21_20 e20 d20) hs1 (H.over mono ap e21 d21 (by omega) (Below.refl _ _) (show _ = _ from rfl)))
    · exact wpOp_of e22 (.inr ⟨17, true, o17, 73, g22, e17, d17, (H.got' hi e22 f22_17 e17 d17)⟩) (op_T1 k22 d22 (H.got' hi e22 f22_21 e21 d21) eS ((V1 w H.below).mono fun e w' ⟨u, h1, h2, h3⟩ => ⟨u, h1, (H.over mono ap e22 d22 (by omega) h3 h2)⟩))
    · have hu : RatV w (slot a 78) s1 := (H.got' hi e23 f23_22 e22 d22)
      obtain ⟨bu, hbu⟩ := ratV_isPtr hu
      rw [hbu] at hu
      have hbl := (Below.refl w.heap.size w).alloc (Nat.le_refl _) (.cells #[.pointer (some ⟨bu, 0, none⟩)] 26)
      exact wpOp_of e23 (.inr ⟨17, true, o17, 73, g23, e17, d17, (H.got' hi e23 f23_17 e17 d17)⟩) (op_one k23 d23 hbu (H.over mono ap e23 d23 (by omega) hbl ⟨w.heap.size, _, rfl, heap_alloc_new w _, hu.below hbl⟩))
    · exact wpOp_of e24 (.inr ⟨17, true, o17, 73, g24, e17, d17, (H.got' hi e24 f24_17 e17 d17)⟩) (op_move k24 d24 ((H.old 5 (old_of' dl 5 (by decide))).trans s5) (H.over mono ap e24 d24 (by omega) (Below.refl _ _) (show _ = _ from rfl)))
    · exact wpOp_of e25 (.inr ⟨17, true, o17, 73, g25, e17, d17, (H.got' hi e25 f25_17 e17 d17)⟩) (op_move k25 d25 ((H.old 10 (old_of' dl 10 (by decide))).trans s10) (H.over mono ap e25 d25 (by omega) (Below.refl _ _) (show _ = _ from rfl)))
    · exact wpOp_of e26 (.inr ⟨17, true, o17, 73, g26, e17, d17, (H.got' hi e26 f26_17 e17 d17)⟩) (op_slL k26 d26 (H.got' hi e26 f26_24 e24 d24) (H.got' hi e26 f26_25 e25 d25) hs2 (H.over mono ap e26 d26 (by omega) (Below.refl _ _) (show _ = _ from rfl)))
    · obtain ⟨b, u, hv, hh, hu⟩ := (H.got' hi e27 f27_23 e23 d23)
      exact wpOp_of e27 (.inr ⟨17, true, o17, 73, g27, e17, d17, (H.got' hi e27 f27_17 e17 d17)⟩) (op_app k27 d27 hv (H.got' hi e27 f27_26 e26 d26) hh h20 (hc2 w H.below) hm fun v' w' hb ⟨A, c9, h1, h2⟩ => (H.over mono ap e27 d27 (by omega) hb ⟨A, c9, u, h1, hu.below hb, h2⟩))
    · obtain ⟨A, c9, u, hv, hu, hx⟩ := (H.got' hi e28 f28_27 e27 d27)
      exact wpOp_of e28 (.inr ⟨17, true, o17, 73, g28, e17, d17, (H.got' hi e28 f28_17 e17 d17)⟩) (op_T1 k28 d28 hv eS ((V3 w A c9 u H.below hu hx).mono fun e w' ⟨u, h1, h2, h3⟩ => ⟨u, h1, (H.over mono ap e28 d28 (by omega) h3 h2)⟩))
    · exact wpOp_of e29 (.inr ⟨17, true, o17, 73, g29, e17, d17, (H.got' hi e29 f29_17 e17 d17)⟩) (op_T2 k29 d29 (H.got' hi e29 f29_18 e18 d18) rfl eE ((VE w _ H.below (H.got' hi e29 f29_28 e28 d28)).mono fun e w' ⟨h1, h3⟩ => ⟨_, h1, (H.over mono ap e29 d29 (by omega) h3 (show _ = _ from rfl))⟩))
    · exact wpOp_of e30 (.inl g30) (op_pickT k30 d30 (H.got' hi e30 f30_17 e17 d17) (H.got' hi e30 f30_29 e29 d29) (H.over mono ap e30 d30 (by omega) (Below.refl _ _) (show _ = _ from rfl)))
    · exact wpOp_of e31 (.inl g31) (op_move k31 d31 (H.got' hi e31 f31_30 e30 d30) (H.over mono ap e31 d31 (by omega) (Below.refl _ _) (show _ = _ from rfl)))
    · exact wpOp_of e32 (.inr ⟨31, true, o31, 87, g32, e31, d31, (H.got' hi e32 f32_31 e31 d31)⟩) (op_T0 k32 d32 eW ((VW w H.below).mono fun e w' ⟨h1, h3⟩ => ⟨_, h1, (H.over mono ap e32 d32 (by omega) h3 (show _ = _ from rfl))⟩))
    · exact wpOp_of e33 (.inl g33) (op_pickT k33 d33 (H.got' hi e33 f33_31 e31 d31) (H.got' hi e33 f33_32 e32 d32) (H.over mono ap e33 d33 (by omega) (Below.refl _ _) (show _ = _ from rfl)))
    · exact wpOp_of e34 (.inl g34) (op_assign k34 d34 (H.got' hi e34 f34_33 e33 d33) (H.over mono ap e34 d34 (by omega) (Below.refl _ _) (show _ = _ from rfl)))
  · intro a w H
    refine done a w (H.frame.trans hn) H.defers H.below (H.got 34 o34 4 e34 d34 ?_)
    rw [size]
    rfl
end Go.Proofs.YthppcklegdnjdaaGreatDoor
end

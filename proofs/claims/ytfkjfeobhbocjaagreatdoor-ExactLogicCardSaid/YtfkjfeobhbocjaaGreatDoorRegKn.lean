/- A region whose order is open: each operation's result known, whatever the order. -/
import Derived.Test.YtfkjfeobhbocjaaGreatDoorRegOp
namespace Go.Proofs.YtfkjfeobhbocjaaGreatDoor
open Go Go.RowKit Go.Deep

/-- What an operation leaves: this value; a slice of a new block with these cells; or a new value's box. -/
inductive Desc
  | c (v : Value)
  | s (n : Nat) (cells : Array Value)
  | box
def Desc.holds (B : Nat) : Desc → Value → World → Prop
  | .c x, v, _ => v = x
  | .s n cells, v, w => ∃ b, v = .slice (some ⟨b, 0, none⟩) n n ∧ w.heap[b]? = some (.cells cells 46 (0, 0))
  | .box, v, w => ∃ b, v = .pointer (some ⟨b, 0, none⟩) ∧ B ≤ b ∧ w.heap[b]? = some (.cells #[.int .i64 0, .int .i64 0, .int .i64 0, .string ⟨#[]⟩] 46 (0, 0))
theorem Desc.stays {B : Nat} (x : Desc) (v : Value) (w w' : World) (h : x.holds B v w) (hb : Below w.heap.size w w') : x.holds B v w' := by
  cases x with
  | c y => exact h
  | s n cells =>
    obtain ⟨b, h1, h2⟩ := h
    exact ⟨b, h1, (hb.block b (Array.getElem?_eq_some_iff.1 h2).1).trans h2⟩
  | box =>
    obtain ⟨b, h1, h3, h2⟩ := h
    exact ⟨b, h1, h3, (hb.block b (Array.getElem?_eq_some_iff.1 h2).1).trans h2⟩
def Kn (B : Nat) (L : List Desc) (i : Nat) (v : Value) (w : World) : Prop := (L.getD i (.c undef)).holds B v w

section
variable {ops : Array Oper} {Q : Exit → Act → World → Prop}

theorem apart_of {l : List (Option Nat)} (h : ops.toList.map (·.dst) = l) (hn : (List.range l.length).all (fun i => (List.range l.length).all fun j => i == j || l[i]? != l[j]? || l[i]? == some none) = true) :
    ∀ (i j : Nat) (x y : Oper) (t : Nat), ops[i]? = some x → ops[j]? = some y → x.dst = some t → y.dst = some t → i = j := by
  intro i j x y t hi hj hx hy
  have li : l[i]? = some (some t) := by rw [← h, List.getElem?_map, Array.getElem?_toList, hi]; simp [hx]
  have lj : l[j]? = some (some t) := by rw [← h, List.getElem?_map, Array.getElem?_toList, hj]; simp [hy]
  have a1 := List.all_eq_true.1 hn i (List.mem_range.2 (List.getElem?_eq_some_iff.1 li).1)
  have a2 := List.all_eq_true.1 a1 j (List.mem_range.2 (List.getElem?_eq_some_iff.1 lj).1)
  rw [li, lj] at a2
  simpa using a2

theorem all_listed {listed : Array Bool} (hs : listed.size = ops.size) (dag : ∀ (i : Nat) (o : Oper), ops[i]? = some o → ∀ e : Edge, e ∈ o.after → e.on < i) (hr : Region.ready .any ops listed = []) : ∀ i, i < ops.size → listed.getD i false = true := by
  intro i
  induction i using Nat.strongRecOn with
  | _ i ih =>
    intro hi
    cases hl : listed.getD i false with
    | true => rfl
    | false =>
      exfalso
      have hmem : i ∈ Region.ready .any ops listed := by
        unfold Region.ready
        rw [List.mem_filter, List.mem_range]
        refine ⟨hi, ?_⟩
        have h1 : listed.getD i true = false := by
          rw [Array.getD, dif_pos (by omega)] at hl ⊢
          exact hl
        rw [h1, Array.getElem?_eq_getElem hi]
        simp only [Bool.not_false, Bool.true_and, Option.map_some, Option.getD_some, Array.all_eq_true_iff_forall_mem]
        intro e he
        have := ih e.on (dag i _ (Array.getElem?_eq_getElem hi) e he) (by have := dag i _ (Array.getElem?_eq_getElem hi) e he; omega)
        rw [this]; simp
      rw [hr] at hmem
      cases hmem

theorem wp_region_known {id : Nat} {a0 : Act} {w0 : World} {L : List Desc} {B : Nat} {P : Program} (hm : P.follows .mixedOrders = true)
    (dag : ∀ (i : Nat) (o : Oper), ops[i]? = some o → ∀ e : Edge, e ∈ o.after → e.on < i)
    (step : ∀ listed a w i, Held ops a0 w0 (Kn B L) listed a w → i ∈ Region.ready .any ops listed → wpOp P ops Q i (Held ops a0 w0 (Kn B L) (listed.setIfInBounds i true)) a w)
    (done : ∀ a w, Held ops a0 w0 (Kn B L) (Array.replicate ops.size true) a w → Q .normal a w) : (Code.region id ops true).wp P Q a0 w0 := by
  refine wp_region_any hm (wpAny_inv (Held ops a0 w0 (Kn B L)) step ?_ _ _ _ _ ?_ ?_)
  · intro listed a w h hr
    have hall := all_listed h.size dag hr
    have e : listed = Array.replicate ops.size true := by
      apply Array.ext
      · simp [h.size]
      · intro i h1 h2
        have := hall i (by rw [← h.size]; exact h1)
        rw [Array.getD, dif_pos h1] at this
        simpa using this
    rw [e] at h
    exact done a w h
  · unfold leftOf
    simp
  · have hf : ∀ j, (Array.replicate ops.size false).getD j false = false := by
      intro j
      rw [Array.getD_eq_getD_getElem?, Array.getElem?_replicate]
      split <;> rfl
    exact ⟨by simp, rfl, rfl, Below.drew (Below.refl _ _), fun _ _ => rfl, fun i o t _ _ hl => by rw [hf] at hl; cases hl⟩

theorem least_ready {listed : Array Bool} (dag : ∀ (i : Nat) (o : Oper), ops[i]? = some o → ∀ e : Edge, e ∈ o.after → e.on < i) (hs : listed.size = ops.size) {j : Nat} (hj : j < ops.size) (hl : listed.getD j false = false) : ∃ i, i ≤ j ∧ i ∈ Region.ready .any ops listed := by
  induction j using Nat.strongRecOn with
  | _ j ih =>
    by_cases h : ∃ k, k < j ∧ listed.getD k false = false
    · obtain ⟨k, hk, hkl⟩ := h
      obtain ⟨i, h1, h2⟩ := ih k hk (by omega) hkl
      exact ⟨i, by omega, h2⟩
    · refine ⟨j, Nat.le_refl _, ?_⟩
      unfold Region.ready
      rw [List.mem_filter, List.mem_range]
      refine ⟨hj, ?_⟩
      have h1 : listed.getD j true = false := by
        rw [Array.getD, dif_pos (by omega)] at hl ⊢
        exact hl
      rw [h1, Array.getElem?_eq_getElem hj]
      simp only [Bool.not_false, Bool.true_and, Option.map_some, Option.getD_some, Array.all_eq_true_iff_forall_mem]
      intro e he
      have hlt := dag j _ (Array.getElem?_eq_getElem hj) e he
      cases hv : listed.getD e.on false with
      | true => simp
      | false => exact absurd ⟨e.on, hlt, hv⟩ h

/-- The first n1 operations are over, the others are to come. -/
def firsts (n n1 : Nat) : Array Bool := Array.replicate n1 true ++ Array.replicate (n - n1) false
theorem firsts_getD (n n1 j : Nat) (_h : n1 ≤ n) : (firsts n n1).getD j false = decide (j < n1) := by
  unfold firsts
  rw [Array.getD_eq_getD_getElem?, Array.getElem?_append]
  by_cases hj : j < n1
  · rw [if_pos (by simpa using hj), Array.getElem?_replicate, if_pos hj]; simp [hj]
  · rw [if_neg (by simpa using hj), Array.getElem?_replicate]
    simp only [Array.size_replicate]
    split <;> simp [hj]
theorem firsts_size (n n1 : Nat) (h : n1 ≤ n) : (firsts n n1).size = n := by simp [firsts]; omega
theorem eq_firsts {listed : Array Bool} {n1 : Nat} (hn : n1 ≤ ops.size) (hs : listed.size = ops.size) (h1 : ∀ j, j < n1 → listed.getD j false = true) (h2 : ∀ i, n1 ≤ i → listed.getD i false = false) : listed = firsts ops.size n1 := by
  apply Array.ext
  · rw [firsts_size _ _ hn, hs]
  · intro i hi hi'
    have e1 : listed.getD i false = listed[i] := by rw [Array.getD, dif_pos hi]; rfl
    have e2 : (firsts ops.size n1).getD i false = (firsts ops.size n1)[i] := by rw [Array.getD, dif_pos hi']; rfl
    rw [← e1, ← e2, firsts_getD _ _ _ hn]
    by_cases hlt : i < n1
    · rw [h1 i hlt]; simp [hlt]
    · rw [h2 i (by omega)]; simp [hlt]
theorem leftOf_firsts (n n1 : Nat) (_h : n1 ≤ n) : leftOf (firsts n n1) = n - n1 := by
  unfold leftOf firsts
  simp [List.filter_append]
theorem wpAny_head {P : Program} {n1 : Nat} (hn1 : n1 ≤ ops.size) (Inv : Array Bool → Act → World → Prop)
    (form : ∀ listed a w, Inv listed a w → listed.size = ops.size ∧ ∀ i, n1 ≤ i → listed.getD i false = false)
    (late : ∀ listed a w i, Inv listed a w → i ∈ Region.ready .any ops listed → n1 ≤ i → ∀ j, j < n1 → listed.getD j false = true)
    (dag : ∀ (i : Nat) (o : Oper), ops[i]? = some o → ∀ e : Edge, e ∈ o.after → e.on < i)
    (step : ∀ listed a w i, Inv listed a w → i ∈ Region.ready .any ops listed → i < n1 → wpOp P ops Q i (Inv (listed.setIfInBounds i true)) a w)
    (tail : ∀ fuel a w, Inv (firsts ops.size n1) a w → ops.size - n1 ≤ fuel → wpAny P .any ops Q fuel (firsts ops.size n1) a w) :
    ∀ (fuel : Nat) (listed : Array Bool) (a : Act) (w : World), leftOf listed ≤ fuel → Inv listed a w → wpAny P .any ops Q fuel listed a w := by
  intro fuel
  induction fuel with
  | zero =>
    intro listed a w hf hi
    obtain ⟨hs, hl⟩ := form listed a w hi
    by_cases hall : ∀ j, j < n1 → listed.getD j false = true
    · have e := eq_firsts hn1 hs hall hl
      subst e
      exact tail 0 a w hi (by have := leftOf_firsts ops.size n1 hn1; omega)
    · exfalso
      obtain ⟨j, hj⟩ := Classical.not_forall.1 hall
      obtain ⟨hj1, hj2⟩ := Classical.not_imp.1 hj
      have := leftOf_set listed j (by rw [Array.getD, dif_pos (by omega)] at hj2 ⊢; simpa using hj2)
      omega
  | succ fuel ih =>
    intro listed a w hf hi
    obtain ⟨hs, hl⟩ := form listed a w hi
    by_cases hall : ∀ j, j < n1 → listed.getD j false = true
    · have e := eq_firsts hn1 hs hall hl
      subst e
      exact tail (fuel + 1) a w hi (by have := leftOf_firsts ops.size n1 hn1; omega)
    · obtain ⟨j, hj⟩ := Classical.not_forall.1 hall
      obtain ⟨hj1, hj2⟩ := Classical.not_imp.1 hj
      have hj3 : listed.getD j false = false := by simpa using hj2
      refine ⟨fun hr => ?_, fun i hm => ?_⟩
      · obtain ⟨i, _, hi2⟩ := least_ready dag hs (by omega) hj3
        rw [hr] at hi2
        cases hi2
      · have hr := mem_ready hm
        have hin : i < n1 := by
          by_cases hin : i < n1
          · exact hin
          · exfalso
            have := late listed a w i hi hm (by omega) j hj1
            rw [hj3] at this
            cases this
        exact wpOp_mono (fun a' w' h' => ih _ a' w' (by have := leftOf_set listed i hr.2.1; omega) h') (step listed a w i hi hm hin)

theorem ready_on {listed : Array Bool} {i j : Nat} {o : Oper} (hr : i ∈ Region.ready .any ops listed) (ho : ops[i]? = some o) (ha : (o.after.any fun e => e.on == j && Region.binds .any e) = true) : listed.getD j false = true := by
  rw [Array.any_eq_true] at ha
  obtain ⟨k, hk, hk2⟩ := ha
  rw [Bool.and_eq_true] at hk2
  have := (mem_ready hr).2.2 o ho o.after[k] (Array.getElem_mem hk) hk2.2
  rwa [show o.after[k].on = j by simpa using hk2.1] at this
/-- What an operation that comes after another one knows of its result. -/
theorem Held.known {a0 : Act} {W0 : World} {L : List Desc} {B : Nat} {listed : Array Bool} {a : Act} {w : World} (h : Held ops a0 W0 (Kn B L) listed a w) {i : Nat} (hr : i ∈ Region.ready .any ops listed)
    {o x : Oper} {j t : Nat} (ho : ops[i]? = some o) (ha : (o.after.any fun e => e.on == j && Region.binds .any e) = true) (hj : ops[j]? = some x) (hx : x.dst = some t) : Kn B L j (slot a t) w := by
  rw [Array.any_eq_true] at ha
  obtain ⟨k, hk, hk2⟩ := ha
  rw [Bool.and_eq_true] at hk2
  have := (mem_ready hr).2.2 o ho o.after[k] (Array.getElem_mem hk) hk2.2
  rw [show o.after[k].on = j by simpa using hk2.1] at this
  exact h.got j x t hj hx this

/-- The operation is over: it has left in its slot what was said. -/
theorem Held.end' {a0 : Act} {W0 : World} {L : List Desc} {B : Nat} {listed : Array Bool} {a : Act} {w w' : World} (h : Held ops a0 W0 (Kn B L) listed a w)
    (apart : ∀ (i j : Nat) (x y : Oper) (t : Nat), ops[i]? = some x → ops[j]? = some y → x.dst = some t → y.dst = some t → i = j)
    {i : Nat} {o : Oper} {d : Nat} {v : Value} (ho : ops[i]? = some o) (hd : o.dst = some d) (hsz : d < a0.tmps.size) (hb : Below w.heap.size w w') (hv : Kn B L i v w') :
    Held ops a0 W0 (Kn B L) (listed.setIfInBounds i true) (putSlot a d v) w' :=
  h.put (fun _ v x y hx hb => Desc.stays _ v x y hx hb) apart ho hd hsz hb hv

variable {K : Act → World → Prop} {a : Act} {w : World}
theorem op_call2 {o : Oper} {d f t g : Nat} {c s v : Value} {tys : Array TypeId} (ho : o.op = .call { callee := .value (.tmp f), args := #[.const c, .tmp t], argTypes := tys }) (hd : o.dst = some d) (hf : slot a f = .func (.func g) #[] #[]) (hs : slot a t = s)
    (he : ∀ args w, (callFunc g args).run Tryz.prog w = .ok (.enter g args) w) (h : Calls Tryz.prog g #[c, s] w fun e w' => e = .returned v ∧ K (putSlot a d v) w') : o.wp Tryz.prog a w K Q := by
  obtain ⟨op, dst, ty, pos, after, guard⟩ := o
  dsimp only at ho hd
  subst ho hd
  have hf' : a.tmps[f]?.getD undef = .func (.func g) #[] #[] := hf
  have hs' : a.tmps[t]?.getD undef = s := hs
  have he' := he #[c, s] w
  unfold Oper.wp
  go_simp
  exact h.mono fun e w' ⟨h1, h2⟩ => by subst h1; exact h2
theorem op_call1 {o : Oper} {d g : Nat} {c v : Value} {tys : Array TypeId} (ho : o.op = .call { callee := .value (.func g), args := #[.const c], argTypes := tys }) (hd : o.dst = some d)
    (he : ∀ args w, (callFunc g args).run Tryz.prog w = .ok (.enter g args) w) (h : Calls Tryz.prog g #[c] w fun e w' => e = .returned v ∧ K (putSlot a d v) w') : o.wp Tryz.prog a w K Q := by
  obtain ⟨op, dst, ty, pos, after, guard⟩ := o
  dsimp only at ho hd
  subst ho hd
  have he' := he #[c] w
  unfold Oper.wp
  go_simp
  exact h.mono fun e w' ⟨h1, h2⟩ => by subst h1; exact h2
theorem op_call0 {o : Oper} {d g : Nat} {v : Value} {tys : Array TypeId} (ho : o.op = .call { callee := .value (.func g), args := #[], argTypes := tys }) (hd : o.dst = some d)
    (he : ∀ args w, (callFunc g args).run Tryz.prog w = .ok (.enter g args) w) (h : Calls Tryz.prog g #[] w fun e w' => e = .returned v ∧ K (putSlot a d v) w') : o.wp Tryz.prog a w K Q := by
  obtain ⟨op, dst, ty, pos, after, guard⟩ := o
  dsimp only at ho hd
  subst ho hd
  have he' := he #[] w
  unfold Oper.wp
  go_simp
  exact h.mono fun e w' ⟨h1, h2⟩ => by subst h1; exact h2
end
end Go.Proofs.YtfkjfeobhbocjaaGreatDoor

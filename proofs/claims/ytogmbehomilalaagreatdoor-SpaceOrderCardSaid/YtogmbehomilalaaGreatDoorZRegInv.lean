/- A region whose order is open, gone through in whatever order by what is known of each operation's result. -/
import Derived.Orders
import Derived.Below
namespace Go.Proofs.YtogmbehomilalaaGreatDoor
open Go Go.RowKit
section
variable {P : Program} {ops : Array Oper} {Q : Exit → Act → World → Prop} {md : Region.Mode}

/-- How many operations are still to come. -/
def leftOf (l : Array Bool) : Nat := (l.toList.filter (!·)).length
theorem leftOf_set (l : Array Bool) (i : Nat) (h : l.getD i true = false) : leftOf (l.setIfInBounds i true) + 1 = leftOf l := by
  have hi : i < l.size := by
    by_cases hi : i < l.size
    · exact hi
    · rw [Array.getD, dif_neg hi] at h; cases h
  have hv : l[i] = false := by rw [Array.getD, dif_pos hi] at h; exact h
  unfold leftOf
  rw [Array.toList_setIfInBounds]
  have key : ∀ (x : List Bool) (k : Nat) (hk : k < x.length), x[k] = false → ((x.set k true).filter (!·)).length + 1 = (x.filter (!·)).length := by
    intro x
    induction x with
    | nil => intro k hk; exact absurd hk (by simp)
    | cons y ys ih =>
      intro k hk hx
      cases k with
      | zero =>
        have : y = false := hx
        subst this
        simp
      | succ k =>
        have := ih k (by simpa using hk) (by simpa using hx)
        cases y <;> simp [List.set_cons_succ] at this ⊢ <;> omega
  exact key l.toList i (by simpa using hi) (by simpa using hv)

theorem mem_ready {listed : Array Bool} {i : Nat} (h : i ∈ Region.ready md ops listed) :
    i < ops.size ∧ listed.getD i true = false ∧ ∀ o, ops[i]? = some o → ∀ e ∈ o.after, Region.binds md e = true → listed.getD e.on false = true := by
  unfold Region.ready at h
  rw [List.mem_filter, List.mem_range] at h
  obtain ⟨h1, h2⟩ := h
  rw [Bool.and_eq_true] at h2
  refine ⟨h1, by simpa using h2.1, fun o ho e he hb => ?_⟩
  have h3 := h2.2
  rw [ho] at h3
  simp only [Option.map_some, Option.getD_some, Array.all_eq_true_iff_forall_mem] at h3
  have := h3 e he
  simpa [hb] using this

theorem wpAny_inv (Inv : Array Bool → Act → World → Prop)
    (step : ∀ listed a w i, Inv listed a w → i ∈ Region.ready md ops listed → wpOp P ops Q i (Inv (listed.setIfInBounds i true)) a w)
    (done : ∀ listed a w, Inv listed a w → Region.ready md ops listed = [] → Q .normal a w) :
    ∀ (fuel : Nat) (listed : Array Bool) (a : Act) (w : World), leftOf listed ≤ fuel → Inv listed a w → wpAny P md ops Q fuel listed a w
  | 0, listed, a, w, hf, hi => by
    have hr : Region.ready md ops listed = [] := by
      cases hr : Region.ready md ops listed with
      | nil => rfl
      | cons i r =>
        obtain ⟨_, h2, _⟩ := mem_ready (md := md) (ops := ops) (listed := listed) (i := i) (by rw [hr]; exact List.mem_cons_self ..)
        have := leftOf_set listed i h2
        omega
    exact ⟨hr, done listed a w hi hr⟩
  | fuel + 1, listed, a, w, hf, hi =>
    ⟨fun hr => done listed a w hi hr, fun i hm => wpOp_mono (fun a' w' h' => wpAny_inv Inv step done fuel _ a' w' (by have := leftOf_set listed i (mem_ready hm).2.1; omega) h') (step listed a w i hi hm)⟩

/-- What is known of a slot. -/
abbrev slot (a : Act) (t : Nat) : Value := a.tmps[t]?.getD undef

/-- Before the region the frame was a0 and the world W0; each operation that is over has left in its slot what T says; all other slots are as they were. -/
structure Held (ops : Array Oper) (a0 : Act) (W0 : World) (T : Nat → Value → World → Prop) (listed : Array Bool) (a : Act) (w : World) : Prop where
  size : listed.size = ops.size
  frame : a.tmps.size = a0.tmps.size
  defers : a.defers = a0.defers
  below : Below W0.heap.size W0 w
  old : ∀ t, (∀ i o, ops[i]? = some o → o.dst = some t → listed.getD i false = false) → slot a t = slot a0 t
  got : ∀ i o t, ops[i]? = some o → o.dst = some t → listed.getD i false = true → T i (slot a t) w

theorem Held.put {a0 : Act} {W0 : World} {T : Nat → Value → World → Prop} {listed : Array Bool} {a : Act} {w w' : World} (h : Held ops a0 W0 T listed a w)
    (stays : ∀ i v x y, T i v x → Below x.heap.size x y → T i v y)
    (apart : ∀ (i j : Nat) (x y : Oper) (t : Nat), ops[i]? = some x → ops[j]? = some y → x.dst = some t → y.dst = some t → i = j)
    {i : Nat} {o : Oper} {d : Nat} {v : Value} (ho : ops[i]? = some o) (hd : o.dst = some d) (hsz : d < a0.tmps.size) (hb : Below w.heap.size w w') (hv : T i v w') :
    Held ops a0 W0 T (listed.setIfInBounds i true) { tmps := a.tmps.setIfInBounds d v, defers := a.defers } w' := by
  have his : i < listed.size := by rw [h.size]; exact (Array.getElem?_eq_some_iff.1 ho).1
  have hget : ∀ j, (listed.setIfInBounds i true).getD j false = if j = i then true else listed.getD j false := by
    intro j
    rw [Array.getD_eq_getD_getElem?, Array.getD_eq_getD_getElem?, Array.getElem?_setIfInBounds]
    by_cases e : i = j
    · subst e; simp [his]
    · rw [if_neg e, if_neg (fun x => e x.symm)]
  have hslot : ∀ t, slot { tmps := a.tmps.setIfInBounds d v, defers := a.defers } t = if t = d then v else slot a t := by
    intro t
    show (a.tmps.setIfInBounds d v)[t]?.getD undef = _
    rw [Array.getElem?_setIfInBounds]
    by_cases e : d = t
    · subst e; rw [if_pos rfl, if_pos (by rw [h.frame]; exact hsz), if_pos rfl]; rfl
    · rw [if_neg e, if_neg (fun x => e x.symm)]
  refine ⟨by simpa using h.size, by simpa using h.frame, h.defers, h.below.trans (hb.mono h.below.size), fun t ht => ?_, fun j x t hj hx hl => ?_⟩
  · have htd : t ≠ d := fun e => by
      subst e
      have := ht i o ho hd
      rw [hget, if_pos rfl] at this
      cases this
    rw [hslot, if_neg htd]
    refine h.old t fun j x hj hx => ?_
    have := ht j x hj hx
    rw [hget] at this
    split at this
    · cases this
    · exact this
  · rw [hslot]
    by_cases e : j = i
    · subst e
      obtain rfl : x = o := Option.some.inj (hj.symm.trans ho)
      obtain rfl : t = d := Option.some.inj (hx.symm.trans hd)
      rw [if_pos rfl]; exact hv
    · have htd : t ≠ d := fun e' => e (apart j i x o t hj ho hx (by rw [hd, e']))
      rw [if_neg htd]
      rw [hget, if_neg e] at hl
      exact stays _ _ _ _ (h.got j x t hj hx hl) hb
end
end Go.Proofs.YtogmbehomilalaaGreatDoor

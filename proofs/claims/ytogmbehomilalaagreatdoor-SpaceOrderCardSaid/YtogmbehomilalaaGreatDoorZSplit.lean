/- A region whose order is open, parted: its first operations, and those that wait for all of them. -/
import Derived.Test.YtogmbehomilalaaGreatDoorZRegInv
import Derived.OrdersHeld
import Derived.Deep.RegionHeld3
namespace Go.Proofs.YtogmbehomilalaaGreatDoor
open Go Go.RowKit
namespace RW
section
variable {ops : Array Oper} {Q : Exit → Act → World → Prop} {P : Program}
theorem least_ready {listed : Array Bool} (dag : ∀ (i : Nat) (o : Oper), ops[i]? = some o → ∀ e : Edge, e ∈ o.after → e.on < i) (hs : listed.size = ops.size) {j : Nat} (hj : j < ops.size) (hl : listed.getD j false = false) : ∃ i, i ≤ j ∧ i ∈ Region.ready .any ops listed := by
  induction j using Nat.strongRecOn with
  | _ j ih =>
    by_cases h : ∃ k, k < j ∧ listed.getD k false = false
    · obtain ⟨k, hk, hkl⟩ := h
      obtain ⟨i, h1, h2⟩ := ih k hk (by omega) hkl
      exact ⟨i, by omega, h2⟩
    · refine ⟨j, Nat.le_refl _, ?_⟩
      unfold Region.ready
      rw [List.mem_filter, List.mem_range]
      refine ⟨hj, ?_⟩
      have h1 : listed.getD j true = false := by
        rw [Array.getD, dif_pos (by omega)] at hl ⊢
        exact hl
      rw [h1, Array.getElem?_eq_getElem hj]
      simp only [Bool.not_false, Bool.true_and, Option.map_some, Option.getD_some, Array.all_eq_true_iff_forall_mem]
      intro e he
      have hlt := dag j _ (Array.getElem?_eq_getElem hj) e he
      cases hv : listed.getD e.on false with
      | true => simp
      | false => exact absurd ⟨e.on, hlt, hv⟩ h

/-- The first n1 operations are over, the others are to come. -/
def firsts (n n1 : Nat) : Array Bool := Array.replicate n1 true ++ Array.replicate (n - n1) false
theorem firsts_getD (n n1 j : Nat) (_h : n1 ≤ n) : (firsts n n1).getD j false = decide (j < n1) := by
  unfold firsts
  rw [Array.getD_eq_getD_getElem?, Array.getElem?_append]
  by_cases hj : j < n1
  · rw [if_pos (by simpa using hj), Array.getElem?_replicate, if_pos hj]; simp [hj]
  · rw [if_neg (by simpa using hj), Array.getElem?_replicate]
    simp only [Array.size_replicate]
    split <;> simp [hj]
theorem firsts_size (n n1 : Nat) (h : n1 ≤ n) : (firsts n n1).size = n := by simp [firsts]; omega
theorem eq_firsts {listed : Array Bool} {n1 : Nat} (hn : n1 ≤ ops.size) (hs : listed.size = ops.size) (h1 : ∀ j, j < n1 → listed.getD j false = true) (h2 : ∀ i, n1 ≤ i → listed.getD i false = false) : listed = firsts ops.size n1 := by
  apply Array.ext
  · rw [firsts_size _ _ hn, hs]
  · intro i hi hi'
    have e1 : listed.getD i false = listed[i] := by rw [Array.getD, dif_pos hi]; rfl
    have e2 : (firsts ops.size n1).getD i false = (firsts ops.size n1)[i] := by rw [Array.getD, dif_pos hi']; rfl
    rw [← e1, ← e2, firsts_getD _ _ _ hn]
    by_cases hlt : i < n1
    · rw [h1 i hlt]; simp [hlt]
    · rw [h2 i (by omega)]; simp [hlt]
theorem leftOf_firsts (n n1 : Nat) (_h : n1 ≤ n) : leftOf (firsts n n1) = n - n1 := by
  unfold leftOf firsts
  simp [List.filter_append]
theorem ready_onS {listed : Array Bool} {i j : Nat} {o : Oper} (hr : i ∈ Region.ready .any ops listed) (ho : ops[i]? = some o) (ha : (o.after.any fun e => e.on == j && Region.binds .any e) = true) : listed.getD j false = true := by
  rw [Array.any_eq_true] at ha
  obtain ⟨k, hk, hk2⟩ := ha
  rw [Bool.and_eq_true] at hk2
  have := (mem_ready hr).2.2 o ho o.after[k] (Array.getElem_mem hk) hk2.2
  rwa [show o.after[k].on = j by simpa using hk2.1] at this

end
/-- What is over came behind what it waits for. -/
def CL (ops : Array Oper) (listed : Array Bool) : Prop := ∀ (j : Nat) (oj : Oper), ops[j]? = some oj → listed.getD j false = true → ∀ e : Edge, e ∈ oj.after → Region.binds .any e = true → listed.getD e.on false = true
theorem CL.on {ops : Array Oper} {listed : Array Bool} (h : CL ops listed) {i j : Nat} {o : Oper} (ho : ops[i]? = some o) (ha : (o.after.any fun e => e.on == j && Region.binds .any e) = true) (hi : listed.getD i false = true) : listed.getD j false = true := by
  rw [Array.any_eq_true] at ha
  obtain ⟨k, hk, hk2⟩ := ha
  rw [Bool.and_eq_true] at hk2
  have := h i o ho hi o.after[k] (Array.getElem_mem hk) hk2.2
  rwa [show o.after[k].on = j by simpa using hk2.1] at this
theorem CL.set {ops : Array Oper} {listed : Array Bool} (h : CL ops listed) {i : Nat} (hm : i ∈ Region.ready .any ops listed) : CL ops (listed.setIfInBounds i true) := by
  have up : ∀ k, listed.getD k false = true → (listed.setIfInBounds i true).getD k false = true := fun k hk => by
    rw [Array.getD_eq_getD_getElem?, Array.getElem?_setIfInBounds]
    split
    · split <;> first | rfl | (rename_i h1 h2; subst h1; rw [Array.getD, dif_neg h2] at hk; exact hk)
    · rw [← Array.getD_eq_getD_getElem?]; exact hk
  intro j oj hj hl e he hb
  by_cases hji : j = i
  · subst hji
    exact up _ ((mem_ready hm).2.2 oj hj e he hb)
  · rw [Array.getD_eq_getD_getElem?, Array.getElem?_setIfInBounds, if_neg (fun x => hji x.symm), ← Array.getD_eq_getD_getElem?] at hl
    exact up _ (h j oj hj hl e he hb)
section
variable {ops : Array Oper} {Q : Exit → Act → World → Prop} {P : Program}
theorem upon_then {o : Oper} {a : Act} {X K : Act → World → Prop} {r : Result Next} (h : o.upon P a X (Exit.then K Q) r) : o.upon P a X Q r := by
  cases r with
  | ok n w =>
    cases n with
    | enter f args => exact Calls.mono h fun e _ h => by cases e <;> exact h
    | _ => exact h
  | halt x w => cases x <;> exact h
theorem op_then {i n1 : Nat} {a : Act} {w : World} {X X' K : Act → World → Prop} (hi : i < n1) (hg : ∀ o, ops[i]? = some o → o.guard = none) (hX : ∀ a w, X a w → X' a w)
    (h : wpOp P (ops.extract 0 n1) (Exit.then K Q) i X a w) : wpOp P ops Q i X' a w := by
  unfold wpOp at *
  have e : (ops.extract 0 n1)[i]? = ops[i]? := by
    rw [Array.getElem?_extract]
    by_cases hs : i < ops.size
    · rw [if_pos (by omega), Nat.zero_add]
    · rw [if_neg (by omega), Array.getElem?_eq_none (by omega)]
  rw [e] at h
  cases ho : ops[i]? with
  | none => rw [ho] at h; exact hX _ _ h
  | some o =>
    rw [ho] at h
    have w1 : ∀ xs, Region.wanted o xs = true := fun xs => by simp [Region.wanted, hg o ho]
    simp only [w1, if_true] at h ⊢
    rcases h with h | ⟨h1, h2⟩
    · exact .inl (Oper.wp_mono hX (upon_then h))
    · exact .inr ⟨h1, h2⟩
theorem extract_getD (listed : Array Bool) (n1 i : Nat) (hi : i < n1) (b : Bool) : (listed.extract 0 n1).getD i b = listed.getD i b := by
  rw [Array.getD_eq_getD_getElem?, Array.getD_eq_getD_getElem?, Array.getElem?_extract]
  by_cases hs : i < listed.size
  · rw [if_pos (by omega), Nat.zero_add]
  · rw [if_neg (by omega), Array.getElem?_eq_none (by omega)]
theorem extract_set (listed : Array Bool) (n1 i : Nat) : (listed.setIfInBounds i true).extract 0 n1 = (listed.extract 0 n1).setIfInBounds i true := by
  apply Array.ext_getElem?
  intro j
  rw [Array.getElem?_extract, Array.getElem?_setIfInBounds, Array.getElem?_setIfInBounds, Array.getElem?_extract]
  simp only [Nat.zero_add, Array.size_setIfInBounds, Array.size_extract]
  by_cases hj : j < min n1 listed.size
  · by_cases hij : i = j
    · simp [hij, hj]; omega
    · simp [hij, hj]
  · simp [hj]
    intro h
    subst h
    omega
theorem ready_extract {listed : Array Bool} {n1 i : Nat} (dag : ∀ (i : Nat) (o : Oper), ops[i]? = some o → ∀ e : Edge, e ∈ o.after → e.on < i) (hi : i < n1) :
    i ∈ Region.ready .any (ops.extract 0 n1) (listed.extract 0 n1) ↔ i ∈ Region.ready .any ops listed := by
  unfold Region.ready
  rw [List.mem_filter, List.mem_filter, List.mem_range, List.mem_range, extract_getD _ _ _ hi]
  have e : (ops.extract 0 n1)[i]? = ops[i]? := by
    rw [Array.getElem?_extract]
    by_cases hs : i < ops.size
    · rw [if_pos (by omega), Nat.zero_add]
    · rw [if_neg (by omega), Array.getElem?_eq_none (by omega)]
  rw [e]
  have hz : i < (ops.extract 0 n1).size ↔ i < ops.size := by simp; omega
  rw [hz]
  cases ho : ops[i]? with
  | none => simp
  | some o =>
    have : (o.after.all fun e => !Region.binds .any e || (listed.extract 0 n1).getD e.on false) = (o.after.all fun e => !Region.binds .any e || listed.getD e.on false) := by
      rw [Bool.eq_iff_iff, Array.all_eq_true_iff_forall_mem, Array.all_eq_true_iff_forall_mem]
      exact forall_congr' fun e => imp_congr_right fun he => by rw [extract_getD _ _ _ (by have := dag i o ho e he; omega)]
    simp only [Option.map_some, Option.getD_some, this]

theorem wpAny_split {n1 : Nat} (hn1 : n1 ≤ ops.size) (hg : ∀ i o, i < n1 → ops[i]? = some o → o.guard = none) (dag : ∀ (i : Nat) (o : Oper), ops[i]? = some o → ∀ e : Edge, e ∈ o.after → e.on < i)
    (late : ∀ listed i, CL ops listed → i ∈ Region.ready .any ops listed → n1 ≤ i → ∀ j, j < n1 → listed.getD j false = true) :
    ∀ (f fuel : Nat) (listed : Array Bool) (a : Act) (w : World), leftOf listed ≤ fuel → listed.size = ops.size → (∀ i, n1 ≤ i → listed.getD i false = false) → CL ops listed →
      wpAny P .any (ops.extract 0 n1) (Exit.then (fun a w => ∀ fuel, ops.size - n1 ≤ fuel → wpAny P .any ops Q fuel (firsts ops.size n1) a w) Q) f (listed.extract 0 n1) a w → wpAny P .any ops Q fuel listed a w := by
  intro f
  induction f with
  | zero =>
    intro fuel listed a w hf hs hl hc ⟨h1, h2⟩
    by_cases hall : ∀ j, j < n1 → listed.getD j false = true
    · have e := eq_firsts hn1 hs hall hl
      subst e
      exact h2 fuel (by have := leftOf_firsts ops.size n1 hn1; omega)
    · exfalso
      obtain ⟨j, hj⟩ := Classical.not_forall.1 hall
      obtain ⟨hj1, hj2⟩ := Classical.not_imp.1 hj
      obtain ⟨i, hi1, hi2⟩ := least_ready dag hs (by omega : j < ops.size) (by simpa using hj2)
      have := (ready_extract dag (by omega : i < n1)).2 hi2
      rw [h1] at this
      cases this
  | succ f ih =>
    intro fuel listed a w hf hs hl hc ⟨h1, h2⟩
    by_cases hall : ∀ j, j < n1 → listed.getD j false = true
    · have e := eq_firsts hn1 hs hall hl
      subst e
      refine h1 ?_ fuel (by have := leftOf_firsts ops.size n1 hn1; omega)
      refine List.eq_nil_iff_forall_not_mem.2 fun i hi => ?_
      have hlt := (mem_ready hi).1
      have hlt2 : i < n1 := by simp at hlt; omega
      have h3 := (mem_ready ((ready_extract dag hlt2).1 hi)).2.1
      have h4 := hall i hlt2
      rw [Array.getD_eq_getD_getElem?] at h3 h4
      cases hx : (firsts ops.size n1)[i]? <;> rw [hx] at h3 h4 <;> simp_all
    · obtain ⟨j, hj⟩ := Classical.not_forall.1 hall
      obtain ⟨hj1, hj2⟩ := Classical.not_imp.1 hj
      obtain ⟨k, hk1, hk2⟩ := least_ready dag hs (by omega : j < ops.size) (by simpa using hj2)
      cases fuel with
      | zero =>
        have := leftOf_set listed k (mem_ready hk2).2.1
        omega
      | succ fuel =>
        refine ⟨fun hr => (by rw [hr] at hk2; cases hk2), fun i hm => ?_⟩
        have hin : i < n1 := by
          by_cases hin : i < n1
          · exact hin
          · exact absurd (late listed i hc hm (by omega) j hj1) hj2
        refine op_then hin (fun o => hg i o hin) (fun a' w' h' => ih fuel _ a' w' ?_ (by simpa using hs) (fun t ht => ?_) (hc.set hm) (by rw [extract_set]; exact h')) (h2 i ((ready_extract dag hin).2 hm))
        · have := leftOf_set listed i (mem_ready hm).2.1; omega
        · rw [Array.getD_eq_getD_getElem?, Array.getElem?_setIfInBounds, if_neg (by omega), ← Array.getD_eq_getD_getElem?]
          exact hl t ht
theorem wpOpQ_mono {Q Q' : Exit → Act → World → Prop} (hq : ∀ e a w, Q e a w → Q' e a w) {i : Nat} {X X' : Act → World → Prop} (hX : ∀ a w, X a w → X' a w) {a : Act} {w : World} (h : wpOp P ops Q i X a w) : wpOp P ops Q' i X' a w := by
  unfold wpOp at *
  split
  · rename_i ho; rw [ho] at h; exact hX _ _ h
  · rename_i o ho
    rw [ho] at h
    simp only at h ⊢
    split
    · rename_i hw
      rw [if_pos hw] at h
      rcases h with h | ⟨h1, b, v, h2⟩
      · refine .inl (Oper.wp_mono hX ?_)
        unfold Oper.wp at *
        generalize (execOp a.eval o).run P w = r at *
        cases r with
        | ok n w =>
          cases n with
          | enter f args =>
            refine Calls.mono h fun e _ h => ?_
            cases e with
            | returned v => exact h
            | panicked c => exact hq _ _ _ h
            | outgrown => obtain ⟨b, v, h2⟩ := h; exact ⟨b, v, hq _ _ _ h2⟩
          | _ => exact h
        | halt x w => cases x <;> first | exact hq _ _ _ h | exact h
      · exact .inr ⟨h1, b, v, hq _ _ _ h2⟩
    · rename_i hw
      rw [if_neg hw] at h
      exact hX _ _ h
theorem wpAnyH_mono {Q Q' : Exit → Act → World → Prop} {S : World → Prop} (hq : ∀ e a w, Q e a w → Q' e a w) : ∀ {f : Nat} {listed : Array Bool} {a : Act} {w : World}, wpAnyH P .any ops Q S f listed a w → wpAnyH P .any ops Q' S f listed a w
  | 0, _, _, _, ⟨h1, h2⟩ => ⟨h1, hq _ _ _ h2⟩
  | _ + 1, _, _, _, ⟨h1, h2⟩ => ⟨fun h => hq _ _ _ (h1 h), fun i hi => wpOpQ_mono hq (fun _ _ h => ⟨h.1, wpAnyH_mono hq h.2⟩) (h2 i hi)⟩
/-- A region parted: first some operations, by what holds all the time; then the others. -/
theorem wp_region_split {n1 id : Nat} {a : Act} {w : World} (S : World → Prop) (hm : P.follows .mixedOrders = true) (hn1 : n1 ≤ ops.size) (hg : ∀ i o, i < n1 → ops[i]? = some o → o.guard = none) (dag : ∀ (i : Nat) (o : Oper), ops[i]? = some o → ∀ e : Edge, e ∈ o.after → e.on < i)
    (late : ∀ listed i, CL ops listed → i ∈ Region.ready .any ops listed → n1 ≤ i → ∀ j, j < n1 → listed.getD j false = true)
    (h : wpAnyH P .any (ops.extract 0 n1) (Exit.then (fun a w => ∀ fuel, ops.size - n1 ≤ fuel → wpAny P .any ops Q fuel (firsts ops.size n1) a w) Q) S n1 (Array.replicate n1 false) a w.drew) : (Code.region id ops true).wp P Q a w := by
  refine wp_region_any hm (wpAny_split hn1 hg dag late n1 _ _ _ _ (by unfold leftOf; simp) (by simp) (fun i _ => ?_) (fun j oj _ hl => ?_) ?_)
  · rw [Array.getD_eq_getD_getElem?, Array.getElem?_replicate]; split <;> rfl
  · rw [Array.getD_eq_getD_getElem?, Array.getElem?_replicate] at hl; split at hl <;> cases hl
  · have e : (Array.replicate ops.size false).extract 0 n1 = Array.replicate n1 false := by
      apply Array.ext_getElem?
      intro j
      rw [Array.getElem?_extract, Array.getElem?_replicate, Array.getElem?_replicate]
      simp only [Array.size_replicate, Nat.zero_add]
      by_cases hj : j < n1
      · rw [if_pos (by omega), if_pos (by omega), if_pos hj]
      · rw [if_neg (by omega), if_neg hj]
    rw [e]
    exact wpAny_of_held _ _ _ _ h
/-- Nothing is guarded; what an operation waits for stands ahead of it; each operation has one behind it that waits for it, to the last. -/
def chk (ops : Array Oper) (n1 : Nat) : Bool :=
  ((List.range n1).all fun i => ((ops[i]?).map fun o => o.guard.isNone).getD true) &&
  ((List.range ops.size).all fun i => ((ops[i]?).map fun o => o.after.all fun e => decide (e.on < i)).getD true) &&
  ((List.range n1).all fun j => (List.range (n1 + 1)).any fun k => decide (j < k) && ((ops[k]?).map fun o => o.after.any fun e => e.on == j && Region.binds .any e).getD false)
theorem wp_region_last {n1 id : Nat} {a : Act} {w : World} {ol : Oper} (S : World → Prop) (hm : P.follows .mixedOrders = true) (hsz : ops.size = n1 + 1) (hol : ops[n1]? = some ol) (hgl : ol.guard = none) (hc : chk ops n1 = true)
    (rd1 : Region.ready .any ops (firsts (n1 + 1) n1) = [n1]) (rd2 : Region.ready .any ops ((firsts (n1 + 1) n1).setIfInBounds n1 true) = [])
    (h : wpAnyH P .any (ops.extract 0 n1) (Exit.then (fun a w => ∀ K : Act → World → Prop, (∀ a w, Q .normal a w → K a w) → ol.wp P a w K Q) Q) S n1 (Array.replicate n1 false) a w.drew) : (Code.region id ops true).wp P Q a w := by
  unfold chk at hc
  rw [Bool.and_eq_true, Bool.and_eq_true, List.all_eq_true, List.all_eq_true, List.all_eq_true] at hc
  obtain ⟨⟨c1, c2⟩, c3⟩ := hc
  refine wp_region_split S hm (by omega) (fun i o hi ho => ?_) (fun i o ho e he => ?_) (fun listed i hcl hm hi j hj => ?_) (wpAnyH_mono (fun e a w h => ?_) h)
  · have := c1 i (List.mem_range.2 hi)
    rw [ho] at this
    simpa using this
  · have := c2 i (List.mem_range.2 (Array.getElem?_eq_some_iff.1 ho).1)
    rw [ho] at this
    simp only [Option.map_some, Option.getD_some, Array.all_eq_true_iff_forall_mem] at this
    simpa using this e he
  · have hlt := (mem_ready hm).1
    obtain rfl : i = n1 := by omega
    have key : ∀ m j, m + j = i → 1 ≤ m → listed.getD j false = true := by
      intro m
      induction m using Nat.strongRecOn with
      | _ m ih =>
        intro j hmj hm1
        have hk := c3 j (List.mem_range.2 (by omega))
        rw [List.any_eq_true] at hk
        obtain ⟨k, hk1, hk2⟩ := hk
        rw [Bool.and_eq_true, decide_eq_true_eq] at hk2
        obtain ⟨hk2, hk3⟩ := hk2
        have hk4 := List.mem_range.1 hk1
        cases ho : ops[k]? with
        | none => rw [ho] at hk3; cases hk3
        | some o =>
          rw [ho] at hk3
          by_cases e : k = i
          · subst e; exact ready_onS hm ho hk3
          · exact hcl.on ho hk3 (ih (i - k) (by omega) k (by omega) (by omega))
    exact key (i - j) j (by omega) (by omega)
  · cases e with
    | normal =>
      intro fuel hf
      rw [hsz] at hf ⊢
      obtain ⟨fu, rfl⟩ : ∃ fu, fuel = fu + 1 := ⟨fuel - 1, by omega⟩
      refine wpAny_ready rd1 (by simp) (AllReady.cons hol (fun K hK => ?_) AllReady.nil)
      rw [if_pos (by simp [Region.wanted, hgl])]
      exact h K fun a w hq => hK a w (wpAny_done rd2 hq fu)
    | _ => exact h
/-- An operation that yields its value whatever came up before is taken first; its slot is given. -/
theorem take_slot {md : Region.Mode} {S : World → Prop} {i d : Nat} {oi : Oper} {v : Value} {fuel : Nat} {listed : Array Bool} {a : Act} {w : World} (hi : ops[i]? = some oi) (hd : oi.dst = some d)
    (hs : Region.noSelect ops = true) (hf : Region.free md ops listed i = true) (hr : (Region.ready md ops listed).contains i = true)
    (hQ : ∀ c a w, Q (.panic c) (a.put oi.dst v) w → Q (.panic c) a w) (hw : Region.wanted oi (yielded ops a.tmps) = true) (hy : ∀ w, S w → (execOp a.eval oi).run P w = .ok (.value v) w) (hS : S w)
    (h : wpAnyH P md ops Q S fuel (listed.setIfInBounds i true) { tmps := a.tmps.setIfInBounds d v, defers := a.defers } w) : wpAnyH P md ops Q S (fuel + 1) listed a w :=
  wpAnyH_take hi hs hf hr hQ (.inl ⟨hw, hy⟩) hS (by rw [hd]; exact h)
end
end RW
end Go.Proofs.YtogmbehomilalaaGreatDoor

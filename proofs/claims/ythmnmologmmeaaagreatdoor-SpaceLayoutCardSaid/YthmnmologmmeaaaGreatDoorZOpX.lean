/- A box with two lists of the walk's own, that grow by turns. -/
import Derived.Test.YthmnmologmmeaaaGreatDoorZTwo
import Derived.Test.YthmnmologmmeaaaGreatDoorZInvReg
import Derived.Test.YthmnmologmmeaaaGreatDoorZSplit
import Derived.Test.YthmnmologmmeaaaGreatDoorZSpH
import Derived.Test.YthmnmologmmeaaaGreatDoorZRegT

/- A box with two lists of the walk's own, that grow by turns. -/
section
namespace Go.Proofs.YthmnmologmmeaaaGreatDoor
open Go Go.RowKit Go.Deep

/-- How it stands in the loop: the box at ob holds two lists of the walk's own. -/
def InSt (w W0 : World) (ob : Nat) (W : World) (x1 x2 : Value) (k1 k2 : Nat) (f g : Nat → Int) : Prop :=
  W.heap[ob]? = some (.cells #[x1, x2] 66 (0, 0)) ∧ OwnI W (ob + 1) x1 k1 f ∧ OwnI W (ob + 1) x2 k2 g ∧ (x1.ownBlock = none ∨ x1.ownBlock ≠ x2.ownBlock) ∧ Below w.heap.size w W ∧ Below (w.heap.size + 3) W0 W
theorem InSt.app1 {w W0 W W' : World} {ob : Nat} {x1 x2 x1' : Value} {k1 k2 : Nat} {f g f' : Nat → Int} (h : InSt w W0 ob W x1 x2 k1 k2 f g) (hz : w.heap.size + 3 ≤ ob) (ho : OwnI W' (ob + 1) x1' (k1 + 1) f') (hg : W.grownBy W' x1.ownBlock) (hat : x1'.ownBlock = x1.ownBlock ∨ ∃ g, x1'.ownBlock = some g ∧ W.heap.size ≤ g) :
    W'.heap[ob]? = some (.cells #[x1, x2] 66 (0, 0)) ∧ InSt w W0 ob (W'.setCell ⟨ob, 0, none⟩ x1') x1' x2 (k1 + 1) k2 f' g := by
  obtain ⟨hbx, HO1, HO2, HNe, HBw, HB0w⟩ := h
  have hobl : ob < W.heap.size := (Array.getElem?_eq_some_iff.1 hbx).1
  have hbx8 := (kept_at hg hobl (HO1.ne (by omega))).trans hbx
  have ho28 := HO2.kept hg (ne_sym HNe)
  have HB8 := below_own HBw HBw.size HO1 (by omega) hg
  have HB08 := below_own HB0w (by omega) HO1 (by omega) hg
  exact ⟨hbx8, box_set0 hbx8 x1', ho.kept (grown_set W' ob 0 x1') (ho.ne (by omega)), ho28.kept (grown_set W' ob 0 x1') (ho28.ne (by omega)), ne_new HO2 HNe hat, HB8.setCell (p := ⟨ob, 0, none⟩) (by show w.heap.size ≤ ob; omega) _, HB08.setCell (p := ⟨ob, 0, none⟩) (by show w.heap.size + 3 ≤ ob; omega) _⟩
theorem InSt.app2 {w W0 W W' : World} {ob : Nat} {x1 x2 x2' : Value} {k1 k2 : Nat} {f g g' : Nat → Int} (h : InSt w W0 ob W x1 x2 k1 k2 f g) (hz : w.heap.size + 3 ≤ ob) (ho : OwnI W' (ob + 1) x2' (k2 + 1) g') (hg : W.grownBy W' x2.ownBlock) (hat : x2'.ownBlock = x2.ownBlock ∨ ∃ g, x2'.ownBlock = some g ∧ W.heap.size ≤ g) :
    W'.heap[ob]? = some (.cells #[x1, x2] 66 (0, 0)) ∧ InSt w W0 ob (W'.setCell ⟨ob, 1, none⟩ x2') x1 x2' k1 (k2 + 1) f g' := by
  obtain ⟨hbx, HO1, HO2, HNe, HBw, HB0w⟩ := h
  have hobl : ob < W.heap.size := (Array.getElem?_eq_some_iff.1 hbx).1
  have hbx8 := (kept_at hg hobl (HO2.ne (by omega))).trans hbx
  have ho18 := HO1.kept hg HNe
  have HB8 := below_own HBw HBw.size HO2 (by omega) hg
  have HB08 := below_own HB0w (by omega) HO2 (by omega) hg
  exact ⟨hbx8, box_set1 hbx8 x2', ho18.kept (grown_set W' ob 1 x2') (ho18.ne (by omega)), ho.kept (grown_set W' ob 1 x2') (ho.ne (by omega)), ne_sym (ne_new HO1 (ne_sym HNe) hat), HB8.setCell (p := ⟨ob, 1, none⟩) (by show w.heap.size ≤ ob; omega) _, HB08.setCell (p := ⟨ob, 1, none⟩) (by show w.heap.size + 3 ≤ ob; omega) _⟩

end Go.Proofs.YthmnmologmmeaaaGreatDoor
end

/- A region whose order is open, by what each operation leaves in its slot; the last operation (a store) behind all others. -/
section
namespace Go.Proofs.YthmnmologmmeaaaGreatDoor
open Go Go.RowKit Go.Deep Go.Shelf

section
variable {ops : Array Oper} {Q : Exit → Act → World → Prop}
theorem chk_dag {n1 : Nat} (hc : RW.chk ops n1 = true) : ∀ (i : Nat) (o : Oper), ops[i]? = some o → ∀ e : Edge, e ∈ o.after → e.on < i := fun i o ho e he => by
  unfold RW.chk at hc
  rw [Bool.and_eq_true, Bool.and_eq_true, List.all_eq_true, List.all_eq_true, List.all_eq_true] at hc
  have := hc.1.2 i (List.mem_range.2 (Array.getElem?_eq_some_iff.1 ho).1)
  rw [ho] at this
  simp only [Option.map_some, Option.getD_some, Array.all_eq_true_iff_forall_mem] at this
  simpa using this e he
theorem chk_late {n1 : Nat} (hsz : ops.size = n1 + 1) (hc : RW.chk ops n1 = true) {listed : Array Bool} (hcl : RW.CL ops listed) (hm : n1 ∈ Region.ready .any ops listed) : ∀ j, j < n1 → listed.getD j false = true := by
  unfold RW.chk at hc
  rw [Bool.and_eq_true, Bool.and_eq_true, List.all_eq_true, List.all_eq_true, List.all_eq_true] at hc
  obtain ⟨⟨c1, c2⟩, c3⟩ := hc
  intro j hj
  have key : ∀ m j, m + j = n1 → 1 ≤ m → listed.getD j false = true := by
    intro m
    induction m using Nat.strongRecOn with
    | _ m ih =>
      intro j hmj hm1
      have hk := c3 j (List.mem_range.2 (by omega))
      rw [List.any_eq_true] at hk
      obtain ⟨k, hk1, hk2⟩ := hk
      rw [Bool.and_eq_true, decide_eq_true_eq] at hk2
      obtain ⟨hk2, hk3⟩ := hk2
      have hk4 := List.mem_range.1 hk1
      cases ho : ops[k]? with
      | none => rw [ho] at hk3; cases hk3
      | some o =>
        rw [ho] at hk3
        by_cases e : k = n1
        · subst e; exact RW.ready_onS hm ho hk3
        · exact hcl.on ho hk3 (ih (n1 - k) (by omega) k (by omega) (by omega))
  exact key (n1 - j) j (by omega) (by omega)
theorem set_getD (listed : Array Bool) (i j : Nat) (hi : i < listed.size) : (listed.setIfInBounds i true).getD j false = if j = i then true else listed.getD j false := by
  rw [Array.getD_eq_getD_getElem?, Array.getD_eq_getD_getElem?, Array.getElem?_setIfInBounds]
  by_cases e : i = j
  · subst e; simp [hi]
  · rw [if_neg e, if_neg (fun x => e x.symm)]
theorem wp_region_TL {id : Nat} {a0 : Act} {w0 : World} {T : Nat → Value → World → Prop} {P : Program} {n1 : Nat} {ol : Oper} (hm : P.follows .mixedOrders = true) (hsz : ops.size = n1 + 1) (hol : ops[n1]? = some ol) (hgl : ol.guard = none) (hc : RW.chk ops n1 = true)
    (step : ∀ listed a w i, Held ops a0 w0 T listed a w → i ∈ Region.ready .any ops listed → i < n1 → wpOp P ops Q i (Held ops a0 w0 T (listed.setIfInBounds i true)) a w)
    (tail : ∀ listed a w, Held ops a0 w0 T listed a w → (∀ j, j < n1 → listed.getD j false = true) → ol.wp P a w (fun a' w' => Q .normal a' w') Q) : (Code.region id ops true).wp P Q a0 w0 := by
  have dag := chk_dag hc
  refine wp_region_any hm (wpAny_inv (fun listed a w => (Held ops a0 w0 T listed a w ∧ listed.getD n1 false = false ∧ RW.CL ops listed) ∨ (listed.size = ops.size ∧ (∀ j, j < ops.size → listed.getD j false = true) ∧ Q .normal a w)) ?_ ?_ _ _ _ _ ?_ ?_)
  · rintro listed a w i (⟨H, hl, hcl⟩ | ⟨hs, hall, _⟩) hi
    · have hlt := (mem_ready hi).1
      by_cases e : i = n1
      · subst e
        have hlate := chk_late hsz hc hcl hi
        refine wpOp_of hol (.inl hgl) ?_
        have ht := tail listed a w H hlate
        refine Oper.wp_mono ?_ ht
        · intro a' w' hq
          refine .inr ⟨by simpa using H.size, fun j hj => ?_, hq⟩
          rw [set_getD _ _ _ (by rw [H.size]; exact hlt)]
          by_cases e2 : j = i
          · rw [if_pos e2]
          · rw [if_neg e2]; exact hlate j (by omega)
      · refine wpOp_mono ?_ (step listed a w i H hi (by omega))
        intro a' w' H'
        refine .inl ⟨H', ?_, hcl.set hi⟩
        rw [set_getD _ _ _ (by rw [H.size]; exact hlt), if_neg (fun x => e x.symm)]
        exact hl
    · exfalso
      have h1 := (mem_ready hi).1
      have h2 := (mem_ready hi).2.1
      have h3 := hall i h1
      rw [Array.getD, dif_pos (by omega)] at h2 h3
      rw [h2] at h3
      cases h3
  · rintro listed a w (⟨H, hl, _⟩ | ⟨_, _, hq⟩) hr
    · have := all_listed H.size dag hr n1 (by omega)
      rw [hl] at this
      cases this
    · exact hq
  · unfold leftOf
    simp
  · have hf : ∀ j, (Array.replicate ops.size false).getD j false = false := by
      intro j
      rw [Array.getD_eq_getD_getElem?, Array.getElem?_replicate]
      split <;> rfl
    refine .inl ⟨⟨by simp, rfl, rfl, Below.drew (Below.refl _ _), fun _ _ => rfl, fun i o t _ _ hl => by rw [hf] at hl; cases hl⟩, hf n1, fun j oj _ hl => ?_⟩
    rw [hf] at hl; cases hl
end
theorem range_38 : List.range 38 = [0, 1, 2, 3, 4, 5, 6, 7, 8, 9, 10, 11, 12, 13, 14, 15, 16, 17, 18, 19, 20, 21, 22, 23, 24, 25, 26, 27, 28, 29, 30, 31, 32, 33, 34, 35, 36, 37] := rfl
theorem lit_38 (f : Nat → Value) : ((List.range 38).map f).toArray = #[f 0, f 1, f 2, f 3, f 4, f 5, f 6, f 7, f 8, f 9, f 10, f 11, f 12, f 13, f 14, f 15, f 16, f 17, f 18, f 19, f 20, f 21, f 22, f 23, f 24, f 25, f 26, f 27, f 28, f 29, f 30, f 31, f 32, f 33, f 34, f 35, f 36, f 37] := by rw [range_38]; rfl
theorem actlit_38 (a : Act) (h : a.tmps.size = 38) (hd : a.defers = []) : ∃ f : Nat → Value, (∀ t, a.tmps[t]?.getD undef = f t) ∧ a = ⟨#[f 0, f 1, f 2, f 3, f 4, f 5, f 6, f 7, f 8, f 9, f 10, f 11, f 12, f 13, f 14, f 15, f 16, f 17, f 18, f 19, f 20, f 21, f 22, f 23, f 24, f 25, f 26, f 27, f 28, f 29, f 30, f 31, f 32, f 33, f 34, f 35, f 36, f 37], []⟩ := by
  refine ⟨fun t => a.tmps[t]?.getD undef, fun t => rfl, ?_⟩
  obtain ⟨tm, df⟩ := a
  have h' : tm.size = 38 := h
  have hd' : df = [] := hd
  subst hd'
  have e : tm = ((List.range 38).map fun t => tm[t]?.getD undef).toArray := by
    apply Array.ext
    · simpa using h'
    · intro i h1 h2
      simp [h1]
  exact (congrArg (fun x => (⟨x, []⟩ : Act)) (e.trans (lit_38 _)))
end Go.Proofs.YthmnmologmmeaaaGreatDoor
end

/- A region whose order is open, up to where the rest is a chain. -/
section
namespace Go.Proofs.YthmnmologmmeaaaGreatDoor
open Go Go.RowKit Go.Deep Go.Shelf RW

section
variable {ops : Array Oper} {Q : Exit → Act → World → Prop} {P : Program}
theorem wpAny_head {n1 : Nat} (hn1 : n1 ≤ ops.size) (Inv : Array Bool → Act → World → Prop)
    (form : ∀ listed a w, Inv listed a w → listed.size = ops.size ∧ ∀ i, n1 ≤ i → listed.getD i false = false)
    (late : ∀ listed a w i, Inv listed a w → i ∈ Region.ready .any ops listed → n1 ≤ i → ∀ j, j < n1 → listed.getD j false = true)
    (dag : ∀ (i : Nat) (o : Oper), ops[i]? = some o → ∀ e : Edge, e ∈ o.after → e.on < i)
    (step : ∀ listed a w i, Inv listed a w → i ∈ Region.ready .any ops listed → i < n1 → wpOp P ops Q i (Inv (listed.setIfInBounds i true)) a w)
    (tail : ∀ fuel a w, Inv (firsts ops.size n1) a w → ops.size - n1 ≤ fuel → wpAny P .any ops Q fuel (firsts ops.size n1) a w) :
    ∀ (fuel : Nat) (listed : Array Bool) (a : Act) (w : World), leftOf listed ≤ fuel → Inv listed a w → wpAny P .any ops Q fuel listed a w := by
  intro fuel
  induction fuel with
  | zero =>
    intro listed a w hf hi
    obtain ⟨hs, hl⟩ := form listed a w hi
    by_cases hall : ∀ j, j < n1 → listed.getD j false = true
    · have e := eq_firsts hn1 hs hall hl
      subst e
      exact tail 0 a w hi (by have := leftOf_firsts ops.size n1 hn1; omega)
    · exfalso
      obtain ⟨j, hj⟩ := Classical.not_forall.1 hall
      obtain ⟨hj1, hj2⟩ := Classical.not_imp.1 hj
      have := leftOf_set listed j (by rw [Array.getD, dif_pos (by omega)] at hj2 ⊢; simpa using hj2)
      omega
  | succ fuel ih =>
    intro listed a w hf hi
    obtain ⟨hs, hl⟩ := form listed a w hi
    by_cases hall : ∀ j, j < n1 → listed.getD j false = true
    · have e := eq_firsts hn1 hs hall hl
      subst e
      exact tail (fuel + 1) a w hi (by have := leftOf_firsts ops.size n1 hn1; omega)
    · obtain ⟨j, hj⟩ := Classical.not_forall.1 hall
      obtain ⟨hj1, hj2⟩ := Classical.not_imp.1 hj
      have hj3 : listed.getD j false = false := by simpa using hj2
      refine ⟨fun hr => ?_, fun i hm => ?_⟩
      · obtain ⟨i, _, hi2⟩ := least_ready dag hs (by omega) hj3
        rw [hr] at hi2
        cases hi2
      · have hr := mem_ready hm
        have hin : i < n1 := by
          by_cases hin : i < n1
          · exact hin
          · exfalso
            have := late listed a w i hi hm (by omega) j hj1
            rw [hj3] at this
            cases this
        exact wpOp_mono (fun a' w' h' => ih _ a' w' (by have := leftOf_set listed i hr.2.1; omega) h') (step listed a w i hi hm hin)
/-- Behind n1, each operation waits for the one ahead of it. -/
def chain (ops : Array Oper) (n1 : Nat) : Bool := (List.range ops.size).all fun k => decide (k ≤ n1) || ((ops[k]?).map fun o => o.after.any fun e => e.on == k - 1 && Region.binds .any e).getD false
theorem chain_on {n1 k : Nat} {o : Oper} (hc : chain ops n1 = true) (hk : n1 < k) (ho : ops[k]? = some o) : (o.after.any fun e => e.on == k - 1 && Region.binds .any e) = true := by
  unfold chain at hc
  rw [List.all_eq_true] at hc
  have := hc k (List.mem_range.2 (Array.getElem?_eq_some_iff.1 ho).1)
  rw [ho, Bool.or_eq_true] at this
  rcases this with h | h
  · have := of_decide_eq_true h; omega
  · simpa using h
theorem firsts_set {n k : Nat} (h : k < ops.size) (_hn : n = ops.size) : (firsts ops.size k).setIfInBounds k true = firsts ops.size (k + 1) := by
  apply eq_firsts (by omega)
  · simp [firsts_size ops.size k (by omega)]
  · intro j hj
    rw [set_getD _ _ _ (by rw [firsts_size _ _ (by omega)]; exact h), firsts_getD _ _ _ (by omega)]
    by_cases e : j = k
    · rw [if_pos e]
    · rw [if_neg e]; exact decide_eq_true (by omega)
  · intro j hj
    rw [set_getD _ _ _ (by rw [firsts_size _ _ (by omega)]; exact h), firsts_getD _ _ _ (by omega), if_neg (by omega)]
    exact decide_eq_false (by omega)
theorem wpAny_tail {n1 : Nat} (hc : chain ops n1 = true) (dag : ∀ (i : Nat) (o : Oper), ops[i]? = some o → ∀ e : Edge, e ∈ o.after → e.on < i) :
    ∀ m k, k + m = ops.size → n1 ≤ k → ∀ fuel a w, m ≤ fuel → wpList P ops Q (ops.toList.drop k) a w → wpAny P .any ops Q fuel (firsts ops.size k) a w := by
  intro m
  induction m with
  | zero =>
    intro k hk hn fuel a w _ h
    obtain rfl : k = ops.size := by omega
    have hr : ∀ i, i ∉ Region.ready .any ops (firsts ops.size ops.size) := fun i hi => by
      have h1 := (mem_ready hi).1
      have h2 := (mem_ready hi).2.1
      have h3 := firsts_getD ops.size ops.size i (Nat.le_refl _)
      rw [Array.getD_eq_getD_getElem?] at h2 h3
      rw [decide_eq_true h1] at h3
      cases hx : (firsts ops.size ops.size)[i]? <;> rw [hx] at h2 h3 <;> simp_all
    have hr2 := List.eq_nil_iff_forall_not_mem.2 hr
    rw [← Array.length_toList, List.drop_length] at h
    cases fuel with
    | zero => exact ⟨hr2, h⟩
    | succ fuel => exact ⟨fun _ => h, fun i hi => absurd hi (hr i)⟩
  | succ m ih =>
    intro k hk hn fuel a w hf h
    obtain ⟨fu, rfl⟩ : ∃ fu, fuel = fu + 1 := ⟨fuel - 1, by omega⟩
    have hkl : k < ops.size := by omega
    have hun : (firsts ops.size k).getD k false = false := by rw [firsts_getD _ _ _ (by omega)]; exact decide_eq_false (by omega)
    refine ⟨fun hr => ?_, fun i hi => ?_⟩
    · obtain ⟨i, _, hi2⟩ := least_ready dag (firsts_size _ _ (by omega)) hkl hun
      rw [hr] at hi2
      cases hi2
    · have h1 := (mem_ready hi).1
      have h2 := (mem_ready hi).2.1
      have hik : k ≤ i := by
        have h3 := firsts_getD ops.size k i (by omega)
        by_cases hlt : i < k
        · rw [Array.getD_eq_getD_getElem?] at h2 h3
          rw [decide_eq_true hlt] at h3
          cases hx : (firsts ops.size k)[i]? <;> rw [hx] at h2 h3 <;> simp_all
        · omega
      have hik2 : i = k := by
        rcases Nat.lt_or_ge k i with hlt | hge
        · have h4 := ready_onS hi (Array.getElem?_eq_getElem h1) (chain_on hc (by omega) (Array.getElem?_eq_getElem h1))
          rw [firsts_getD _ _ _ (by omega)] at h4
          have := of_decide_eq_true h4
          omega
        · omega
      subst hik2
      have hd : ops.toList.drop i = ops[i] :: ops.toList.drop (i + 1) := by
        rw [List.drop_eq_getElem_cons (by simpa using hkl)]
        simp
      rw [hd] at h
      unfold wpOp
      rw [Array.getElem?_eq_getElem h1]
      unfold wpList at h
      rw [firsts_set hkl rfl]
      have key := ih (i + 1) (by omega) (by omega) fu
      simp only
      by_cases hw : Region.wanted ops[i] (yielded ops a.tmps) = true
      · rw [if_pos hw] at h ⊢
        exact h.imp (Oper.wp_mono fun a' w' h' => key a' w' (by omega) h') id
      · rw [if_neg hw] at h ⊢
        exact key _ _ (by omega) h
/-- The operations ahead of n1 in any order, by what each leaves in its slot; the others one behind the other. -/
theorem wp_region_TK {id : Nat} {a0 : Act} {w0 : World} {T : Nat → Value → World → Prop} {n1 : Nat} (hm : P.follows .mixedOrders = true) (hn1 : n1 ≤ ops.size) (hc : RW.chk ops n1 = true) (hch : chain ops n1 = true)
    (step : ∀ listed a w i, Held ops a0 w0 T listed a w → i ∈ Region.ready .any ops listed → i < n1 → wpOp P ops Q i (Held ops a0 w0 T (listed.setIfInBounds i true)) a w)
    (tail : ∀ listed a w, Held ops a0 w0 T listed a w → (∀ j, j < n1 → listed.getD j false = true) → wpList P ops Q (ops.toList.drop n1) a w) : (Code.region id ops true).wp P Q a0 w0 := by
  have dag := chk_dag hc
  have late1 : ∀ (listed : Array Bool), CL ops listed → n1 ∈ Region.ready .any ops listed ∨ listed.getD n1 false = true → ∀ j, j < n1 → listed.getD j false = true := by
    unfold RW.chk at hc
    rw [Bool.and_eq_true, Bool.and_eq_true, List.all_eq_true, List.all_eq_true, List.all_eq_true] at hc
    obtain ⟨⟨c1, c2⟩, c3⟩ := hc
    intro listed hcl hm j hj
    have key : ∀ m j, m + j = n1 → 1 ≤ m → listed.getD j false = true := by
      intro m
      induction m using Nat.strongRecOn with
      | _ m ih =>
        intro j hmj hm1
        have hk := c3 j (List.mem_range.2 (by omega))
        rw [List.any_eq_true] at hk
        obtain ⟨k, hk1, hk2⟩ := hk
        rw [Bool.and_eq_true, decide_eq_true_eq] at hk2
        obtain ⟨hk2, hk3⟩ := hk2
        have hk4 := List.mem_range.1 hk1
        cases ho : ops[k]? with
        | none => rw [ho] at hk3; cases hk3
        | some o =>
          rw [ho] at hk3
          by_cases e : k = n1
          · subst e
            rcases hm with hm | hm
            · exact ready_onS hm ho hk3
            · exact hcl.on ho hk3 hm
          · exact hcl.on ho hk3 (ih (n1 - k) (by omega) k (by omega) (by omega))
    exact key (n1 - j) j (by omega) (by omega)
  refine wp_region_any hm (wpAny_head hn1 (fun listed a w => Held ops a0 w0 T listed a w ∧ (∀ i, n1 ≤ i → listed.getD i false = false) ∧ CL ops listed) (fun listed a w h => ⟨h.1.size, h.2.1⟩) (fun listed a w i h hi hni j hj => ?_) dag (fun listed a w i h hi hlt => ?_) (fun fuel a w h hf => ?_) _ _ _ _ ?_ ?_)
  · rcases Nat.lt_or_ge n1 i with hlt | hge
    · exfalso
      have h1 := (mem_ready hi).1
      have h4 := ready_onS hi (Array.getElem?_eq_getElem h1) (chain_on hch hlt (Array.getElem?_eq_getElem h1))
      rw [h.2.1 (i - 1) (by omega)] at h4
      cases h4
    · obtain rfl : i = n1 := by omega
      exact late1 listed h.2.2 (.inl hi) j hj
  · refine wpOp_mono ?_ (step listed a w i h.1 hi hlt)
    intro a' w' H'
    refine ⟨H', fun j hj => ?_, h.2.2.set hi⟩
    rw [set_getD _ _ _ (by rw [h.1.size]; exact (mem_ready hi).1), if_neg (by omega)]
    exact h.2.1 j hj
  · refine wpAny_tail hch dag (ops.size - n1) n1 (by omega) (Nat.le_refl _) fuel a w hf (tail _ a w h.1 fun j hj => ?_)
    rw [firsts_getD _ _ _ hn1]
    exact decide_eq_true hj
  · unfold leftOf
    simp
  · have hf : ∀ j, (Array.replicate ops.size false).getD j false = false := by
      intro j
      rw [Array.getD_eq_getD_getElem?, Array.getElem?_replicate]
      split <;> rfl
    exact ⟨⟨by simp, rfl, rfl, Below.drew (Below.refl _ _), fun _ _ => rfl, fun i o t _ _ hl => by rw [hf] at hl; cases hl⟩, fun i _ => hf i, fun j oj _ hl => by rw [hf] at hl; cases hl⟩
end
end Go.Proofs.YthmnmologmmeaaaGreatDoor
end

/- General facts of regions and worlds. -/
section
namespace Go.Proofs.YthmnmologmmeaaaGreatDoor
open Go Go.RowKit Go.Deep

theorem bel_nw (W : World) (o : Obj) : Below W.heap.size W (W.alloc o) := (Below.refl _ _).alloc (Nat.le_refl _) _
theorem gr2 {w w1 w2 : World} {b : Nat} (h : w.grownBy w1 (some b)) (h2 : w1.grownBy w2 (some b)) : w.grownBy w2 (some b) :=
  ⟨h2.os.trans h.os, h2.tape.trans h.tape, h2.output.trans h.output, Nat.le_trans h.size h2.size, fun k hk hne => (h2.block k (Nat.lt_of_lt_of_le hk h.size) hne).trans (h.block k hk hne)⟩
theorem Below.by_ {w w' : World} (h : Below w.heap.size w w') : w.grownBy w' none := ⟨h.os, h.tape, h.output, h.size, fun k hk _ => h.block k hk⟩
section
variable {ops : Array Oper} {Q : Exit → Act → World → Prop} {K : Act → World → Prop} {a : Act} {w : World}
theorem Held.dl {a0 : Act} {W0 : World} {T : Nat → Value → World → Prop} {listed : Array Bool} (_H : Held ops a0 W0 T listed a w) {l : List (Option Nat)} (h : ops.toList.map (·.dst) = l) : ops.toList.map (·.dst) = l := h
set_option maxRecDepth 100000 in
theorem op_lsl {o : Oper} {d t b f : Nat} {v : Value} {ty : TypeId} (hty : ty = 35 ∨ ty = 36 ∨ ty = 22 ∨ ty = 23 ∨ ty = 24) (ho : o.op = .load ty (.tmp t)) (hd : o.dst = some d) (hs : slot a t = .pointer (some ⟨b, f, none⟩))
    (hc : w.cell? ⟨b, f, none⟩ = some v) (h : K (putSlot a d v) w) : o.wp Tryz.prog a w K Q := by
  obtain ⟨op, dst, ty', pos, after, guard⟩ := o
  dsimp only at ho hd
  subst ho hd
  have hs' : a.tmps[t]?.getD undef = .pointer (some ⟨b, f, none⟩) := hs
  unfold Oper.wp
  rcases hty with rfl | rfl | rfl | rfl | rfl <;> (go_simp; exact h)
end
end Go.Proofs.YthmnmologmmeaaaGreatDoor
end

/- Lists of the walk's own outlast what is above them. -/
section
namespace Go.Proofs.YthmnmologmmeaaaGreatDoor
open Go Go.RowKit Go.Deep

theorem OwnI.below {w w' : World} {B n : Nat} {v : Value} {f : Nat → Int} (h : OwnI w B v n f) (hb : Below w.heap.size w w') : OwnI w' B v n f := h.kept (Below.by_ hb) (by cases e : v.ownBlock with | none => exact .inl rfl | some g => exact .inr (by simp))
theorem InS2.below {W W' : World} {ob : Nat} {x1 x2 : Value} {k1 k2 : Nat} {f g : Nat → Int} (h : InS2 ob W x1 x2 k1 k2 f g) (hb : Below W.heap.size W W') : InS2 ob W' x1 x2 k1 k2 f g := ⟨(hb.block _ (Array.getElem?_eq_some_iff.1 h.1).1).trans h.1, h.2.1.below hb, h.2.2.1.below hb, h.2.2.2⟩
end Go.Proofs.YthmnmologmmeaaaGreatDoor
end

/- An abstract frame as a list of its slots. -/
section
namespace Go.Proofs.YthmnmologmmeaaaGreatDoor
open Go Go.RowKit Go.Deep

theorem actlitf (n : Nat) (a : Act) (h : a.tmps.size = n) (hd : a.defers = []) : ∃ f : Nat → Value, (∀ t, a.tmps[t]?.getD undef = f t) ∧ a = ⟨((List.range n).map f).toArray, []⟩ := by
  refine ⟨fun t => a.tmps[t]?.getD undef, fun t => rfl, ?_⟩
  obtain ⟨tm, df⟩ := a
  have h' : tm.size = n := h
  have hd' : df = [] := hd
  subst hd'
  have e : tm = ((List.range n).map fun t => tm[t]?.getD undef).toArray := by
    apply Array.ext
    · simpa using h'
    · intro i h1 h2
      simp [h1]
  exact congrArg (fun x => (⟨x, []⟩ : Act)) e
end Go.Proofs.YthmnmologmmeaaaGreatDoor
end

/- Operations on boxes, dimensions and integers in regions whose order is open. -/
section
namespace Go.Proofs.YthmnmologmmeaaaGreatDoor
open Go Go.RowKit Go.Deep
section
variable {ops : Array Oper} {Q : Exit → Act → World → Prop} {K : Act → World → Prop} {a : Act} {w : World}
set_option maxRecDepth 100000 in
theorem op_fB {o : Oper} {d t b f : Nat} (hf : f < 2) (ho : o.op = .fieldAddr 66 (.tmp t) f) (hd : o.dst = some d) (hs : slot a t = .pointer (some ⟨b, 0, none⟩)) (h : K (putSlot a d (.pointer (some ⟨b, f, none⟩))) w) : o.wp Tryz.prog a w K Q := by
  obtain ⟨op, dst, ty, pos, after, guard⟩ := o
  dsimp only at ho hd
  subst ho hd
  have hs' : a.tmps[t]?.getD undef = .pointer (some ⟨b, 0, none⟩) := hs
  unfold Oper.wp
  rcases (by omega : f = 0 ∨ f = 1) with rfl | rfl <;> (go_simp; exact h)
theorem op_ixD {o : Oper} {d t i b off n c k : Nat} (ho : o.op = .indexAddr 22 (.tmp t) (.tmp i)) (hd : o.dst = some d) (hs : slot a t = .slice (some ⟨b, off, none⟩) n c) (hi : slot a i = .int .i64 (k : Int)) (hk : k < n) (h : K (putSlot a d (.pointer (some ⟨b, off + k * 3, none⟩))) w) : o.wp Tryz.prog a w K Q := by
  obtain ⟨op, dst, ty, pos, after, guard⟩ := o
  dsimp only at ho hd
  subst ho hd
  have hs' : a.tmps[t]?.getD undef = .slice (some ⟨b, off, none⟩) n c := hs
  have hi' : a.tmps[i]?.getD undef = .int .i64 (k : Int) := hi
  have h0 : (0 : Int) ≤ (k : Int) := by omega
  have h1 : (k : Int) < (n : Int) := by omega
  unfold Oper.wp
  go_simp
  exact h
set_option maxRecDepth 100000 in
theorem op_fD {o : Oper} {d t b off f : Nat} (hf : f < 3) (ho : o.op = .fieldAddr 43 (.tmp t) f) (hd : o.dst = some d) (hs : slot a t = .pointer (some ⟨b, off, none⟩)) (h : K (putSlot a d (.pointer (some ⟨b, off + f, none⟩))) w) : o.wp Tryz.prog a w K Q := by
  obtain ⟨op, dst, ty, pos, after, guard⟩ := o
  dsimp only at ho hd
  subst ho hd
  have hs' : a.tmps[t]?.getD undef = .pointer (some ⟨b, off, none⟩) := hs
  unfold Oper.wp
  rcases (by omega : f = 0 ∨ f = 1 ∨ f = 2) with rfl | rfl | rfl <;> (go_simp; exact h)
theorem op_ldI {o : Oper} {d t b off : Nat} {v : Value} (ho : o.op = .load 3 (.tmp t)) (hd : o.dst = some d) (hs : slot a t = .pointer (some ⟨b, off, none⟩)) (hc : w.cell? ⟨b, off, none⟩ = some v) (h : K (putSlot a d v) w) : o.wp Tryz.prog a w K Q := by
  obtain ⟨op, dst, ty, pos, after, guard⟩ := o
  dsimp only at ho hd
  subst ho hd
  have hs' : a.tmps[t]?.getD undef = .pointer (some ⟨b, off, none⟩) := hs
  unfold Oper.wp
  go_simp
  exact h
theorem op_bsI {o : Oper} {d t : Nat} {x : Int} (ho : o.op = .buildSlice 35 1 #[(0, .tmp t)]) (hd : o.dst = some d) (hs : slot a t = .int .i64 x) (h : K (putSlot a d (.slice (some ⟨w.heap.size, 0, none⟩) 1 1)) (w.alloc (.cells #[.int .i64 x] 3))) : o.wp Tryz.prog a w K Q := by
  obtain ⟨op, dst, ty, pos, after, guard⟩ := o
  dsimp only at ho hd
  subst ho hd
  have hs' : a.tmps[t]?.getD undef = .int .i64 x := hs
  unfold Oper.wp
  go_simp
  exact h
end
/-- A literal of one integer, in a block from B on. -/
def OneI (x : Int) (B : Nat) : Value → World → Prop := fun v W => ∃ b, v = .slice (some ⟨b, 0, none⟩) 1 1 ∧ B ≤ b ∧ W.heap[b]? = some (.cells #[.int .i64 x] 3 (0, 0))
theorem oneI_mono (x : Int) (B : Nat) : Mono (OneI x B) := by
  rintro v w w' ⟨b, h1, h2, h3⟩ hb; exact ⟨b, h1, h2, (hb.block b (Array.getElem?_eq_some_iff.1 h3).1).trans h3⟩
/-- One number more, behind a literal of one number at b: the list lies where it lay, or in a new block. -/
theorem wpList_appJ {ops : Array Oper} {rest : List Oper} {o : Oper} {a : Act} {Q : Exit → Act → World → Prop} (hgd : o.guard = none) (s x : Operand)
    (ho : o.op = .call { callee := .builtin .append, args := #[s, x], argTypes := #[35, 35] })
    (W : World) (d : Int) (B : Nat) (v : Value) (n : Nat) (f : Nat → Int) (hs : a.eval s = v) (b : Nat) (hx : a.eval x = .slice (some ⟨b, 0, none⟩) 1 1) (hb : W.heap[b]? = some (.cells #[.int .i64 d] 3 (0, 0)))
    (hown : OwnI W B v n f) (hn : n ≤ 1000000) (hB : B ≤ W.heap.size)
    (h : ∀ v' w', OwnI w' B v' (n + 1) (updZ f n d) → W.grownBy w' v.ownBlock → (v'.ownBlock = v.ownBlock ∨ ∃ g, v'.ownBlock = some g ∧ W.heap.size ≤ g) → wpList Tryz.prog ops Q rest (a.put o.dst v') w') : wpList Tryz.prog ops Q (o :: rest) a W := by
  obtain ⟨xs, h1, h2⟩ := hown
  obtain ⟨i0, hi0, hz0, hz1, hz2⟩ := info_parts info_int
  have hnew : ∀ j u, [Value.int .i64 d][j]? = some u → W.cell? ((⟨b, 0, none⟩ : Addr).add j) = some u := by
    intro j u hu
    have hj : j = 0 := by
      rcases j with _ | j
      · rfl
      · simp at hu
    subst hj
    have hu' : u = .int .i64 d := by simpa using hu.symm
    subst hu'
    simp [World.cell?, hb, Addr.add]
  refine wpList_append_own_at _ hgd s x 35 ho B 3 i0 (.int .i64 0) 1 8 Tryz.underlying35 hi0 hz0 hz1 hz2 rfl Nat.zero_lt_one v n xs hs h1 ⟨b, 0, none⟩ 1 1 [.int .i64 d] hx rfl hnew
    (fun u hu => by have h9 : u = .int .i64 d := by simpa using hu
                    subst h9; rfl) (by unfold maxLen; omega) (by omega) hB ?_
  intro v' w' g1 g2 _ g4
  refine h v' w' ⟨xs ++ [.int .i64 d], g1, fun k hk => ?_⟩ g2 (g4.imp id fun h9 => ⟨_, h9, Nat.le_refl _⟩)
  have hl : xs.length = n := by rw [h1.1, Nat.mul_one]
  unfold updZ
  by_cases e : k = n
  · subst e
    rw [if_pos rfl, List.getElem?_append_right (by omega), hl, Nat.sub_self]
    rfl
  · rw [if_neg e, List.getElem?_append_left (by omega)]
    exact h2 k (by omega)
end Go.Proofs.YthmnmologmmeaaaGreatDoor
end

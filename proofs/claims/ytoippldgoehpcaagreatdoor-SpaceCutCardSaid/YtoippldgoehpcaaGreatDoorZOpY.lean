/- A region whose order is open, with a fact of several slots beside what each holds. -/
import Derived.Test.YtoippldgoehpcaaGreatDoorZRgT
import Derived.Test.YtoippldgoehpcaaGreatDoorZHuS

/- A region whose order is open, with a fact of several slots beside what each holds. -/
section
namespace Go.Proofs.YtoippldgoehpcaaGreatDoor
open Go Go.RowKit Go.Deep Go.Shelf

section
variable {ops : Array Oper} {Q : Exit → Act → World → Prop}
theorem wp_region_TJ {id : Nat} {a0 : Act} {w0 : World} {T : Nat → Value → World → Prop} {P : Program} (J : Array Bool → Act → World → Prop) (hJ : J (Array.replicate ops.size false) a0 w0.drew) {n1 : Nat} {ol : Oper} (hm : P.follows .mixedOrders = true) (hsz : ops.size = n1 + 1) (hol : ops[n1]? = some ol) (hgl : ol.guard = none) (hc : RW.chk ops n1 = true)
    (step : ∀ listed a w i, Held ops a0 w0 T listed a w → J listed a w → RW.CL ops listed → i ∈ Region.ready .any ops listed → i < n1 → wpOp P ops Q i (fun a' w' => Held ops a0 w0 T (listed.setIfInBounds i true) a' w' ∧ J (listed.setIfInBounds i true) a' w') a w)
    (tail : ∀ listed a w, Held ops a0 w0 T listed a w → J listed a w → (∀ j, j < n1 → listed.getD j false = true) → ol.wp P a w (fun a' w' => Q .normal a' w') Q) : (Code.region id ops true).wp P Q a0 w0 := by
  have dag := chk_dag hc
  refine wp_region_any hm (wpAny_inv (fun listed a w => ((Held ops a0 w0 T listed a w ∧ J listed a w) ∧ listed.getD n1 false = false ∧ RW.CL ops listed) ∨ (listed.size = ops.size ∧ (∀ j, j < ops.size → listed.getD j false = true) ∧ Q .normal a w)) ?_ ?_ _ _ _ _ ?_ ?_)
  · rintro listed a w i (⟨⟨H, HJ⟩, hl, hcl⟩ | ⟨hs, hall, _⟩) hi
    · have hlt := (mem_ready hi).1
      by_cases e : i = n1
      · subst e
        have hlate := chk_late hsz hc hcl hi
        refine wpOp_of hol (.inl hgl) ?_
        have ht := tail listed a w H HJ hlate
        refine Oper.wp_mono ?_ ht
        · intro a' w' hq
          refine .inr ⟨by simpa using H.size, fun j hj => ?_, hq⟩
          rw [set_getD _ _ _ (by rw [H.size]; exact hlt)]
          by_cases e2 : j = i
          · rw [if_pos e2]
          · rw [if_neg e2]; exact hlate j (by omega)
      · refine wpOp_mono ?_ (step listed a w i H HJ hcl hi (by omega))
        intro a' w' H'
        refine .inl ⟨H', ?_, hcl.set hi⟩
        rw [set_getD _ _ _ (by rw [H.size]; exact hlt), if_neg (fun x => e x.symm)]
        exact hl
    · exfalso
      have h1 := (mem_ready hi).1
      have h2 := (mem_ready hi).2.1
      have h3 := hall i h1
      rw [Array.getD, dif_pos (by omega)] at h2 h3
      rw [h2] at h3
      cases h3
  · rintro listed a w (⟨⟨H, _⟩, hl, _⟩ | ⟨_, _, hq⟩) hr
    · have := all_listed H.size dag hr n1 (by omega)
      rw [hl] at this
      cases this
    · exact hq
  · unfold leftOf
    simp
  · have hf : ∀ j, (Array.replicate ops.size false).getD j false = false := by
      intro j
      rw [Array.getD_eq_getD_getElem?, Array.getElem?_replicate]
      split <;> rfl
    refine .inl ⟨⟨⟨by simp, rfl, rfl, Below.drew (Below.refl _ _), fun _ _ => rfl, fun i o t _ _ hl => by rw [hf] at hl; cases hl⟩, hJ⟩, hf n1, fun j oj _ hl => ?_⟩
    rw [hf] at hl; cases hl
end
theorem slot_other (a : Act) {d t : Nat} (v : Value) (h : d ≠ t) : slot (putSlot a d v) t = slot a t := by
  show (a.tmps.setIfInBounds d v)[t]?.getD undef = a.tmps[t]?.getD undef
  rw [Array.getElem?_setIfInBounds_ne h]
/-- Operation i2 done: the slices in the slots s1 and s2 lie in different blocks. -/
def JD (i2 s1 s2 : Nat) : Array Bool → Act → World → Prop := fun listed a _ => listed.getD i2 false = true → ∀ g1 n1 c1 g2 n2 c2, slot a s1 = .slice (some ⟨g1, 0, none⟩) n1 c1 → slot a s2 = .slice (some ⟨g2, 0, none⟩) n2 c2 → g1 ≠ g2
theorem JD.keep {i2 s1 s2 i d : Nat} {listed : Array Bool} {a : Act} {w w' : World} {v : Value} (h : JD i2 s1 s2 listed a w) (hi : i < listed.size) (hne : i2 ≠ i) (h1 : d ≠ s1) (h2 : d ≠ s2) : JD i2 s1 s2 (listed.setIfInBounds i true) (putSlot a d v) w' := by
  intro hl
  rw [set_getD _ _ _ hi, if_neg hne] at hl
  rw [slot_other a v h1, slot_other a v h2]
  exact h hl
theorem JD.none {i2 s1 s2 i : Nat} {listed : Array Bool} {a : Act} {w : World} (hi : i < listed.size) (hne : i2 ≠ i) (h : listed.getD i2 false = false) : JD i2 s1 s2 (listed.setIfInBounds i true) a w := by
  intro hl
  rw [set_getD _ _ _ hi, if_neg hne, h] at hl
  cases hl
end Go.Proofs.YtoippldgoehpcaaGreatDoor
end

/- A list of integers appended to an empty literal: a new block. -/
section
namespace Go.Proofs.YtoippldgoehpcaaGreatDoor
open Go Go.RowKit Go.Deep Go.Shelf

theorem run_app_int {w : World} (ty : TypeId) {b : Nat} (hb : w.heap[b]? = some (.cells #[] 3 (0, 0)))
    (A : Option Addr) (m c : Nat) (f : Nat → Int) (hi : IntsAt w A m f) (hm : m ≤ 1000000) (h0 : 0 < m) :
    ∃ c' w', (Builtin.append_ #[38, 38] ty #[.slice (some ⟨b, 0, none⟩) 0 0, .slice A m c]).run Tryz.prog w = .ok (.slice (some ⟨w.heap.size, 0, none⟩) m c') w' ∧ w.heap.size < w'.heap.size ∧ OwnI w' 0 (.slice (some ⟨w.heap.size, 0, none⟩) m c') m f ∧ Below w.heap.size w w' := by
  have hrow := hi.row
  obtain ⟨i, hI9, hz0, hz1, hz2⟩ := info_parts info_clI
  obtain ⟨b', o, rfl, _, _⟩ := hi h0
  have hnews := hrow.news (by decide)
  have own : w.ownsRow 0 3 1 (.slice (some ⟨b, 0, none⟩) 0 0) 0 [] := ⟨by simp, .inr ⟨b, 0, #[], rfl, Nat.zero_le _, hb, Nat.le_refl _, by unfold maxLen; omega, by simp, by simp⟩⟩
  obtain ⟨v', w', hr, h2, h3, h4⟩ := run_append_own (P := Tryz.prog) w 0 38 ty 3 i (.int .i64 0) 1 8 Tryz.underlying38 hI9 hz0 hz1 hz2 rfl (by decide) _ 0 [] own ⟨b', o, none⟩ m c (rowL (intF f) 1 m) (rowL_len _ _ _) hnews (rowL_one (intF_one f)) (by unfold maxLen; omega) (by omega) (by omega)
  have hr2 := run_append_grow (P := Tryz.prog) w 38 ty 3 i (.int .i64 0) Tryz.underlying38 hI9 hz0 ⟨b, 0, none⟩ 0 0 [] (by simp) (by intro j u h; simp at h) ⟨b', o, none⟩ m c (rowL (intF f) 1 m) (by rw [hz1]; exact rowL_len _ _ _) hnews (by omega) (by omega) (growslice_fits (by omega) (by rw [hz2]; omega))
  rw [hr] at hr2
  injection hr2 with e1 e2
  have hown2 : w'.ownsRow 0 3 1 v' m (rowL (intF f) 1 m) := by simpa using h2
  rw [Nat.zero_add] at e1
  subst e1
  refine ⟨_, w', hr, by rw [e2, World.size_alloc]; exact Nat.lt_succ_self _, ⟨_, hown2, fun k hk => rowL_int hk⟩, ?_⟩
  rw [e2]
  exact (Below.drew (Below.refl _ _)).alloc (by simp) _
section
variable {ops : Array Oper} {Q : Exit → Act → World → Prop} {K : Act → World → Prop} {a : Act} {w : World}
theorem op_apo {o : Oper} {d s x : Nat} (ho : o.op = .call { callee := .builtin .append, args := #[.tmp s, .tmp x], argTypes := #[38, 38] }) (hd : o.dst = some d)
    {b : Nat} (hb : w.heap[b]? = some (.cells #[] 3 (0, 0))) (hs : slot a s = .slice (some ⟨b, 0, none⟩) 0 0) {A : Option Addr} {m c : Nat} {f : Nat → Int} (hx : slot a x = .slice A m c) (hi : IntsAt w A m f) (hm : m ≤ 1000000) (h0 : 0 < m)
    (h : ∀ c' w', w.heap.size < w'.heap.size → OwnI w' 0 (.slice (some ⟨w.heap.size, 0, none⟩) m c') m f → Below w.heap.size w w' → K (putSlot a d (.slice (some ⟨w.heap.size, 0, none⟩) m c')) w') : o.wp Tryz.prog a w K Q := by
  obtain ⟨c', w', hr, u1, u2, u3⟩ := run_app_int (w := w) o.type hb A m c f hi hm h0
  refine Lib.wp_append_run w (.tmp s) (.tmp x) 38 38 ho _ _ (by rw [← hs]; simp [Act.eval, slot]) (by rw [← hx]; simp [Act.eval, slot]) _ w' hr ?_
  rw [hd]
  exact h c' w' u1 u2 u3
end
end Go.Proofs.YtoippldgoehpcaaGreatDoor
end

/- Operations on a new box in regions whose order is open. -/
section
namespace Go.Proofs.YtoippldgoehpcaaGreatDoor
open Go Go.RowKit Go.Deep
section
variable {ops : Array Oper} {Q : Exit → Act → World → Prop} {K : Act → World → Prop} {a : Act} {w : World}
theorem op_ix0 {o : Oper} {d t b off n c : Nat} (ho : o.op = .indexAddr 24 (.tmp t) (.const (.int .i64 0))) (hd : o.dst = some d) (hs : slot a t = .slice (some ⟨b, off, none⟩) n c) (hk : 0 < n) (h : K (putSlot a d (.pointer (some ⟨b, off, none⟩))) w) : o.wp Tryz.prog a w K Q := by
  obtain ⟨op, dst, ty, pos, after, guard⟩ := o
  dsimp only at ho hd
  subst ho hd
  have hs' : a.tmps[t]?.getD undef = .slice (some ⟨b, off, none⟩) n c := hs
  unfold Oper.wp
  go_simp
  exact h
theorem op_fC0 {o : Oper} {d t b off : Nat} (ho : o.op = .fieldAddr 41 (.tmp t) 0) (hd : o.dst = some d) (hs : slot a t = .pointer (some ⟨b, off, none⟩)) (h : K (putSlot a d (.pointer (some ⟨b, off, none⟩))) w) : o.wp Tryz.prog a w K Q := by
  obtain ⟨op, dst, ty, pos, after, guard⟩ := o
  dsimp only at ho hd
  subst ho hd
  have hs' : a.tmps[t]?.getD undef = .pointer (some ⟨b, off, none⟩) := hs
  unfold Oper.wp
  go_simp
  exact h
set_option maxRecDepth 100000 in
theorem op_bdB {o : Oper} {d t1 t2 : Nat} {p q : Option Addr} {n c n' c' : Nat} (ho : o.op = .build 66 #[(0, .tmp t1), (1, .tmp t2)]) (hd : o.dst = some d) (h1 : slot a t1 = .slice p n c) (h2 : slot a t2 = .slice q n' c') (h : K (putSlot a d (.agg #[.slice p n c, .slice q n' c'])) w) : o.wp Tryz.prog a w K Q := by
  obtain ⟨op, dst, ty, pos, after, guard⟩ := o
  dsimp only at ho hd
  subst ho hd
  have h1' : a.tmps[t1]?.getD undef = .slice p n c := h1
  have h2' : a.tmps[t2]?.getD undef = .slice q n' c' := h2
  unfold Oper.wp
  go_simp
  exact h
set_option maxRecDepth 100000 in
theorem op_alB {o : Oper} {d : Nat} (ho : o.op = .alloc 66) (hd : o.dst = some d) (h : K (putSlot a d (.pointer (some ⟨w.heap.size, 0, none⟩))) (w.alloc (.cells #[.slice none 0 0, .slice none 0 0] 66))) : o.wp Tryz.prog a w K Q := by
  obtain ⟨op, dst, ty, pos, after, guard⟩ := o
  dsimp only at ho hd
  subst ho hd
  unfold Oper.wp
  go_simp
  exact h
set_option maxRecDepth 100000 in
theorem op_stB {o : Oper} {t s b : Nat} {p q : Option Addr} {n c n' c' : Nat} {x' y' : Value} (ho : o.op = .store 66 (.tmp t) (.tmp s)) (hd : o.dst = none) (hs : slot a t = .pointer (some ⟨b, 0, none⟩)) (hv : slot a s = .agg #[.slice p n c, .slice q n' c'])
    (hb : w.heap[b]? = some (.cells #[x', y'] 66 (0, 0))) (h : K a ((w.setCell ⟨b, 0, none⟩ (.slice p n c)).setCell ⟨b, 1, none⟩ (.slice q n' c'))) : o.wp Tryz.prog a w K Q := by
  obtain ⟨op, dst, ty, pos, after, guard⟩ := o
  dsimp only at ho hd
  subst ho hd
  have hs' : a.tmps[t]?.getD undef = .pointer (some ⟨b, 0, none⟩) := hs
  have hv' : a.tmps[s]?.getD undef = .agg #[.slice p n c, .slice q n' c'] := hv
  obtain ⟨r0, r1, f0, f1⟩ := two_gen hb
  unfold Oper.wp
  go_simp
  exact h
end
theorem OwnI.up {w : World} {B B' n g c : Nat} {f : Nat → Int} (h : OwnI w B (.slice (some ⟨g, 0, none⟩) n c) n f) (hb : B' ≤ g) : OwnI w B' (.slice (some ⟨g, 0, none⟩) n c) n f := by
  obtain ⟨xs, ⟨hl, h1⟩, h2⟩ := h
  refine ⟨xs, ⟨hl, ?_⟩, h2⟩
  rcases h1 with ⟨h1, _⟩ | ⟨g', cap, cur, h3, h4, h5⟩
  · cases h1
  · have e := h3
    injection e with e
    injection e with e
    injection e with e
    subst e
    exact .inr ⟨g, cap, cur, h3, hb, h5⟩
theorem own_box {w : World} {B n g c b : Nat} {f : Nat → Int} {cs : Array Value} (h : OwnI w B (.slice (some ⟨g, 0, none⟩) n c) n f) (hb : w.heap[b]? = some (.cells cs 66 (0, 0))) : g ≠ b := by
  obtain ⟨xs, ⟨hl, h1⟩, h2⟩ := h
  rcases h1 with ⟨h1, _⟩ | ⟨g', cap, cur, h3, h4, h5, _⟩
  · cases h1
  · injection h3 with e
    injection e with e
    injection e with e
    subst e
    intro e
    subst e
    rw [hb] at h5
    injection h5 with h5
    injection h5 with _ h5
    exact absurd h5 (by decide)
/-- A list of the walk's own, behind the world's blocks from B0 on. -/
def OwnT (B0 n : Nat) (x : Nat → Int) : Value → World → Prop := fun v W => ∃ g c, v = .slice (some ⟨g, 0, none⟩) n c ∧ (B0 ≤ g ∧ g < W.heap.size) ∧ OwnI W 0 v n x
theorem ownT_mono (B0 n : Nat) (x : Nat → Int) : Mono (OwnT B0 n x) := by
  rintro v w w' ⟨g, c, h1, h2, h3⟩ hb
  exact ⟨g, c, h1, ⟨h2.1, Nat.lt_of_lt_of_le h2.2 hb.size⟩, h3.below hb⟩
def BoxT (B0 n : Nat) (x : Nat → Int) : Value → World → Prop := fun v W => ∃ g c g' c', v = .agg #[.slice (some ⟨g, 0, none⟩) n c, .slice (some ⟨g', 0, none⟩) n c'] ∧ ((B0 ≤ g ∧ g < W.heap.size) ∧ OwnI W 0 (.slice (some ⟨g, 0, none⟩) n c) n x) ∧ (B0 ≤ g' ∧ g' < W.heap.size) ∧ OwnI W 0 (.slice (some ⟨g', 0, none⟩) n c') n x
theorem boxT_mono (B0 n : Nat) (x : Nat → Int) : Mono (BoxT B0 n x) := by
  rintro v w w' ⟨g, c, g', c', h1, ⟨h2, h3⟩, h4, h5⟩ hb
  exact ⟨g, c, g', c', h1, ⟨⟨h2.1, Nat.lt_of_lt_of_le h2.2 hb.size⟩, h3.below hb⟩, ⟨h4.1, Nat.lt_of_lt_of_le h4.2 hb.size⟩, h5.below hb⟩
def NewB (B0 : Nat) : Value → World → Prop := fun v W => ∃ b, v = .pointer (some ⟨b, 0, none⟩) ∧ B0 ≤ b ∧ W.heap[b]? = some (.cells #[.slice none 0 0, .slice none 0 0] 66 (0, 0))
theorem newB_mono (B0 : Nat) : Mono (NewB B0) := by
  rintro v w w' ⟨b, h1, h2, h3⟩ hb; exact ⟨b, h1, h2, (hb.block b (Array.getElem?_eq_some_iff.1 h3).1).trans h3⟩
/-- Operation i done: the box's two slices, in the slot s, lie in different blocks. -/
def JA (i s : Nat) : Array Bool → Act → World → Prop := fun listed a _ => listed.getD i false = true → ∀ g1 n1 c1 g2 n2 c2, slot a s = .agg #[.slice (some ⟨g1, 0, none⟩) n1 c1, .slice (some ⟨g2, 0, none⟩) n2 c2] → g1 ≠ g2
theorem JA.keep {i2 s i d : Nat} {listed : Array Bool} {a : Act} {w w' : World} {v : Value} (h : JA i2 s listed a w) (hi : i < listed.size) (hne : i2 ≠ i) (h1 : d ≠ s) : JA i2 s (listed.setIfInBounds i true) (putSlot a d v) w' := by
  intro hl
  rw [set_getD _ _ _ hi, if_neg hne] at hl
  rw [slot_other a v h1]
  exact h hl
end Go.Proofs.YtoippldgoehpcaaGreatDoor
end

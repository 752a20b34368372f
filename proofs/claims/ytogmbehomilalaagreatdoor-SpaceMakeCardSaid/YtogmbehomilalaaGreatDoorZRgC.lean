/- A region in a round whose order is open: the pairs of keys and cells. -/
import Derived.Test.YtogmbehomilalaaGreatDoorZSrK
namespace Go.Proofs.YtogmbehomilalaaGreatDoor
open Go Go.RowKit Go.Deep Go.Shelf
namespace RC
open RW
attribute [local go_sem] Oper.semAt_some
section
variable {ops : Array Oper} {Q : Exit → Act → World → Prop}
variable {l n : Nat} {K : Act → World → Prop} {a : Act} {w : World}
theorem oi_loadS {o : Oper} {d t b : Nat} {p : Option Addr} {m c : Nat} (ho : o.op = .load 129 (.tmp t)) (hd : o.dst = some d) (hs : slot a t = .pointer (some ⟨b, 0, none⟩)) (hc : w.cell? ⟨b, 0, none⟩ = some (.slice p m c)) (h : K (putS a d (.slice p m c)) w) : o.wpIn (Fence.wide.inRound l) n Tryz.prog a w K Q := by
  obtain ⟨op, dst, ty, pos, after, guard⟩ := o
  dsimp only at ho hd
  subst ho hd
  have hs' : a.tmps[t]?.getD undef = .pointer (some ⟨b, 0, none⟩) := hs
  unfold Oper.wpIn
  go_simp
  exact h
theorem oi_loadF {o : Oper} {d t b g : Nat} {x y : Array Value} (ho : o.op = .load 84 (.tmp t)) (hd : o.dst = some d) (hs : slot a t = .pointer (some ⟨b, 0, none⟩)) (hc : w.cell? ⟨b, 0, none⟩ = some (.func (.func g) x y)) (h : K (putS a d (.func (.func g) x y)) w) : o.wpIn (Fence.wide.inRound l) n Tryz.prog a w K Q := by
  obtain ⟨op, dst, ty, pos, after, guard⟩ := o
  dsimp only at ho hd
  subst ho hd
  have hs' : a.tmps[t]?.getD undef = .pointer (some ⟨b, 0, none⟩) := hs
  unfold Oper.wpIn
  go_simp
  exact h
theorem oi_loadC {o : Oper} {d t b : Nat} {p q : Option Addr} {m c m' c' : Nat} (ho : o.op = .load 38 (.tmp t)) (hd : o.dst = some d) (hs : slot a t = .pointer (some ⟨b, 0, none⟩)) (hc : w.cell? ⟨b, 0, none⟩ = some (.slice p m c) ∧ w.cell? ⟨b, 1, none⟩ = some (.slice q m' c')) (h : K (putS a d (.agg #[.slice p m c, .slice q m' c'])) w) : o.wpIn (Fence.wide.inRound l) n Tryz.prog a w K Q := by
  obtain ⟨op, dst, ty, pos, after, guard⟩ := o
  dsimp only at ho hd
  subst ho hd
  have hs' : a.tmps[t]?.getD undef = .pointer (some ⟨b, 0, none⟩) := hs
  obtain ⟨hc0, hc1⟩ := hc
  unfold Oper.wpIn
  go_simp
  exact h
theorem oi_call {o : Oper} {d f t g : Nat} {s : Value} {tys : Array TypeId} (ho : o.op = .call { callee := .value (.tmp f), args := #[.tmp t], argTypes := tys }) (hd : o.dst = some d) (hf : slot a f = .func (.func g) #[] #[]) (hs : slot a t = s)
    (he : ∀ args w, (callFunc g args).run Tryz.prog w = .ok (.enter g args) w) (h : Calls Tryz.prog g #[s] w fun e w' => ∃ v, e = .returned v ∧ K (putS a d v) w') : o.wpIn (Fence.wide.inRound l) n Tryz.prog a w K Q := by
  obtain ⟨op, dst, ty, pos, after, guard⟩ := o
  dsimp only at ho hd
  subst ho hd
  have hf' : a.tmps[f]?.getD undef = .func (.func g) #[] #[] := hf
  have hs' : a.tmps[t]?.getD undef = s := hs
  have he' := he #[s] w
  unfold Oper.wpIn
  go_simp
  refine ⟨trivial, fun h => (by cases h), (CallsIn.inRound l (callsIn_wide.2 h)).mono ?_⟩
  rintro e w' ⟨v, rfl, hk⟩
  exact hk
theorem oi_build {o : Oper} {d t t' : Nat} {p p2 q : Option Addr} {m c m2 c2 m' c' : Nat} (ho : o.op = .build 131 #[(0, .tmp t), (1, .tmp t')]) (hd : o.dst = some d) (hs : slot a t = .slice p2 m2 c2) (hs2 : slot a t' = .agg #[.slice p m c, .slice q m' c']) (h : K (putS a d (.agg #[.slice p2 m2 c2, .slice p m c, .slice q m' c'])) w) : o.wpIn (Fence.wide.inRound l) n Tryz.prog a w K Q := by
  obtain ⟨op, dst, ty, pos, after, guard⟩ := o
  dsimp only at ho hd
  subst ho hd
  have hs' : a.tmps[t]?.getD undef = .slice p2 m2 c2 := hs
  have hs2' : a.tmps[t']?.getD undef = .agg #[.slice p m c, .slice q m' c'] := hs2
  unfold Oper.wpIn
  go_simp
  exact h
theorem oi_slice {o : Oper} {d t : Nat} {p p2 q : Option Addr} {m c m2 c2 m' c' : Nat} (ho : o.op = .buildSlice 129 1 #[(0, .tmp t)]) (hd : o.dst = some d) (hs : slot a t = .agg #[.slice p2 m2 c2, .slice p m c, .slice q m' c']) (h : K (putS a d (.slice (some ⟨w.heap.size, 0, none⟩) 1 1)) (w.alloc (.cells #[.slice p2 m2 c2, .slice p m c, .slice q m' c'] 131))) : o.wpIn (Fence.wide.inRound l) n Tryz.prog a w K Q := by
  obtain ⟨op, dst, ty, pos, after, guard⟩ := o
  dsimp only at ho hd
  subst ho hd
  have hs' : a.tmps[t]?.getD undef = .agg #[.slice p2 m2 c2, .slice p m c, .slice q m' c'] := hs
  unfold Oper.wpIn
  go_simp
  exact h
theorem oi_store {o : Oper} {t t' b : Nat} {p : Option Addr} {m c : Nat} {u : Value} (ho : o.op = .store 129 (.tmp t) (.tmp t')) (hd : o.dst = none) (hs : slot a t = .pointer (some ⟨b, 0, none⟩)) (hs2 : slot a t' = .slice p m c) (hu : w.cell? ⟨b, 0, none⟩ = some u) (hz : w.frozen? ⟨b, 0, none⟩ = false) (h : K a (w.setCell ⟨b, 0, none⟩ (.slice p m c))) : o.wpIn (Fence.wide.inRound l) n Tryz.prog a w K Q := by
  obtain ⟨op, dst, ty, pos, after, guard⟩ := o
  dsimp only at ho hd
  subst ho hd
  have hs' : a.tmps[t]?.getD undef = .pointer (some ⟨b, 0, none⟩) := hs
  have hs2' : a.tmps[t']?.getD undef = .slice p m c := hs2
  unfold Oper.wpIn
  go_simp
  exact h
end
/-- What the region's operations leave. -/
def pairT (sp : Option Addr) (sn sc : Nat) (g : Nat) (vp : Option Addr) (vn vc : Nat) (up : Option Addr) (un uc : Nat) : Nat → Value → World → Prop
  | 0 => fun v _ => v = .slice sp sn sc
  | 1 => fun v _ => v = .func (.func g) #[] #[]
  | 2 => fun v _ => v = .agg #[.slice vp vn vc, .slice up un uc]
  | 3 => fun v _ => v = .slice vp vn vc
  | 4 => fun v _ => v = .agg #[.slice vp vn vc, .slice up un uc]
  | 5 => fun v _ => v = .agg #[.slice vp vn vc, .slice vp vn vc, .slice up un uc]
  | 6 => fun v W => ∃ b, v = .slice (some ⟨b, 0, none⟩) 1 1 ∧ W.heap[b]? = some (.cells #[.slice vp vn vc, .slice vp vn vc, .slice up un uc] 131 (0, 0))
  | _ => fun _ _ => True
theorem pairT_stays {sp : Option Addr} {sn sc g : Nat} {vp : Option Addr} {vn vc : Nat} {up : Option Addr} {un uc : Nat} : ∀ i v x y, pairT sp sn sc g vp vn vc up un uc i v x → Below x.heap.size x y → pairT sp sn sc g vp vn vc up un uc i v y := by
  intro i v x y h hb
  match i with
  | 0 => exact h
  | 1 => exact h
  | 2 => exact h
  | 3 => exact h
  | 4 => exact h
  | 5 => exact h
  | 6 =>
    obtain ⟨b, h1, h2⟩ := h
    exact ⟨b, h1, (hb.block b (Array.getElem?_eq_some_iff.1 h2).1).trans h2⟩
  | i + 7 => trivial
set_option maxRecDepth 100000 in
set_option maxHeartbeats 4000000 in
theorem r_pairs {ops : Array Oper} {Q : Exit → Act → World → Prop} {id l n : Nat} {a0 : Act} {w0 : World} {sp : Option Addr} {sn sc g : Nat} {vp : Option Addr} {vn vc : Nat} {up : Option Addr} {un uc : Nat} {B4 Bp Bx : Nat} (size : ops.size = 9) (hn : a0.tmps.size = 42)
    (dl : ops.toList.map (·.dst) = [some 14, some 15, some 16, some 17, some 18, some 19, some 20, some 21, none]) (dag : ∀ (i : Nat) (o : Oper), ops[i]? = some o → ∀ e : Edge, e ∈ o.after → e.on < i)
    (rd7 : Region.ready .any ops (firsts 9 7) = [7]) (rd8 : Region.ready .any ops ((firsts 9 7).setIfInBounds 7 true) = [8]) (rd9 : Region.ready .any ops (((firsts 9 7).setIfInBounds 7 true).setIfInBounds 8 true) = [])
    {o0 : Oper} (e0 : ops[0]? = some o0) (k0 : o0.op = .load 129 (.tmp 7)) (g0 : o0.guard = none)
    {o1 : Oper} (e1 : ops[1]? = some o1) (k1 : o1.op = .load 84 (.tmp 4)) (g1 : o1.guard = none)
    {o2 : Oper} (e2 : ops[2]? = some o2) (k2 : o2.op = .load 38 (.tmp 8)) (g2 : o2.guard = none)
    {o3 : Oper} (e3 : ops[3]? = some o3) (k3 : o3.op = .call { callee := .value (.tmp 15), args := #[.tmp 16], argTypes := #[38] }) (g3 : o3.guard = none) (f3_1 : (o3.after.any fun e => e.on == 1 && Region.binds .any e) = true) (f3_2 : (o3.after.any fun e => e.on == 2 && Region.binds .any e) = true)
    {o4 : Oper} (e4 : ops[4]? = some o4) (k4 : o4.op = .load 38 (.tmp 8)) (g4 : o4.guard = none)
    {o5 : Oper} (e5 : ops[5]? = some o5) (k5 : o5.op = .build 131 #[(0, .tmp 17), (1, .tmp 18)]) (g5 : o5.guard = none) (f5_3 : (o5.after.any fun e => e.on == 3 && Region.binds .any e) = true) (f5_4 : (o5.after.any fun e => e.on == 4 && Region.binds .any e) = true)
    {o6 : Oper} (e6 : ops[6]? = some o6) (k6 : o6.op = .buildSlice 129 1 #[(0, .tmp 19)]) (g6 : o6.guard = none) (f6_5 : (o6.after.any fun e => e.on == 5 && Region.binds .any e) = true)
    {o7 : Oper} (e7 : ops[7]? = some o7) (k7 : o7.op = .call { callee := .builtin .append, args := #[.tmp 14, .tmp 20], argTypes := #[129, 129] }) (g7 : o7.guard = none) (f7_0 : (o7.after.any fun e => e.on == 0 && Region.binds .any e) = true) (f7_6 : (o7.after.any fun e => e.on == 6 && Region.binds .any e) = true)
    {o8 : Oper} (e8 : ops[8]? = some o8) (k8 : o8.op = .store 129 (.tmp 7) (.tmp 21)) (g8 : o8.guard = none) (f8_7 : (o8.after.any fun e => e.on == 7 && Region.binds .any e) = true)
    (s4 : slot a0 4 = .pointer (some ⟨B4, 0, none⟩)) (s7 : slot a0 7 = .pointer (some ⟨Bp, 0, none⟩)) (s8 : slot a0 8 = .pointer (some ⟨Bx, 0, none⟩))
    (hc8 : ∀ W, Below w0.heap.size w0 W → W.cell? ⟨Bx, 0, none⟩ = some (.slice vp vn vc) ∧ W.cell? ⟨Bx, 1, none⟩ = some (.slice up un uc))
    (hc7 : ∀ W, Below w0.heap.size w0 W → W.cell? ⟨Bp, 0, none⟩ = some (.slice sp sn sc)) (hc4 : ∀ W, Below w0.heap.size w0 W → W.cell? ⟨B4, 0, none⟩ = some (.func (.func g) #[] #[]))
    (he : ∀ args w, (callFunc g args).run Tryz.prog w = .ok (.enter g args) w)
    (HK : ∀ W, Below w0.heap.size w0 W → Calls Tryz.prog g #[.agg #[.slice vp vn vc, .slice up un uc]] W fun e w' => e = .returned (.slice vp vn vc) ∧ Below W.heap.size W w')
    (tail : ∀ W b (ty : TypeId), Below w0.heap.size w0 W → W.heap[b]? = some (.cells #[.slice vp vn vc, .slice vp vn vc, .slice up un uc] 131 (0, 0)) → ∃ p' n' c' w', ((Builtin.append_ #[129, 129] ty #[.slice sp sn sc, .slice (some ⟨b, 0, none⟩) 1 1]).run Tryz.prog W = .ok (.slice p' n' c') w') ∧ (∃ u, w'.cell? ⟨Bp, 0, none⟩ = some u) ∧ w'.frozen? ⟨Bp, 0, none⟩ = false ∧ ∀ a, Q .normal a (w'.setCell ⟨Bp, 0, none⟩ (.slice p' n' c'))) :
    (Code.region id ops true).wpIn (Fence.wide.inRound l) n Tryz.prog Q a0 w0 := by
  have d0 : o0.dst = some 14 := by
    have h := congrArg (fun x => x[0]?) dl
    simp only [List.getElem?_map, Array.getElem?_toList, e0, Option.map_some, List.getElem?_cons_zero] at h
    exact Option.some.inj h
  have d1 : o1.dst = some 15 := by
    have h := congrArg (fun x => x[1]?) dl
    simp only [List.getElem?_map, Array.getElem?_toList, e1, Option.map_some, List.getElem?_cons_zero, List.getElem?_cons_succ] at h
    exact Option.some.inj h
  have d2 : o2.dst = some 16 := by
    have h := congrArg (fun x => x[2]?) dl
    simp only [List.getElem?_map, Array.getElem?_toList, e2, Option.map_some, List.getElem?_cons_zero, List.getElem?_cons_succ] at h
    exact Option.some.inj h
  have d3 : o3.dst = some 17 := by
    have h := congrArg (fun x => x[3]?) dl
    simp only [List.getElem?_map, Array.getElem?_toList, e3, Option.map_some, List.getElem?_cons_zero, List.getElem?_cons_succ] at h
    exact Option.some.inj h
  have d4 : o4.dst = some 18 := by
    have h := congrArg (fun x => x[4]?) dl
    simp only [List.getElem?_map, Array.getElem?_toList, e4, Option.map_some, List.getElem?_cons_zero, List.getElem?_cons_succ] at h
    exact Option.some.inj h
  have d5 : o5.dst = some 19 := by
    have h := congrArg (fun x => x[5]?) dl
    simp only [List.getElem?_map, Array.getElem?_toList, e5, Option.map_some, List.getElem?_cons_zero, List.getElem?_cons_succ] at h
    exact Option.some.inj h
  have d6 : o6.dst = some 20 := by
    have h := congrArg (fun x => x[6]?) dl
    simp only [List.getElem?_map, Array.getElem?_toList, e6, Option.map_some, List.getElem?_cons_zero, List.getElem?_cons_succ] at h
    exact Option.some.inj h
  have d7 : o7.dst = some 21 := by
    have h := congrArg (fun x => x[7]?) dl
    simp only [List.getElem?_map, Array.getElem?_toList, e7, Option.map_some, List.getElem?_cons_zero, List.getElem?_cons_succ] at h
    exact Option.some.inj h
  have d8 : o8.dst = none := by
    have h := congrArg (fun x => x[8]?) dl
    simp only [List.getElem?_map, Array.getElem?_toList, e8, Option.map_some, List.getElem?_cons_zero, List.getElem?_cons_succ] at h
    exact Option.some.inj h
  have ap : ∀ (i j : Nat) (x y : Oper) (t : Nat), ops[i]? = some x → ops[j]? = some y → x.dst = some t → y.dst = some t → i = j := apart_ofS dl (by decide)
  have old : ∀ t, [some 14, some 15, some 16, some 17, some 18, some 19, some 20, some 21, none].contains (some t) = false → ∀ {listed : Array Bool} {a : Act} {w : World}, Held ops a0 w0 (pairT sp sn sc g vp vn vc up un uc) listed a w → slot a t = slot a0 t := by
    intro t ht listed a w H
    refine H.old t fun i o hi hd => ?_
    exfalso
    have h1 : (ops.toList.map (·.dst))[i]? = some (some t) := by rw [List.getElem?_map, Array.getElem?_toList, hi]; simp [hd]
    rw [dl] at h1
    have h2 := List.mem_of_getElem? h1
    rw [← List.elem_iff] at h2
    rw [show List.elem (some t) _ = List.contains _ (some t) from rfl, ht] at h2
    cases h2
  refine wpIn_region_any (by kernel_rfl) (wpAnyIn_head (n1 := 7) (by omega) (fun listed a w => Held ops a0 w0 (pairT sp sn sc g vp vn vc up un uc) listed a w ∧ (∀ i, 7 ≤ i → listed.getD i false = false) ∧ CL ops listed) (fun listed a w h => ⟨h.1.size, h.2.1⟩) ?late dag ?_ ?_ _ _ _ _ ?_ ?_)
  case late =>
    intro listed a w i h hm hi j hj
    have hlt := (mem_ready hm).1
    rw [size] at hlt
    rcases (by omega : i = 7 ∨ i = 8) with rfl | rfl
    · have l0 := ready_onS hm e7 f7_0
      have l6 := ready_onS hm e7 f7_6
      have l5 := h.2.2.on e6 f6_5 l6
      have l3 := h.2.2.on e5 f5_3 l5
      have l4 := h.2.2.on e5 f5_4 l5
      have l1 := h.2.2.on e3 f3_1 l3
      have l2 := h.2.2.on e3 f3_2 l3
      rcases (by omega : j = 0 ∨ j = 1 ∨ j = 2 ∨ j = 3 ∨ j = 4 ∨ j = 5 ∨ j = 6) with rfl | rfl | rfl | rfl | rfl | rfl | rfl <;> assumption
    · have l7 := ready_onS hm e8 f8_7
      rw [h.2.1 7 (by omega)] at l7
      cases l7
  · intro listed a w i ⟨H, hl, hcl⟩ hm hi
    have hput : ∀ {o : Oper} {d : Nat} {v : Value} {w' : World}, i < 7 → ops[i]? = some o → o.dst = some d → d < 42 → Below w.heap.size w w' → pairT sp sn sc g vp vn vc up un uc i v w' → Held ops a0 w0 (pairT sp sn sc g vp vn vc up un uc) (listed.setIfInBounds i true) (putS a d v) w' ∧ (∀ j, 7 ≤ j → (listed.setIfInBounds i true).getD j false = false) ∧ CL ops (listed.setIfInBounds i true) :=
      fun {o d v w'} hj ho hd hsz hb hv => ⟨H.put pairT_stays ap ho hd (by omega) hb hv, fun j hj => by
        rw [Array.getD_eq_getD_getElem?, Array.getElem?_setIfInBounds, if_neg (by omega), ← Array.getD_eq_getD_getElem?]
        exact hl j hj, hcl.set hm⟩
    have got : ∀ {j : Nat} {x : Oper} {t : Nat} {o : Oper}, ops[i]? = some o → (o.after.any fun e => e.on == j && Region.binds .any e) = true → ops[j]? = some x → x.dst = some t → pairT sp sn sc g vp vn vc up un uc j (slot a t) w := fun {j x t o} ho ha hj hx => H.got j x t hj hx (ready_onS hm ho ha)
    rcases (by omega : i = 0 ∨ i = 1 ∨ i = 2 ∨ i = 3 ∨ i = 4 ∨ i = 5 ∨ i = 6) with rfl | rfl | rfl | rfl | rfl | rfl | rfl
    · exact wpOpIn_of e0 g0 (oi_loadS k0 d0 ((old 7 (by decide) H).trans s7) (hc7 w H.below) (hput (by omega) e0 d0 (by omega) (Below.refl _ _) rfl))
    · exact wpOpIn_of e1 g1 (oi_loadF k1 d1 ((old 4 (by decide) H).trans s4) (hc4 w H.below) (hput (by omega) e1 d1 (by omega) (Below.refl _ _) rfl))
    · exact wpOpIn_of e2 g2 (oi_loadC k2 d2 ((old 8 (by decide) H).trans s8) (hc8 w H.below) (hput (by omega) e2 d2 (by omega) (Below.refl _ _) rfl))
    · exact wpOpIn_of e3 g3 (oi_call k3 d3 (got e3 f3_1 e1 d1) (got e3 f3_2 e2 d2) he ((HK w H.below).mono fun e w' h => ⟨_, h.1, hput (by omega) e3 d3 (by omega) h.2 rfl⟩))
    · exact wpOpIn_of e4 g4 (oi_loadC k4 d4 ((old 8 (by decide) H).trans s8) (hc8 w H.below) (hput (by omega) e4 d4 (by omega) (Below.refl _ _) rfl))
    · exact wpOpIn_of e5 g5 (oi_build k5 d5 (got e5 f5_3 e3 d3) (got e5 f5_4 e4 d4) (hput (by omega) e5 d5 (by omega) (Below.refl _ _) rfl))
    · exact wpOpIn_of e6 g6 (oi_slice k6 d6 (got e6 f6_5 e5 d5) (hput (by omega) e6 d6 (by omega) ((Below.refl _ _).alloc (Nat.le_refl _) _) ⟨_, rfl, heap_alloc_new _ _⟩))
  · rintro fuel a w ⟨H, -⟩ hf
    rw [size] at H hf ⊢
    have h14 : slot a 14 = .slice sp sn sc := H.got 0 o0 14 e0 d0 (by decide)
    obtain ⟨b, h20, hb20⟩ : ∃ b, slot a 20 = .slice (some ⟨b, 0, none⟩) 1 1 ∧ w.heap[b]? = some (.cells #[.slice vp vn vc, .slice vp vn vc, .slice up un uc] 131 (0, 0)) := H.got 6 o6 20 e6 d6 (by decide)
    have h7 : slot a 7 = .pointer (some ⟨Bp, 0, none⟩) := (old 7 (by decide) H).trans s7
    obtain ⟨p', n', c', w', hrun, ⟨u, hu⟩, hz, hq⟩ := tail w b o7.type H.below hb20
    obtain ⟨fu, rfl⟩ : ∃ fu, fuel = fu + 2 := ⟨fuel - 2, by omega⟩
    refine wpAnyIn_ready rd7 (by simp) (AllReadyIn.cons e7 (fun K hK => ?_) AllReadyIn.nil)
    have hfr : a.tmps.size = 42 := H.frame.trans hn
    have hgo : ∀ (a' : Act) (w'' : World), wpAnyIn (Fence.wide.inRound l) n Tryz.prog .any ops Q (fu + 1) ((firsts 9 7).setIfInBounds 7 true) a' w'' → K a' w'' := hK
    have hx : Region.wanted o7 (yielded ops a.tmps) = true := by simp [Region.wanted, g7]
    rw [if_pos hx]
    refine ⟨by simp [Oper.about, k7, resolve, Target.leads, Sem.run_pure], ?_⟩
    rw [Oper.semAt_plain (Fence.wide.inRound l) _ _ (by rw [k7]; intro c hc'; cases hc')]
    have e14 : a.eval (.tmp 14) = .slice sp sn sc := by rw [← h14]; simp [Act.eval, slot]
    have e20 : a.eval (.tmp 20) = .slice (some ⟨b, 0, none⟩) 1 1 := by rw [← h20]; simp [Act.eval, slot]
    simp [execOp, k7, resolve, invoke, builtin, e14, e20, hrun, Result.andThen]
    refine hgo _ _ (wpAnyIn_ready rd8 (by simp) (AllReadyIn.cons e8 (fun K2 hK2 => ?_) AllReadyIn.nil))
    have hx8 : Region.wanted o8 (yielded ops (a.put o7.dst (.slice p' n' c')).tmps) = true := by simp [Region.wanted, g8]
    rw [if_pos hx8, d7]
    have e7' : slot (putS a 21 (.slice p' n' c')) 7 = .pointer (some ⟨Bp, 0, none⟩) := by
      show (a.tmps.setIfInBounds 21 _)[7]?.getD undef = _
      rw [Array.getElem?_setIfInBounds, if_neg (by omega)]
      exact h7
    have e21 : slot (putS a 21 (.slice p' n' c')) 21 = .slice p' n' c' := by
      show (a.tmps.setIfInBounds 21 _)[21]?.getD undef = _
      rw [Array.getElem?_setIfInBounds, if_pos rfl, if_pos (by omega)]
      rfl
    exact oi_store k8 d8 e7' e21 hu hz (hK2 _ _ (wpAnyIn_done rd9 (hq _) fu))
  · unfold leftOf
    simp
  · have hf : ∀ j, (Array.replicate ops.size false).getD j false = false := by
      intro j
      rw [Array.getD_eq_getD_getElem?, Array.getElem?_replicate]
      split <;> rfl
    exact ⟨⟨by simp, rfl, rfl, Below.drew (Below.refl _ _), fun _ _ => rfl, fun i o t _ _ hl => by rw [hf] at hl; cases hl⟩, fun i _ => hf i, fun j oj _ hl => by rw [hf] at hl; cases hl⟩
end RC
end Go.Proofs.YtogmbehomilalaaGreatDoor

/- A region in a round whose order is open, by what is known of each operation's slot. -/
import Derived.Test.YtogmbehomilalaaGreatDoorZRegInv
import Derived.Test.YtogmbehomilalaaGreatDoorZSplit
import Derived.Test.YtogmbehomilalaaGreatDoorZBldK
import Derived.Test.YtogmbehomilalaaGreatDoorZCmpS
import Derived.Test.YtogmbehomilalaaGreatDoorShelf
import Derived.Test.YtogmbehomilalaaGreatDoorSort

/- A region in a round whose order is open, by what is known of each operation's slot. -/
section
namespace Go.Proofs.YtogmbehomilalaaGreatDoor
open Go Go.RowKit Go.Deep Go.Shelf
namespace RW
attribute [local go_sem] Oper.semAt_some
section
variable {ops : Array Oper} {Q : Exit → Act → World → Prop}
theorem apart_ofS {l : List (Option Nat)} (h : ops.toList.map (·.dst) = l) (hn : (List.range l.length).all (fun i => (List.range l.length).all fun j => i == j || l[i]? != l[j]? || l[i]? == some none) = true) :
    ∀ (i j : Nat) (x y : Oper) (t : Nat), ops[i]? = some x → ops[j]? = some y → x.dst = some t → y.dst = some t → i = j := by
  intro i j x y t hi hj hx hy
  have li : l[i]? = some (some t) := by rw [← h, List.getElem?_map, Array.getElem?_toList, hi]; simp [hx]
  have lj : l[j]? = some (some t) := by rw [← h, List.getElem?_map, Array.getElem?_toList, hj]; simp [hy]
  have a1 := List.all_eq_true.1 hn i (List.mem_range.2 (List.getElem?_eq_some_iff.1 li).1)
  have a2 := List.all_eq_true.1 a1 j (List.mem_range.2 (List.getElem?_eq_some_iff.1 lj).1)
  rw [li, lj] at a2
  simpa using a2

theorem wpAnyIn_head {F : Fence} {n : Nat} {P : Program} {n1 : Nat} (hn1 : n1 ≤ ops.size) (Inv : Array Bool → Act → World → Prop)
    (form : ∀ listed a w, Inv listed a w → listed.size = ops.size ∧ ∀ i, n1 ≤ i → listed.getD i false = false)
    (late : ∀ listed a w i, Inv listed a w → i ∈ Region.ready .any ops listed → n1 ≤ i → ∀ j, j < n1 → listed.getD j false = true)
    (dag : ∀ (i : Nat) (o : Oper), ops[i]? = some o → ∀ e : Edge, e ∈ o.after → e.on < i)
    (step : ∀ listed a w i, Inv listed a w → i ∈ Region.ready .any ops listed → i < n1 → wpOpIn F n P ops Q i (Inv (listed.setIfInBounds i true)) a w)
    (tail : ∀ fuel a w, Inv (firsts ops.size n1) a w → ops.size - n1 ≤ fuel → wpAnyIn F n P .any ops Q fuel (firsts ops.size n1) a w) :
    ∀ (fuel : Nat) (listed : Array Bool) (a : Act) (w : World), leftOf listed ≤ fuel → Inv listed a w → wpAnyIn F n P .any ops Q fuel listed a w := by
  intro fuel
  induction fuel with
  | zero =>
    intro listed a w hf hi
    obtain ⟨hs, hl⟩ := form listed a w hi
    by_cases hall : ∀ j, j < n1 → listed.getD j false = true
    · have e := eq_firsts hn1 hs hall hl
      subst e
      exact tail 0 a w hi (by have := leftOf_firsts ops.size n1 hn1; omega)
    · exfalso
      obtain ⟨j, hj⟩ := Classical.not_forall.1 hall
      obtain ⟨hj1, hj2⟩ := Classical.not_imp.1 hj
      have := leftOf_set listed j (by rw [Array.getD, dif_pos (by omega)] at hj2 ⊢; simpa using hj2)
      omega
  | succ fuel ih =>
    intro listed a w hf hi
    obtain ⟨hs, hl⟩ := form listed a w hi
    by_cases hall : ∀ j, j < n1 → listed.getD j false = true
    · have e := eq_firsts hn1 hs hall hl
      subst e
      exact tail (fuel + 1) a w hi (by have := leftOf_firsts ops.size n1 hn1; omega)
    · obtain ⟨j, hj⟩ := Classical.not_forall.1 hall
      obtain ⟨hj1, hj2⟩ := Classical.not_imp.1 hj
      have hj3 : listed.getD j false = false := by simpa using hj2
      refine ⟨fun hr => ?_, fun i hm => ?_⟩
      · obtain ⟨i, _, hi2⟩ := least_ready dag hs (by omega) hj3
        rw [hr] at hi2
        cases hi2
      · have hr := mem_ready hm
        have hin : i < n1 := by
          by_cases hin : i < n1
          · exact hin
          · exfalso
            have := late listed a w i hi hm (by omega) j hj1
            rw [hj3] at this
            cases this
        exact wpOpIn_mono (fun a' w' h' => ih _ a' w' (by have := leftOf_set listed i hr.2.1; omega) h') (step listed a w i hi hm hin)

abbrev putS (a : Act) (d : Nat) (v : Value) : Act := { tmps := a.tmps.setIfInBounds d v, defers := a.defers }
theorem wpOpIn_of {F : Fence} {n : Nat} {P : Program} {K : Act → World → Prop} {a : Act} {w : World} {i : Nat} {o : Oper} (ho : ops[i]? = some o) (hg : o.guard = none) (h : o.wpIn F n P a w K Q) : wpOpIn F n P ops Q i K a w := by
  unfold wpOpIn
  rw [ho]
  have hw : Region.wanted o (yielded ops a.tmps) = true := by simp [Region.wanted, hg]
  simp only [hw, if_true]
  exact h
variable {l n : Nat} {K : Act → World → Prop} {a : Act} {w : World}
theorem oi_move {o : Oper} {d t : Nat} {v : Value} (ho : o.op = .move (.tmp t)) (hd : o.dst = some d) (hs : slot a t = v) (h : K (putS a d v) w) : o.wpIn (Fence.wide.inRound l) n Tryz.prog a w K Q := by
  obtain ⟨op, dst, ty, pos, after, guard⟩ := o
  dsimp only at ho hd
  subst ho hd
  have hs' : a.tmps[t]?.getD undef = v := hs
  unfold Oper.wpIn
  go_simp
  exact h
theorem oi_loadS {o : Oper} {d t b : Nat} {p : Option Addr} {m c : Nat} (ho : o.op = .load 141 (.tmp t)) (hd : o.dst = some d) (hs : slot a t = .pointer (some ⟨b, 0, none⟩)) (hc : w.cell? ⟨b, 0, none⟩ = some (.slice p m c)) (h : K (putS a d (.slice p m c)) w) : o.wpIn (Fence.wide.inRound l) n Tryz.prog a w K Q := by
  obtain ⟨op, dst, ty, pos, after, guard⟩ := o
  dsimp only at ho hd
  subst ho hd
  have hs' : a.tmps[t]?.getD undef = .pointer (some ⟨b, 0, none⟩) := hs
  unfold Oper.wpIn
  go_simp
  exact h
theorem oi_loadF {o : Oper} {d t b g : Nat} {x y : Array Value} (ho : o.op = .load 95 (.tmp t)) (hd : o.dst = some d) (hs : slot a t = .pointer (some ⟨b, 0, none⟩)) (hc : w.cell? ⟨b, 0, none⟩ = some (.func (.func g) x y)) (h : K (putS a d (.func (.func g) x y)) w) : o.wpIn (Fence.wide.inRound l) n Tryz.prog a w K Q := by
  obtain ⟨op, dst, ty, pos, after, guard⟩ := o
  dsimp only at ho hd
  subst ho hd
  have hs' : a.tmps[t]?.getD undef = .pointer (some ⟨b, 0, none⟩) := hs
  unfold Oper.wpIn
  go_simp
  exact h
theorem oi_call {o : Oper} {d f t g : Nat} {fr s : Value} {tys : Array TypeId} (ho : o.op = .call { callee := .value (.tmp f), args := #[.tmp t], argTypes := tys }) (hd : o.dst = some d) (hf : slot a f = .func (.func g) #[fr] #[]) (hs : slot a t = s)
    (he : ∀ args w, (callFunc g args).run Tryz.prog w = .ok (.enter g args) w) (h : Calls Tryz.prog g #[fr, s] w fun e w' => ∃ v, e = .returned v ∧ K (putS a d v) w') : o.wpIn (Fence.wide.inRound l) n Tryz.prog a w K Q := by
  obtain ⟨op, dst, ty, pos, after, guard⟩ := o
  dsimp only at ho hd
  subst ho hd
  have hf' : a.tmps[f]?.getD undef = .func (.func g) #[fr] #[] := hf
  have hs' : a.tmps[t]?.getD undef = s := hs
  have he' := he #[fr, s] w
  unfold Oper.wpIn
  go_simp
  refine ⟨trivial, fun h => (by cases h), (CallsIn.inRound l (callsIn_wide.2 h)).mono ?_⟩
  rintro e w' ⟨v, rfl, hk⟩
  exact hk
theorem oi_build {o : Oper} {d t t' : Nat} {x : Int} {p : Option Addr} {m c : Nat} (ho : o.op = .build 143 #[(0, .tmp t), (1, .tmp t')]) (hd : o.dst = some d) (hs : slot a t = .int .i64 x) (hs2 : slot a t' = .slice p m c) (h : K (putS a d (.agg #[.int .i64 x, .slice p m c])) w) : o.wpIn (Fence.wide.inRound l) n Tryz.prog a w K Q := by
  obtain ⟨op, dst, ty, pos, after, guard⟩ := o
  dsimp only at ho hd
  subst ho hd
  have hs' : a.tmps[t]?.getD undef = .int .i64 x := hs
  have hs2' : a.tmps[t']?.getD undef = .slice p m c := hs2
  unfold Oper.wpIn
  go_simp
  exact h
theorem oi_slice {o : Oper} {d t : Nat} {x : Int} {p : Option Addr} {m c : Nat} (ho : o.op = .buildSlice 141 1 #[(0, .tmp t)]) (hd : o.dst = some d) (hs : slot a t = .agg #[.int .i64 x, .slice p m c]) (h : K (putS a d (.slice (some ⟨w.heap.size, 0, none⟩) 1 1)) (w.alloc (.cells #[.int .i64 x, .slice p m c] 143))) : o.wpIn (Fence.wide.inRound l) n Tryz.prog a w K Q := by
  obtain ⟨op, dst, ty, pos, after, guard⟩ := o
  dsimp only at ho hd
  subst ho hd
  have hs' : a.tmps[t]?.getD undef = .agg #[.int .i64 x, .slice p m c] := hs
  unfold Oper.wpIn
  go_simp
  exact h
theorem oi_store {o : Oper} {t t' b : Nat} {p : Option Addr} {m c : Nat} {u : Value} (ho : o.op = .store 141 (.tmp t) (.tmp t')) (hd : o.dst = none) (hs : slot a t = .pointer (some ⟨b, 0, none⟩)) (hs2 : slot a t' = .slice p m c) (hu : w.cell? ⟨b, 0, none⟩ = some u) (hz : w.frozen? ⟨b, 0, none⟩ = false) (h : K a (w.setCell ⟨b, 0, none⟩ (.slice p m c))) : o.wpIn (Fence.wide.inRound l) n Tryz.prog a w K Q := by
  obtain ⟨op, dst, ty, pos, after, guard⟩ := o
  dsimp only at ho hd
  subst ho hd
  have hs' : a.tmps[t]?.getD undef = .pointer (some ⟨b, 0, none⟩) := hs
  have hs2' : a.tmps[t']?.getD undef = .slice p m c := hs2
  unfold Oper.wpIn
  go_simp
  exact h
end

/-- What the region's operations leave. -/
def pairT (sp : Option Addr) (sn sc : Nat) (g : Nat) (fr : Value) (vp : Option Addr) (vn vc : Nat) (ky : Int) : Nat → Value → World → Prop
  | 0 => fun v _ => v = .slice sp sn sc
  | 1 => fun v _ => v = .func (.func g) #[fr] #[]
  | 2 => fun v _ => v = .slice vp vn vc
  | 3 => fun v _ => v = .int .i64 ky
  | 4 => fun v _ => v = .slice vp vn vc
  | 5 => fun v _ => v = .agg #[.int .i64 ky, .slice vp vn vc]
  | 6 => fun v W => ∃ b, v = .slice (some ⟨b, 0, none⟩) 1 1 ∧ W.heap[b]? = some (.cells #[.int .i64 ky, .slice vp vn vc] 143 (0, 0))
  | _ => fun _ _ => True
theorem pairT_stays {sp : Option Addr} {sn sc g : Nat} {fr : Value} {vp : Option Addr} {vn vc : Nat} {ky : Int} : ∀ i v x y, pairT sp sn sc g fr vp vn vc ky i v x → Below x.heap.size x y → pairT sp sn sc g fr vp vn vc ky i v y := by
  intro i v x y h hb
  match i with
  | 0 => exact h
  | 1 => exact h
  | 2 => exact h
  | 3 => exact h
  | 4 => exact h
  | 5 => exact h
  | 6 =>
    obtain ⟨b, h1, h2⟩ := h
    exact ⟨b, h1, (hb.block b (Array.getElem?_eq_some_iff.1 h2).1).trans h2⟩
  | i + 7 => trivial
set_option maxRecDepth 100000 in
set_option maxHeartbeats 4000000 in
theorem r_pairs {ops : Array Oper} {Q : Exit → Act → World → Prop} {id l n : Nat} {a0 : Act} {w0 : World} {sp : Option Addr} {sn sc g : Nat} {fr : Value} {vp : Option Addr} {vn vc : Nat} {ky : Int} {B4 Bp : Nat} (size : ops.size = 9) (hn : a0.tmps.size = 42)
    (dl : ops.toList.map (·.dst) = [some 14, some 15, some 16, some 17, some 18, some 19, some 20, some 21, none]) (dag : ∀ (i : Nat) (o : Oper), ops[i]? = some o → ∀ e : Edge, e ∈ o.after → e.on < i)
    (rd7 : Region.ready .any ops (firsts 9 7) = [7]) (rd8 : Region.ready .any ops ((firsts 9 7).setIfInBounds 7 true) = [8]) (rd9 : Region.ready .any ops (((firsts 9 7).setIfInBounds 7 true).setIfInBounds 8 true) = [])
    {o0 : Oper} (e0 : ops[0]? = some o0) (k0 : o0.op = .load 141 (.tmp 7)) (g0 : o0.guard = none)
    {o1 : Oper} (e1 : ops[1]? = some o1) (k1 : o1.op = .load 95 (.tmp 4)) (g1 : o1.guard = none)
    {o2 : Oper} (e2 : ops[2]? = some o2) (k2 : o2.op = .move (.tmp 8)) (g2 : o2.guard = none)
    {o3 : Oper} (e3 : ops[3]? = some o3) (k3 : o3.op = .call { callee := .value (.tmp 15), args := #[.tmp 16], argTypes := #[35] }) (g3 : o3.guard = none) (f3_1 : (o3.after.any fun e => e.on == 1 && Region.binds .any e) = true) (f3_2 : (o3.after.any fun e => e.on == 2 && Region.binds .any e) = true)
    {o4 : Oper} (e4 : ops[4]? = some o4) (k4 : o4.op = .move (.tmp 8)) (g4 : o4.guard = none)
    {o5 : Oper} (e5 : ops[5]? = some o5) (k5 : o5.op = .build 143 #[(0, .tmp 17), (1, .tmp 18)]) (g5 : o5.guard = none) (f5_3 : (o5.after.any fun e => e.on == 3 && Region.binds .any e) = true) (f5_4 : (o5.after.any fun e => e.on == 4 && Region.binds .any e) = true)
    {o6 : Oper} (e6 : ops[6]? = some o6) (k6 : o6.op = .buildSlice 141 1 #[(0, .tmp 19)]) (g6 : o6.guard = none) (f6_5 : (o6.after.any fun e => e.on == 5 && Region.binds .any e) = true)
    {o7 : Oper} (e7 : ops[7]? = some o7) (k7 : o7.op = .call { callee := .builtin .append, args := #[.tmp 14, .tmp 20], argTypes := #[141, 141] }) (g7 : o7.guard = none) (f7_0 : (o7.after.any fun e => e.on == 0 && Region.binds .any e) = true) (f7_6 : (o7.after.any fun e => e.on == 6 && Region.binds .any e) = true)
    {o8 : Oper} (e8 : ops[8]? = some o8) (k8 : o8.op = .store 141 (.tmp 7) (.tmp 21)) (g8 : o8.guard = none) (f8_7 : (o8.after.any fun e => e.on == 7 && Region.binds .any e) = true)
    (s4 : slot a0 4 = .pointer (some ⟨B4, 0, none⟩)) (s7 : slot a0 7 = .pointer (some ⟨Bp, 0, none⟩)) (s8 : slot a0 8 = .slice vp vn vc)
    (hc7 : ∀ W, Below w0.heap.size w0 W → W.cell? ⟨Bp, 0, none⟩ = some (.slice sp sn sc)) (hc4 : ∀ W, Below w0.heap.size w0 W → W.cell? ⟨B4, 0, none⟩ = some (.func (.func g) #[fr] #[]))
    (he : ∀ args w, (callFunc g args).run Tryz.prog w = .ok (.enter g args) w)
    (HK : ∀ W, Below w0.heap.size w0 W → Calls Tryz.prog g #[fr, .slice vp vn vc] W fun e w' => e = .returned (.int .i64 ky) ∧ Below W.heap.size W w')
    (tail : ∀ W b (ty : TypeId), Below w0.heap.size w0 W → W.heap[b]? = some (.cells #[.int .i64 ky, .slice vp vn vc] 143 (0, 0)) → ∃ p' n' c' w', ((Builtin.append_ #[141, 141] ty #[.slice sp sn sc, .slice (some ⟨b, 0, none⟩) 1 1]).run Tryz.prog W = .ok (.slice p' n' c') w') ∧ (∃ u, w'.cell? ⟨Bp, 0, none⟩ = some u) ∧ w'.frozen? ⟨Bp, 0, none⟩ = false ∧ ∀ a, Q .normal a (w'.setCell ⟨Bp, 0, none⟩ (.slice p' n' c'))) :
    (Code.region id ops true).wpIn (Fence.wide.inRound l) n Tryz.prog Q a0 w0 := by
  have d0 : o0.dst = some 14 := by
    have h := congrArg (fun x => x[0]?) dl
    simp only [List.getElem?_map, Array.getElem?_toList, e0, Option.map_some, List.getElem?_cons_zero] at h
    exact Option.some.inj h
  have d1 : o1.dst = some 15 := by
    have h := congrArg (fun x => x[1]?) dl
    simp only [List.getElem?_map, Array.getElem?_toList, e1, Option.map_some, List.getElem?_cons_zero, List.getElem?_cons_succ] at h
    exact Option.some.inj h
  have d2 : o2.dst = some 16 := by
    have h := congrArg (fun x => x[2]?) dl
    simp only [List.getElem?_map, Array.getElem?_toList, e2, Option.map_some, List.getElem?_cons_zero, List.getElem?_cons_succ] at h
    exact Option.some.inj h
  have d3 : o3.dst = some 17 := by
    have h := congrArg (fun x => x[3]?) dl
    simp only [List.getElem?_map, Array.getElem?_toList, e3, Option.map_some, List.getElem?_cons_zero, List.getElem?_cons_succ] at h
    exact Option.some.inj h
  have d4 : o4.dst = some 18 := by
    have h := congrArg (fun x => x[4]?) dl
    simp only [List.getElem?_map, Array.getElem?_toList, e4, Option.map_some, List.getElem?_cons_zero, List.getElem?_cons_succ] at h
    exact Option.some.inj h
  have d5 : o5.dst = some 19 := by
    have h := congrArg (fun x => x[5]?) dl
    simp only [List.getElem?_map, Array.getElem?_toList, e5, Option.map_some, List.getElem?_cons_zero, List.getElem?_cons_succ] at h
    exact Option.some.inj h
  have d6 : o6.dst = some 20 := by
    have h := congrArg (fun x => x[6]?) dl
    simp only [List.getElem?_map, Array.getElem?_toList, e6, Option.map_some, List.getElem?_cons_zero, List.getElem?_cons_succ] at h
    exact Option.some.inj h
  have d7 : o7.dst = some 21 := by
    have h := congrArg (fun x => x[7]?) dl
    simp only [List.getElem?_map, Array.getElem?_toList, e7, Option.map_some, List.getElem?_cons_zero, List.getElem?_cons_succ] at h
    exact Option.some.inj h
  have d8 : o8.dst = none := by
    have h := congrArg (fun x => x[8]?) dl
    simp only [List.getElem?_map, Array.getElem?_toList, e8, Option.map_some, List.getElem?_cons_zero, List.getElem?_cons_succ] at h
    exact Option.some.inj h
  have ap : ∀ (i j : Nat) (x y : Oper) (t : Nat), ops[i]? = some x → ops[j]? = some y → x.dst = some t → y.dst = some t → i = j := apart_ofS dl (by decide)
  have old : ∀ t, [some 14, some 15, some 16, some 17, some 18, some 19, some 20, some 21, none].contains (some t) = false → ∀ {listed : Array Bool} {a : Act} {w : World}, Held ops a0 w0 (pairT sp sn sc g fr vp vn vc ky) listed a w → slot a t = slot a0 t := by
    intro t ht listed a w H
    refine H.old t fun i o hi hd => ?_
    exfalso
    have h1 : (ops.toList.map (·.dst))[i]? = some (some t) := by rw [List.getElem?_map, Array.getElem?_toList, hi]; simp [hd]
    rw [dl] at h1
    have h2 := List.mem_of_getElem? h1
    rw [← List.elem_iff] at h2
    rw [show List.elem (some t) _ = List.contains _ (some t) from rfl, ht] at h2
    cases h2
  refine wpIn_region_any (by kernel_rfl) (wpAnyIn_head (n1 := 7) (by omega) (fun listed a w => Held ops a0 w0 (pairT sp sn sc g fr vp vn vc ky) listed a w ∧ (∀ i, 7 ≤ i → listed.getD i false = false) ∧ CL ops listed) (fun listed a w h => ⟨h.1.size, h.2.1⟩) ?late dag ?_ ?_ _ _ _ _ ?_ ?_)
  case late =>
    intro listed a w i h hm hi j hj
    have hlt := (mem_ready hm).1
    rw [size] at hlt
    rcases (by omega : i = 7 ∨ i = 8) with rfl | rfl
    · have l0 := ready_onS hm e7 f7_0
      have l6 := ready_onS hm e7 f7_6
      have l5 := h.2.2.on e6 f6_5 l6
      have l3 := h.2.2.on e5 f5_3 l5
      have l4 := h.2.2.on e5 f5_4 l5
      have l1 := h.2.2.on e3 f3_1 l3
      have l2 := h.2.2.on e3 f3_2 l3
      rcases (by omega : j = 0 ∨ j = 1 ∨ j = 2 ∨ j = 3 ∨ j = 4 ∨ j = 5 ∨ j = 6) with rfl | rfl | rfl | rfl | rfl | rfl | rfl <;> assumption
    · have l7 := ready_onS hm e8 f8_7
      rw [h.2.1 7 (by omega)] at l7
      cases l7
  · intro listed a w i ⟨H, hl, hcl⟩ hm hi
    have hput : ∀ {o : Oper} {d : Nat} {v : Value} {w' : World}, i < 7 → ops[i]? = some o → o.dst = some d → d < 42 → Below w.heap.size w w' → pairT sp sn sc g fr vp vn vc ky i v w' → Held ops a0 w0 (pairT sp sn sc g fr vp vn vc ky) (listed.setIfInBounds i true) (putS a d v) w' ∧ (∀ j, 7 ≤ j → (listed.setIfInBounds i true).getD j false = false) ∧ CL ops (listed.setIfInBounds i true) :=
      fun {o d v w'} hj ho hd hsz hb hv => ⟨H.put pairT_stays ap ho hd (by omega) hb hv, fun j hj => by
        rw [Array.getD_eq_getD_getElem?, Array.getElem?_setIfInBounds, if_neg (by omega), ← Array.getD_eq_getD_getElem?]
        exact hl j hj, hcl.set hm⟩
    have got : ∀ {j : Nat} {x : Oper} {t : Nat} {o : Oper}, ops[i]? = some o → (o.after.any fun e => e.on == j && Region.binds .any e) = true → ops[j]? = some x → x.dst = some t → pairT sp sn sc g fr vp vn vc ky j (slot a t) w := fun {j x t o} ho ha hj hx => H.got j x t hj hx (ready_onS hm ho ha)
    rcases (by omega : i = 0 ∨ i = 1 ∨ i = 2 ∨ i = 3 ∨ i = 4 ∨ i = 5 ∨ i = 6) with rfl | rfl | rfl | rfl | rfl | rfl | rfl
    · exact wpOpIn_of e0 g0 (oi_loadS k0 d0 ((old 7 (by decide) H).trans s7) (hc7 w H.below) (hput (by omega) e0 d0 (by omega) (Below.refl _ _) rfl))
    · exact wpOpIn_of e1 g1 (oi_loadF k1 d1 ((old 4 (by decide) H).trans s4) (hc4 w H.below) (hput (by omega) e1 d1 (by omega) (Below.refl _ _) rfl))
    · exact wpOpIn_of e2 g2 (oi_move k2 d2 ((old 8 (by decide) H).trans s8) (hput (by omega) e2 d2 (by omega) (Below.refl _ _) rfl))
    · exact wpOpIn_of e3 g3 (oi_call k3 d3 (got e3 f3_1 e1 d1) (got e3 f3_2 e2 d2) he ((HK w H.below).mono fun e w' h => ⟨_, h.1, hput (by omega) e3 d3 (by omega) h.2 rfl⟩))
    · exact wpOpIn_of e4 g4 (oi_move k4 d4 ((old 8 (by decide) H).trans s8) (hput (by omega) e4 d4 (by omega) (Below.refl _ _) rfl))
    · exact wpOpIn_of e5 g5 (oi_build k5 d5 (got e5 f5_3 e3 d3) (got e5 f5_4 e4 d4) (hput (by omega) e5 d5 (by omega) (Below.refl _ _) rfl))
    · exact wpOpIn_of e6 g6 (oi_slice k6 d6 (got e6 f6_5 e5 d5) (hput (by omega) e6 d6 (by omega) ((Below.refl _ _).alloc (Nat.le_refl _) _) ⟨_, rfl, heap_alloc_new _ _⟩))
  · rintro fuel a w ⟨H, -⟩ hf
    rw [size] at H hf ⊢
    have h14 : slot a 14 = .slice sp sn sc := H.got 0 o0 14 e0 d0 (by decide)
    obtain ⟨b, h20, hb20⟩ : ∃ b, slot a 20 = .slice (some ⟨b, 0, none⟩) 1 1 ∧ w.heap[b]? = some (.cells #[.int .i64 ky, .slice vp vn vc] 143 (0, 0)) := H.got 6 o6 20 e6 d6 (by decide)
    have h7 : slot a 7 = .pointer (some ⟨Bp, 0, none⟩) := (old 7 (by decide) H).trans s7
    obtain ⟨p', n', c', w', hrun, ⟨u, hu⟩, hz, hq⟩ := tail w b o7.type H.below hb20
    obtain ⟨fu, rfl⟩ : ∃ fu, fuel = fu + 2 := ⟨fuel - 2, by omega⟩
    refine wpAnyIn_ready rd7 (by simp) (AllReadyIn.cons e7 (fun K hK => ?_) AllReadyIn.nil)
    have hfr : a.tmps.size = 42 := H.frame.trans hn
    have hgo : ∀ (a' : Act) (w'' : World), wpAnyIn (Fence.wide.inRound l) n Tryz.prog .any ops Q (fu + 1) ((firsts 9 7).setIfInBounds 7 true) a' w'' → K a' w'' := hK
    have hx : Region.wanted o7 (yielded ops a.tmps) = true := by simp [Region.wanted, g7]
    rw [if_pos hx]
    refine ⟨by simp [Oper.about, k7, resolve, Target.leads, Sem.run_pure], ?_⟩
    rw [Oper.semAt_plain (Fence.wide.inRound l) _ _ (by rw [k7]; intro c hc'; cases hc')]
    have e14 : a.eval (.tmp 14) = .slice sp sn sc := by rw [← h14]; simp [Act.eval, slot]
    have e20 : a.eval (.tmp 20) = .slice (some ⟨b, 0, none⟩) 1 1 := by rw [← h20]; simp [Act.eval, slot]
    simp [execOp, k7, resolve, invoke, builtin, e14, e20, hrun, Result.andThen]
    refine hgo _ _ (wpAnyIn_ready rd8 (by simp) (AllReadyIn.cons e8 (fun K2 hK2 => ?_) AllReadyIn.nil))
    have hx8 : Region.wanted o8 (yielded ops (a.put o7.dst (.slice p' n' c')).tmps) = true := by simp [Region.wanted, g8]
    rw [if_pos hx8, d7]
    have e7' : slot (putS a 21 (.slice p' n' c')) 7 = .pointer (some ⟨Bp, 0, none⟩) := by
      show (a.tmps.setIfInBounds 21 _)[7]?.getD undef = _
      rw [Array.getElem?_setIfInBounds, if_neg (by omega)]
      exact h7
    have e21 : slot (putS a 21 (.slice p' n' c')) 21 = .slice p' n' c' := by
      show (a.tmps.setIfInBounds 21 _)[21]?.getD undef = _
      rw [Array.getElem?_setIfInBounds, if_pos rfl, if_pos (by omega)]
      rfl
    exact oi_store k8 d8 e7' e21 hu hz (hK2 _ _ (wpAnyIn_done rd9 (hq _) fu))
  · unfold leftOf
    simp
  · have hf : ∀ j, (Array.replicate ops.size false).getD j false = false := by
      intro j
      rw [Array.getD_eq_getD_getElem?, Array.getElem?_replicate]
      split <;> rfl
    exact ⟨⟨by simp, rfl, rfl, Below.drew (Below.refl _ _), fun _ _ => rfl, fun i o t _ _ hl => by rw [hf] at hl; cases hl⟩, fun i _ => hf i, fun j oj _ hl => by rw [hf] at hl; cases hl⟩
end RW
end Go.Proofs.YtogmbehomilalaaGreatDoor
end

/- Pairs of keys and coordinates, sorted. -/
section
namespace Go.Proofs.YtogmbehomilalaaGreatDoor
open Go Go.RowKit Go.Deep Go.Shelf Go.Lib Go.Sort

theorem lt_key (x y : Int × Nat) : ltOf (fun x y : Int × Nat => Lib.compareInt x.1 y.1) x y = decide (x.1 < y.1) := by
  unfold ltOf Lib.compareInt
  by_cases h1 : x.1 < y.1
  · simp [h1]
  · by_cases h2 : y.1 < x.1 <;> simp [h1, h2]
theorem swo_key : SWO (ltOf fun x y : Int × Nat => Lib.compareInt x.1 y.1) where
  irrefl x := by rw [lt_key]; simp
  trans x y z h1 h2 := by rw [lt_key] at *; simp at *; omega
  ntrans x y z h1 h2 := by rw [lt_key] at *; simp at *; omega
/-- A pair's cells. -/
def encP (xs : Nat → Value) (p : Int × Nat) : List Value := [.int .i64 p.1, xs p.2]
theorem sw_grown (enc : Int × Nat → List Value) (k : Nat) (W : World) (blk off m : Nat) (dk : Array (Int × Nat)) (os : Array Obj) : W.grownBy (sortWorldK enc k W blk off m dk os) (some blk) := by
  refine ⟨rfl, rfl, rfl, ?_, fun j hj hne => ?_⟩
  · simp [sortWorldK, grow, putRowK, putRow, mapBlock, Sort.ahead]
  · have hjb : blk ≠ j := fun h => hne (by rw [h])
    simp [sortWorldK, grow, putRowK, putRow, mapBlock, Sort.ahead, Array.getElem?_append, hj, Array.getElem_modify, hjb]

set_option maxHeartbeats 1000000 in
theorem c_key (x y : Int) (u v : Value) (B : Nat) (W : World) (hc : W.cell? ⟨B, 0, none⟩ = some (.func (.func 50) #[] #[])) :
    Calls Tryz.prog 90 #[.agg #[.int .i64 x, u], .agg #[.int .i64 y, v], .pointer (some ⟨B, 0, none⟩)] W fun e w' => e = .returned (.int .i64 (Lib.compareInt x y)) ∧ ∃ q os', w' = grow (W.drewN q) os' := by
  have HC := Lib.hid (fun W => Tryz.cmp_Compare_int x y W)
  have hB := Lib.hid hc
  have hlt : B < W.heap.size := World.block_lt_of_cell? W ⟨B, 0, none⟩ hc
  clear hc
  generalize Lib.compareInt x y = r at *
  have e0 := heap_alloc_new W (.cells #[.int .i64 x, u] 143)
  have e1 := heap_alloc_new (W.alloc (.cells #[.int .i64 x, u] 143)) (.cells #[.int .i64 y, v] 143)
  rw [World.size_alloc] at e1
  have f0 := (Below.heap_alloc (W.alloc (.cells #[.int .i64 x, u] 143)) (.cells #[.int .i64 y, v] 143) W.heap.size (by simp)).trans e0
  have a0 : ((W.alloc (.cells #[.int .i64 x, u] 143)).alloc (.cells #[.int .i64 y, v] 143)).cell? ⟨W.heap.size, 0, none⟩ = some (.int .i64 x) := by rw [cell_of_row _ _ _ _ _ _ f0]; rfl
  have a1 : ((W.alloc (.cells #[.int .i64 x, u] 143)).alloc (.cells #[.int .i64 y, v] 143)).cell? ⟨W.heap.size + 1, 0, none⟩ = some (.int .i64 y) := by rw [cell_of_row _ _ _ _ _ _ e1]; rfl
  have a2 : ((W.alloc (.cells #[.int .i64 x, u] 143)).alloc (.cells #[.int .i64 y, v] 143)).cell? ⟨B, 0, none⟩ = some (.func (.func 50) #[] #[]) := by
    rw [World.cell?_alloc_lt _ _ _ (by simp; omega), World.cell?_alloc_lt _ _ _ hlt]
    exact hB.out
  clear e0 e1 f0
  go_enter Tryz.func90, Tryz.ntmps90
  go_wp2_with (go_at_call 50; refine (HC.out _).mono ?_; rintro e w' ⟨rfl, rfl⟩)
  go_ret
  exact ⟨rfl, 0, _, by rw [alloc_eq_grow, alloc_eq_grow, grow_grow]; rfl⟩

/-- The pairs, as they come. -/
def pairD (ky : Nat → Int) (N : Nat) : Array (Int × Nat) := ((List.range N).map fun t => (ky t, t)).toArray
/-- .. sorted, as the library sorts them. -/
def pairR (ky : Nat → Int) (N : Nat) : Array (Int × Nat) := pdq (ltOf fun x y : Int × Nat => Lib.compareInt x.1 y.1) (pairD ky N) 0 N (Lib.bitLen N) true true

set_option maxHeartbeats 1000000 in
theorem c_sortKeyed (W : World) (b cap N B : Nat) (ky : Nat → Int) (xs : Nat → Value) (hxs : ∀ t, ∃ p n c, xs t = .slice p n c) (hN : N ≤ 1000000) (hb : b < W.heap.size) (hB : b ≠ B) (hc : W.cell? ⟨B, 0, none⟩ = some (.func (.func 50) #[] #[]))
    (hcs : ∀ j, j < N → W.cell? ⟨b, j * 2, none⟩ = some (.int .i64 (ky j)) ∧ W.cell? ⟨b, j * 2 + 1, none⟩ = some (xs j)) (hz : ∀ j, W.frozen? ⟨b, j, none⟩ = false) :
    Calls Tryz.prog 89 #[.slice (some ⟨b, 0, none⟩) N cap, .func (.func 90) #[] #[.pointer (some ⟨B, 0, none⟩)]] W fun e w' => e = .returned (.tuple #[]) ∧ W.grownBy w' (some b) ∧ (pairR ky N).size = N ∧ ∀ j, j < N → w'.cell? ⟨b, j * 2, none⟩ = some (.int .i64 ((pairR ky N)[j]!).1) ∧ w'.cell? ⟨b, j * 2 + 1, none⟩ = some (xs ((pairR ky N)[j]!).2) := by
  have hds : (pairD ky N).size = N := by simp [pairD]
  have hget : ∀ j, j < N → (pairD ky N)[j]! = (ky j, j) := fun j hj => by simp [pairD, hj]
  have flat : ∀ (d : Array (Int × Nat)) (t : Nat), t < d.size * 2 → (flatK (encP xs) 2 d)[t]! = if t % 2 = 0 then Value.int .i64 (d[t / 2]!).1 else xs (d[t / 2]!).2 := fun d t ht => by
    rw [get_flatK _ _ _ _ ht]
    rcases (by omega : t % 2 = 0 ∨ t % 2 = 1) with h | h
    · rw [h, if_pos rfl]; rfl
    · rw [h, if_neg (by decide)]; rfl
  have hH : HoldsK (encP xs) 2 W b 0 (pairD ky N) := fun j hj => by
    rw [size_flatK, hds] at hj
    refine ⟨?_, by rw [Nat.zero_add]; exact hz j⟩
    rw [flat _ _ (by rw [hds]; exact hj), hget (j / 2) (by omega), Nat.zero_add]
    obtain ⟨h1, h2⟩ := hcs (j / 2) (by omega)
    split
    · rename_i h
      rw [show j / 2 * 2 = j by omega] at h1
      exact h1
    · rename_i h
      rw [show j / 2 * 2 + 1 = j by omega] at h2
      exact h2
  have eg : ∀ args w, (callFunc 90 args).run Tryz.prog w = .ok (.enter 90 args) w := enters_of Tryz.func90 (by kernel_rfl) rfl
  have hcmp : CmpLays Tryz.prog 90 #[.pointer (some ⟨B, 0, none⟩)] (encP xs) 2 (fun x y => Lib.compareInt x.1 y.1) b 0 (pairD ky N).size W := fun m os dk _ x y =>
    c_key x.1 y.1 (xs x.2) (xs y.2) B _ ((sw_grown (encP xs) 2 W b 0 m dk os).cell hc (by simp; exact fun h => hB h.symm))
  have hcon := AnyQ.slices_SortFunc_eq Tryz.sortKeyed 2 Tryz.isAgg143 Tryz.sizeOf143 (encP xs) (fun _ => rfl) (fun x v hv => by
    simp only [encP, List.mem_cons, List.not_mem_nil, or_false] at hv
    rcases hv with rfl | rfl
    · rfl
    · obtain ⟨p, n, c, h⟩ := hxs x.2
      rw [h]; rfl) (fun x y => Lib.compareInt x.1 y.1) swo_key 90 #[.pointer (some ⟨B, 0, none⟩)] b 0 cap (pairD ky N) W eg hcmp hH hb (by rw [hds]; omega)
  rw [hds] at hcon
  refine Calls.mono hcon ?_
  rintro e w' ⟨rfl, n, os, rfl⟩
  have hsz : (pairR ky N).size = N := by
    have hp := (pdq_sorts (ltOf fun x y : Int × Nat => Lib.compareInt x.1 y.1) swo_key (pairD ky N) 0 N (Lib.bitLen N) true true (Nat.zero_le _) (by rw [hds]; exact Nat.le_refl _) (Or.inl rfl)).1.1
    rw [hds] at hp
    exact hp
  have hHR := holdsK_sortWorldK_c (enc := encP xs) (k := 2) (w := W) (blk := b) (off := 0) (pairD ky N) (pairR ky N) n os hH hb (by rw [hsz, hds])
  refine ⟨rfl, sw_grown _ _ _ _ _ _ _ _, hsz, fun j hj => ?_⟩
  have h0 := (hHR (j * 2) (by rw [size_flatK, hsz]; omega)).1
  have h1 := (hHR (j * 2 + 1) (by rw [size_flatK, hsz]; omega)).1
  rw [flat _ _ (by rw [hsz]; omega), Nat.zero_add] at h0 h1
  rw [if_pos (by omega), show j * 2 / 2 = j by omega] at h0
  rw [if_neg (by omega), show (j * 2 + 1) / 2 = j by omega] at h1
  exact ⟨h0, h1⟩
end Go.Proofs.YtogmbehomilalaaGreatDoor
end

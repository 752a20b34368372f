/- Coordinates of a box are in it. -/
import Derived.Test.YtkckoanphciddaaGreatDoorZBxA
import Derived.Test.YtkckoanphciddaaGreatDoorZSeq
import Derived.Test.YtkckoanphciddaaGreatDoorZSrK
import Derived.Laws.EntriesVeiled

/- Coordinates of a box are in it. -/
section
namespace Go.Proofs.YtkckoanphciddaaGreatDoor
open Go Go.RowKit Go.Deep Go.Shelf

theorem crd_inB {lo hi : Nat → Int} {e : Nat → Nat} {n t : Nat} (he : ∀ k, k < n → 1 ≤ e k ∧ hi k = lo k + e k - 1) : inB lo hi (fun k => crdZ lo e n t k) n := fun k hk => by
  have hd := digC_lt (t := t) (fun k hk => (he k hk).1) hk
  have hk1 := he k hk
  show lo k ≤ crdZ lo e n t k ∧ crdZ lo e n t k ≤ hi k
  unfold crdZ
  omega
theorem hasTo_of {l h v : Nat → Int} : ∀ {n : Nat}, (∀ k, k < n → l k ≤ v k ∧ v k ≤ h k) → hasTo l h v n = true
  | 0, _ => rfl
  | n + 1, hk => by
    rw [hasTo, hasTo_of fun k h => hk k (by omega), Bool.true_and, decide_eq_true (hk n (Nat.lt_succ_self n)).1, Bool.true_and]
    unfold belB
    rw [decide_eq_true (hk n (Nat.lt_succ_self n)).2, Bool.true_or]
theorem has_crd {lo hi : Nat → Int} {e : Nat → Nat} {n t : Nat} (h1 : 1 ≤ n) (h4 : n ≤ 4) (he : ∀ k, k < n → 1 ≤ e k ∧ hi k = lo k + e k - 1) : hasB n n n lo hi (fun k => crdZ lo e n t k) = true := by
  unfold hasB formB
  rw [hasTo_of (crd_inB he)]
  simp [h1, h4]
/-- What is kept between the rounds of Rank's loop: the boxes of the rank, of the coordinates' own key and of the keys' function, and the box whose coordinates come. -/
structure RkAt (w : World) (bk bo br : Nat) (KV : Value) (own : Int) (Bb : Nat) (lv hv : Value) (p : Nat → Bool) (A k : Nat) (W : World) : Prop where
  rank : Boxed W br 3 (.int .i64 (cntTo p k : Nat))
  own : Boxed W bo 3 (.int .i64 own)
  key : Boxed W bk 129 KV
  box : W.heap[Bb]? = some (.cells #[lv, hv] 66 (0, 0))
  below : Below w.heap.size w W
  ge : bk < A ∧ bo < A ∧ br < A ∧ Bb < A
theorem cells_ne {W : World} {B : Nat} {cs : Array Value} {t : TypeId} (h : W.heap[B]? = some (.cells cs t (0, 0))) {A C : Nat} {row : Option Nat} (hA : B < A) (hr : ∀ r, row = some r → r = A ∨ (C ≤ r ∧ ∃ o : Obj, W.heap[r]? = some o ∧ o.isCells = false)) : some B ≠ row := fun e => by
  rcases hr B e.symm with h1 | ⟨_, o, ho, hc⟩
  · omega
  · rw [h] at ho; cases ho; cases hc
theorem apart_t {W : World} {b b' : Nat} {cs cs' : Array Value} {t t' : TypeId} (h : W.heap[b]? = some (.cells cs t (0, 0))) (h' : W.heap[b']? = some (.cells cs' t' (0, 0))) (ht : t ≠ t') : b ≠ b' := fun e => by
  rw [e, h'] at h
  injection h with h
  injection h with _ h2
  exact ht h2.symm
theorem rk_steps {w : World} {bk bo br : Nat} {KV : Value} {own : Int} {Bb : Nat} {lv hv : Value} {p : Nat → Bool} {B A k : Nat} (hB : w.heap.size ≤ B) (hA : w.heap.size ≤ A) : StepsC B A (RkAt w bk bo br KV own Bb lv hv p A k) := by
  intro W W' row ⟨h1, h2, h3, h4, h5, g1, g2, g3, g4⟩ hg hr
  have hl4 : Bb < W.heap.size := (Array.getElem?_eq_some_iff.1 h4).1
  refine ⟨h1.kept hg (boxed_ne h1 g3 hr), h2.kept hg (boxed_ne h2 g2 hr), h3.kept hg (boxed_ne h3 g1 hr), (hg.block Bb hl4 (cells_ne h4 g4 hr)).trans h4, h5.grown hg h5.size (fun r e => ?_), g1, g2, g3, g4⟩
  rcases hr r e with h | ⟨h, _⟩ <;> omega
namespace RW
attribute [local go_sem] Oper.semAt_some
section
variable {ops : Array Oper} {Q : Exit → Act → World → Prop} {l n : Nat} {K : Act → World → Prop} {a : Act} {w : World}
theorem oi_loadI {o : Oper} {d t b : Nat} {x : Int} (ho : o.op = .load 3 (.tmp t)) (hd : o.dst = some d) (hs : slot a t = .pointer (some ⟨b, 0, none⟩)) (hc : w.cell? ⟨b, 0, none⟩ = some (.int .i64 x)) (h : K (putS a d (.int .i64 x)) w) : o.wpIn (Fence.wide.inRound l) n Tryz.prog a w K Q := by
  obtain ⟨op, dst, ty, pos, after, guard⟩ := o
  dsimp only at ho hd
  subst ho hd
  have hs' : a.tmps[t]?.getD undef = .pointer (some ⟨b, 0, none⟩) := hs
  unfold Oper.wpIn
  go_simp
  exact h
theorem oi_lss {o : Oper} {d t t' : Nat} {x y : Int} (ho : o.op = .binOp .lss 3 (.tmp t) (.tmp t') 3) (hd : o.dst = some d) (hs : slot a t = .int .i64 x) (hs2 : slot a t' = .int .i64 y) (h : K (putS a d (.bool (decide (x < y)))) w) : o.wpIn (Fence.wide.inRound l) n Tryz.prog a w K Q := by
  obtain ⟨op, dst, ty, pos, after, guard⟩ := o
  dsimp only at ho hd
  subst ho hd
  have hs' : a.tmps[t]?.getD undef = .int .i64 x := hs
  have hs2' : a.tmps[t']?.getD undef = .int .i64 y := hs2
  unfold Oper.wpIn
  go_simp
  exact h
end
def lessT (g : Nat) (fr : Value) (vp : Option Addr) (vn vc : Nat) (ky own : Int) : Nat → Value → World → Prop
  | 0 => fun v _ => v = .func (.func g) #[fr] #[]
  | 1 => fun v _ => v = .slice vp vn vc
  | 2 => fun v _ => v = .int .i64 ky
  | 3 => fun v _ => v = .int .i64 own
  | 4 => fun v _ => v = .bool (decide (ky < own))
  | _ => fun _ _ => True
theorem lessT_stays {g : Nat} {fr : Value} {vp : Option Addr} {vn vc : Nat} {ky own : Int} : ∀ i v x y, lessT g fr vp vn vc ky own i v x → Below x.heap.size x y → lessT g fr vp vn vc ky own i v y := by
  intro i v x y h _
  match i with
  | 0 => exact h
  | 1 => exact h
  | 2 => exact h
  | 3 => exact h
  | 4 => exact h
  | i + 5 => trivial
set_option maxRecDepth 100000 in
set_option maxHeartbeats 4000000 in
theorem r_less {ops : Array Oper} {Q : Exit → Act → World → Prop} {id l n : Nat} {a0 : Act} {w0 : World} {g : Nat} {fr : Value} {vp : Option Addr} {vn vc : Nat} {ky own : Int} {Bk Bo : Nat} (size : ops.size = 5) (hn : a0.tmps.size = 42)
    (dl : ops.toList.map (·.dst) = [some 34, some 35, some 36, some 37, some 38]) (dag : ∀ (i : Nat) (o : Oper), ops[i]? = some o → ∀ e : Edge, e ∈ o.after → e.on < i)
    (rd5 : Region.ready .any ops (firsts 5 5) = [])
    {o0 : Oper} (e0 : ops[0]? = some o0) (k0 : o0.op = .load 129 (.tmp 9)) (g0 : o0.guard = none)
    {o1 : Oper} (e1 : ops[1]? = some o1) (k1 : o1.op = .move (.tmp 12)) (g1 : o1.guard = none)
    {o2 : Oper} (e2 : ops[2]? = some o2) (k2 : o2.op = .call { callee := .value (.tmp 34), args := #[.tmp 35], argTypes := #[35] }) (g2 : o2.guard = none) (f2_0 : (o2.after.any fun e => e.on == 0 && Region.binds .any e) = true) (f2_1 : (o2.after.any fun e => e.on == 1 && Region.binds .any e) = true)
    {o3 : Oper} (e3 : ops[3]? = some o3) (k3 : o3.op = .load 3 (.tmp 10)) (g3 : o3.guard = none)
    {o4 : Oper} (e4 : ops[4]? = some o4) (k4 : o4.op = .binOp .lss 3 (.tmp 36) (.tmp 37) 3) (g4 : o4.guard = none) (f4_2 : (o4.after.any fun e => e.on == 2 && Region.binds .any e) = true) (f4_3 : (o4.after.any fun e => e.on == 3 && Region.binds .any e) = true)
    (s9 : slot a0 9 = .pointer (some ⟨Bk, 0, none⟩)) (s10 : slot a0 10 = .pointer (some ⟨Bo, 0, none⟩)) (s12 : slot a0 12 = .slice vp vn vc)
    (hc9 : ∀ W, Below w0.heap.size w0 W → W.cell? ⟨Bk, 0, none⟩ = some (.func (.func g) #[fr] #[])) (hc10 : ∀ W, Below w0.heap.size w0 W → W.cell? ⟨Bo, 0, none⟩ = some (.int .i64 own))
    (he : ∀ args w, (callFunc g args).run Tryz.prog w = .ok (.enter g args) w)
    (HK : ∀ W, Below w0.heap.size w0 W → Calls Tryz.prog g #[fr, .slice vp vn vc] W fun e w' => e = .returned (.int .i64 ky) ∧ Below W.heap.size W w')
    (tail : ∀ a W, Below w0.heap.size w0 W → a.tmps.size = 42 → a.defers = a0.defers → slot a 38 = .bool (decide (ky < own)) → slot a 11 = slot a0 11 → Q .normal a W) :
    (Code.region id ops true).wpIn (Fence.wide.inRound l) n Tryz.prog Q a0 w0 := by
  have get : ∀ i : Nat, ∀ o : Oper, ops[i]? = some o → (ops.toList.map (·.dst))[i]? = some o.dst := fun i o h => by
    rw [List.getElem?_map, Array.getElem?_toList, h]; rfl
  have d0 : o0.dst = some 34 := by have := get 0 _ e0; rw [dl] at this; exact (Option.some.inj this).symm
  have d1 : o1.dst = some 35 := by have := get 1 _ e1; rw [dl] at this; exact (Option.some.inj this).symm
  have d2 : o2.dst = some 36 := by have := get 2 _ e2; rw [dl] at this; exact (Option.some.inj this).symm
  have d3 : o3.dst = some 37 := by have := get 3 _ e3; rw [dl] at this; exact (Option.some.inj this).symm
  have d4 : o4.dst = some 38 := by have := get 4 _ e4; rw [dl] at this; exact (Option.some.inj this).symm
  have ap : ∀ (i j : Nat) (x y : Oper) (t : Nat), ops[i]? = some x → ops[j]? = some y → x.dst = some t → y.dst = some t → i = j := apart_ofS dl (by decide)
  have old : ∀ t, [some 34, some 35, some 36, some 37, some 38].contains (some t) = false → ∀ {listed : Array Bool} {a : Act} {w : World}, Held ops a0 w0 (lessT g fr vp vn vc ky own) listed a w → slot a t = slot a0 t := by
    intro t ht listed a w H
    refine H.old t fun i o hi hd => ?_
    exfalso
    have h1 : (ops.toList.map (·.dst))[i]? = some (some t) := by rw [List.getElem?_map, Array.getElem?_toList, hi]; simp [hd]
    rw [dl] at h1
    have h2 := List.mem_of_getElem? h1
    rw [← List.elem_iff] at h2
    rw [show List.elem (some t) _ = List.contains _ (some t) from rfl, ht] at h2
    cases h2
  refine wpIn_region_any (by kernel_rfl) (wpAnyIn_head (n1 := 5) (by omega) (fun listed a w => Held ops a0 w0 (lessT g fr vp vn vc ky own) listed a w ∧ (∀ i, 5 ≤ i → listed.getD i false = false) ∧ CL ops listed) (fun listed a w h => ⟨h.1.size, h.2.1⟩) ?late dag ?_ ?_ _ _ _ _ ?_ ?_)
  case late =>
    intro listed a w i h hm hi j hj
    have hlt := (mem_ready hm).1
    omega
  · intro listed a w i ⟨H, hl, hcl⟩ hm hi
    have hput : ∀ {o : Oper} {d : Nat} {v : Value} {w' : World}, i < 5 → ops[i]? = some o → o.dst = some d → d < 42 → Below w.heap.size w w' → lessT g fr vp vn vc ky own i v w' → Held ops a0 w0 (lessT g fr vp vn vc ky own) (listed.setIfInBounds i true) (putS a d v) w' ∧ (∀ j, 5 ≤ j → (listed.setIfInBounds i true).getD j false = false) ∧ CL ops (listed.setIfInBounds i true) :=
      fun {o d v w'} hj ho hd hsz hb hv => ⟨H.put lessT_stays ap ho hd (by omega) hb hv, fun j hj => by
        rw [Array.getD_eq_getD_getElem?, Array.getElem?_setIfInBounds, if_neg (by omega), ← Array.getD_eq_getD_getElem?]
        exact hl j hj, hcl.set hm⟩
    have got : ∀ {j : Nat} {x : Oper} {t : Nat} {o : Oper}, ops[i]? = some o → (o.after.any fun e => e.on == j && Region.binds .any e) = true → ops[j]? = some x → x.dst = some t → lessT g fr vp vn vc ky own j (slot a t) w := fun {j x t o} ho ha hj hx => H.got j x t hj hx (ready_onS hm ho ha)
    rcases (by omega : i = 0 ∨ i = 1 ∨ i = 2 ∨ i = 3 ∨ i = 4) with rfl | rfl | rfl | rfl | rfl
    · exact wpOpIn_of e0 g0 (oi_loadF k0 d0 ((old 9 (by decide) H).trans s9) (hc9 w H.below) (hput (by omega) e0 d0 (by omega) (Below.refl _ _) rfl))
    · exact wpOpIn_of e1 g1 (oi_move k1 d1 ((old 12 (by decide) H).trans s12) (hput (by omega) e1 d1 (by omega) (Below.refl _ _) rfl))
    · exact wpOpIn_of e2 g2 (oi_call k2 d2 (got e2 f2_0 e0 d0) (got e2 f2_1 e1 d1) he ((HK w H.below).mono fun e w' h => ⟨_, h.1, hput (by omega) e2 d2 (by omega) h.2 rfl⟩))
    · exact wpOpIn_of e3 g3 (oi_loadI k3 d3 ((old 10 (by decide) H).trans s10) (hc10 w H.below) (hput (by omega) e3 d3 (by omega) (Below.refl _ _) rfl))
    · exact wpOpIn_of e4 g4 (oi_lss k4 d4 (got e4 f4_2 e2 d2) (got e4 f4_3 e3 d3) (hput (by omega) e4 d4 (by omega) (Below.refl _ _) rfl))
  · rintro fuel a w ⟨H, -⟩ hf
    rw [size] at H hf ⊢
    have h38 : slot a 38 = .bool (decide (ky < own)) := H.got 4 o4 38 e4 d4 (by decide)
    exact wpAnyIn_done rd5 (tail a w H.below (H.frame.trans hn) H.defers h38 (old 11 (by decide) H)) fuel
  · unfold leftOf
    simp
  · have hf : ∀ j, (Array.replicate ops.size false).getD j false = false := by
      intro j
      rw [Array.getD_eq_getD_getElem?, Array.getElem?_replicate]
      split <;> rfl
    exact ⟨⟨by simp, rfl, rfl, Below.drew (Below.refl _ _), fun _ _ => rfl, fun i o t _ _ hl => by rw [hf] at hl; cases hl⟩, fun i _ => hf i, fun j oj _ hl => by rw [hf] at hl; cases hl⟩
end RW
end Go.Proofs.YtkckoanphciddaaGreatDoor
end

/- The rank of coordinates in the row-major order. -/
section
namespace Go.Proofs.YtkckoanphciddaaGreatDoor
open Go Go.RowKit Go.Deep Go.Shelf Go.Sort
attribute [local go_sem] Oper.semAt_some

set_option maxRecDepth 100000 in
set_option maxHeartbeats 8000000 in
theorem s_RankR (w : World) (S O L H X : Option Addr) (s sc o oc n c d xc : Nat) (tile form codec : Int) (lo hi : Nat → Int) (e : Nat → Nat) (t0 : Nat) (hl : IntsAt w L n lo) (hh : IntsAt w H n hi) (hx : IntsAt w X n (fun k => crdZ lo e n t0 k)) (h1 : 1 ≤ n) (h4 : n ≤ 4) (ho : ordB 1 tile = true)
    (hb : ∀ k, k < n → -1073741824 ≤ lo k ∧ lo k ≤ hi k ∧ hi k ≤ 1073741824 ∧ hi k - lo k < 4096) (he : ∀ k, k < n → 1 ≤ e k ∧ hi k = lo k + e k - 1) (hv : volO lo hi n ≤ 4096) (hv2 : volC e n 0 ≤ 4096) :
    Calls Tryz.prog 36 #[LayV S s sc O o oc 1 tile form codec, BoxW L H n c n d, .slice X n xc] w fun e' w' => e' = .returned (.tuple #[.int .i64 (cntTo (fun t => decide (rmK n lo hi e t < rmK n lo hi e t0)) (volC e n 0) : Nat), .int .i64 0]) ∧ Below w.heap.size w w' := by
  have hpos : ∀ k, k < n → 1 ≤ e k := fun k hk => (he k hk).1
  have hN1 : 1 ≤ volC e n 0 := volC_pos' hpos (Nat.zero_le _)
  have HOE : Hid (∀ W, Below w.heap.size w W → Calls Tryz.prog 84 #[LayV S s sc O o oc 1 tile form codec, BoxW L H n c n d, .int .i64 n] W fun e w' => e = .returned (.int .i64 0) ∧ Below W.heap.size W w') := fun W hW => s_orderError W S O L H s sc o oc n c d 1 tile form codec lo hi (hl.below hW) (hh.below hW) h1 h4 ho hb hv
  have HHa : Hid (∀ W, Below w.heap.size w W → Calls Tryz.prog 93 #[BoxW L H n c n d, .slice X n xc] W fun e w' => e = .returned (.bool true) ∧ Below W.heap.size W w') := fun W hW => (s_Has W L H X n c n d n xc lo hi _ (hl.below hW) (hh.below hW) (hx.below hW) (by omega) (by omega)).mono fun e' w' h => by
    rw [has_crd h1 h4 fun k hk => ⟨hpos k hk, (he k hk).2⟩] at h
    exact h
  have HCO : Hid (∀ W, Calls Tryz.prog 78 #[BoxW L H n c n d] W fun e w' => ∃ Bb, e = .returned (.func (.func 124) #[] #[.pointer (some ⟨Bb, 0, none⟩)]) ∧ Below W.heap.size W w' ∧ W.heap.size ≤ Bb ∧ Bb < w'.heap.size ∧ w'.heap[Bb]? = some (.cells #[.slice L n c, .slice H n d] 66 (0, 0))) := fun W => (c_coordinates W (.slice L n c) (.slice H n d)).mono fun e' w' h => by
    obtain ⟨rfl, rfl⟩ := h
    exact ⟨_, rfl, (Below.refl _ _).alloc (Nat.le_refl _) _, Nat.le_refl _, by simp, heap_alloc_new W _⟩
  have HKE : Hid (∀ W, Below w.heap.size w W → Calls Tryz.prog 86 #[LayV S s sc O o oc 1 tile form codec, BoxW L H n c n d] W fun e w' => e = .returned (.func (.func 131) #[FrmV L n c H n d tile (wdTo lo hi n : Nat)] #[]) ∧ Below W.heap.size W w') := fun W hW => s_keysR W S O L H s sc o oc n c d tile form codec lo hi (hl.below hW) (hh.below hW) (by omega) (fun k hk => ⟨(hb k hk).1, (hb k hk).2.1, (hb k hk).2.2.1⟩)
  have HKy : Hid (∀ W (P : Option Addr) (cc t : Nat), Below w.heap.size w W → IntsAt W P n (fun k => crdZ lo e n t k) → Calls Tryz.prog 131 #[FrmV L n c H n d tile (wdTo lo hi n : Nat), .slice P n cc] W fun e' w' => e' = .returned (.int .i64 (rmK n lo hi e t)) ∧ Below W.heap.size W w') := fun W P cc t hW hP => s_rowMajor W L H P n c d cc tile _ lo hi _ (hl.below hW) (hh.below hW) hP h4 hb (crd_inB he)
  have HEe : Hid (∀ k, k < n → 1 ≤ e k ∧ hi k = lo k + e k - 1 ∧ -1073741824 ≤ lo k ∧ hi k ≤ 4611686018427387904) := fun k hk => ⟨(he k hk).1, (he k hk).2, (hb k hk).1, by have := (hb k hk).2.2.1; omega⟩
  have HIt : Hid (∀ m, 1 ≤ m → ∀ Bb bl ol bh oh, L = some ⟨bl, ol, none⟩ → H = some ⟨bh, oh, none⟩ → IterOwn Fence.wide m Tryz.prog 124 #[.pointer (some ⟨Bb, 0, none⟩)] (ReadsBox Bb bl ol c bh oh d n lo hi) (CrdArg n lo e) (volC e n 0)) := fun m hm Bb bl ol bh oh _ _ => crd_iter m hm Bb bl ol c bh oh d n lo hi e h1 (by omega) (fun k hk => ⟨(he k hk).1, (he k hk).2, (hb k hk).1, by have := (hb k hk).2.2.1; omega⟩)
  have HLH := Lib.hid (And.intro hl (And.intro hh hx))
  have KB := Lib.hid (lay_box w S O s sc o oc 1 tile form codec)
  have HB1 : Hid (Below w.heap.size w (w.alloc (.cells #[.slice S s sc, .slice O o oc, .int .i64 1, .int .i64 tile, .int .i64 form, .int .i64 codec] 54))) := (Below.refl _ _).alloc (Nat.le_refl _) _
  have hz1 : (w.alloc (.cells #[.slice S s sc, .slice O o oc, .int .i64 1, .int .i64 tile, .int .i64 form, .int .i64 codec] 54)).heap.size = w.heap.size + 1 := by simp
  have hNm : volC e n 0 ≤ 1000000 := by omega
  clear hl hh hx ho hb hv hv2 hpos
  obtain ⟨N, hN⟩ : ∃ N, volC e n 0 = N := ⟨_, rfl⟩
  rw [hN] at hNm hN1 ⊢
  refine (callsIn_wide (n := 3)).1 ?_
  refine callsIn_of_wp_marks Tryz.func36 rfl trivial ?_ rfl
  simp only [Tryz.ntmps36, List.size_toArray, List.length_cons, List.length_nil, Nat.reduceAdd, Nat.reduceSub, Array.replicate_succ, Array.replicate_zero, List.push_toArray, List.append_toArray, List.nil_append, List.cons_append]
  gi_wp2_with fail
  generalize w.alloc (.cells #[.slice S s sc, .slice O o oc, .int .i64 1, .int .i64 tile, .int .i64 form, .int .i64 codec] 54) = Wa at *
  have K2 := Lib.hid (box_two Wa (.slice L n c) (.slice H n d) 66)
  have HB2 : Hid (Below Wa.heap.size Wa (Wa.alloc (.cells #[.slice L n c, .slice H n d] 66))) := (Below.refl _ _).alloc (Nat.le_refl _) _
  rw [hz1] at K2 HB2 KB
  have HB3 : Hid (Below w.heap.size w (Wa.alloc (.cells #[.slice L n c, .slice H n d] 66))) := Below.trans HB1.out (HB2.out.mono (by omega))
  generalize hWb : Wa.alloc (.cells #[.slice L n c, .slice H n d] 66) = Wb at *
  have hz2 : Wb.heap.size = w.heap.size + 2 := by rw [← hWb]; simp; omega
  clear hWb
  have KK : Hid (∀ W, Below Wb.heap.size Wb W → (W.cell? ⟨w.heap.size, 0, none⟩ = some (.slice S s sc) ∧ W.cell? ⟨w.heap.size, 1, none⟩ = some (.slice O o oc) ∧ W.cell? ⟨w.heap.size, 2, none⟩ = some (.int .i64 1) ∧ W.cell? ⟨w.heap.size, 3, none⟩ = some (.int .i64 tile) ∧ W.cell? ⟨w.heap.size, 4, none⟩ = some (.int .i64 form) ∧ W.cell? ⟨w.heap.size, 5, none⟩ = some (.int .i64 codec)) ∧ W.cell? ⟨w.heap.size + 1, 0, none⟩ = some (.slice L n c) ∧ W.cell? ⟨w.heap.size + 1, 1, none⟩ = some (.slice H n d)) := fun W hW => ⟨KB.out W (Below.trans HB2.out (hW.mono (by omega))), K2.out W hW⟩
  clear KB K2 HB1 HB2
  refine ⟨trivial, ?_⟩
  refine (callsIn_wide.2 (HOE.out _ HB3.out)).mono ?_
  rintro e1 w1 ⟨rfl, hb1⟩
  obtain ⟨⟨l0, l1, l2, l3, l4, l5⟩, m0, m1⟩ := KK.out w1 hb1
  gi_wp2_with fail
  refine ⟨trivial, ?_⟩
  refine (callsIn_wide.2 (HHa.out _ (st HB3.out hb1))).mono ?_
  rintro e2 w2 ⟨rfl, hb2⟩
  have hb12 := st hb1 hb2
  clear l0 l1 l2 l3 l4 l5 m0 m1
  obtain ⟨⟨l0, l1, l2, l3, l4, l5⟩, m0, m1⟩ := KK.out w2 hb12
  gi_wp2_with fail
  refine ⟨trivial, ?_⟩
  refine (callsIn_wide.2 (HKE.out _ (st HB3.out hb12))).mono ?_
  rintro e3 w3 ⟨rfl, hb3⟩
  have hb13 := st hb12 hb3
  clear l0 l1 l2 l3 l4 l5 m0 m1 hb1 hb2 hb3 hb12 HOE HHa HKE
  gi_wp2_with fail
  obtain ⟨hl, hh, hx⟩ := HLH.out
  obtain ⟨OWN, hOWN⟩ : ∃ OWN, rmK n lo hi e t0 = OWN := ⟨_, rfl⟩
  have HOWN := Lib.hid hOWN
  have bk := Boxed.new w3 129 (.func (.func 131) #[FrmV L n c H n d tile (wdTo lo hi n : Nat)] #[])
  have hb4 : Below Wb.heap.size Wb (w3.alloc (.cells #[.func (.func 131) #[FrmV L n c H n d tile (wdTo lo hi n : Nat)] #[]] 129)) := st hb13 ((Below.refl _ _).alloc (Nat.le_refl _) _)
  have hg3 : w.heap.size + 2 ≤ w3.heap.size := by rw [← hz2]; exact hb13.size
  generalize hBk : w3.heap.size = Bk at *
  generalize w3.alloc (.cells #[.func (.func 131) #[FrmV L n c H n d tile (wdTo lo hi n : Nat)] #[]] 129) = w4 at *
  clear hb13 hBk
  refine ⟨trivial, ?_⟩
  refine (callsIn_wide.2 (HKy.out w4 X xc t0 (st HB3.out hb4) (hx.below (st HB3.out hb4)))).mono ?_
  rw [hOWN]
  rintro e4 w5 ⟨rfl, hb5⟩
  have hb45 := st hb4 hb5
  have bk5 : Boxed w5 Bk 129 (.func (.func 131) #[FrmV L n c H n d tile (wdTo lo hi n : Nat)] #[]) := (hb5.block _ (Array.getElem?_eq_some_iff.1 bk).1).trans bk
  clear bk hb4 hb5 hOWN hx
  have hz5 : w.heap.size + 2 ≤ w5.heap.size := by rw [← hz2]; exact hb45.size
  have HB6 : Hid (Below Wb.heap.size Wb ((w5.alloc (.cells #[.int .i64 OWN] 3)).alloc (.cells #[.int .i64 0] 3))) := (hb45.alloc hb45.size _).alloc (by have := hb45.size; simp; omega) _
  obtain ⟨-, m0, m1⟩ := KK.out _ HB6.out
  have bo6 := (Boxed.new w5 3 (.int .i64 OWN)).alloc (.cells #[.int .i64 0] 3)
  have br6 := Boxed.new (w5.alloc (.cells #[.int .i64 OWN] 3)) 3 (.int .i64 0)
  have bk6 := (bk5.alloc (.cells #[.int .i64 OWN] 3)).alloc (.cells #[.int .i64 0] 3)
  rw [World.size_alloc] at br6
  clear bk5
  gi_wp2_with fail
  clear m0 m1
  have hz6 : ((w5.alloc (.cells #[.int .i64 OWN] 3)).alloc (.cells #[.int .i64 0] 3)).heap.size = w5.heap.size + 2 := by simp
  generalize (w5.alloc (.cells #[.int .i64 OWN] 3)).alloc (.cells #[.int .i64 0] 3) = w6 at *
  generalize hB5 : w5.heap.size = B5 at *
  clear hB5 hb45
  refine ⟨trivial, ?_⟩
  refine (callsIn_wide.2 (HCO.out _)).mono ?_
  rintro e7 w7 ⟨Bb, rfl, hb7, hBb1, hBb2, hBb⟩
  have HB7 : Hid (Below Wb.heap.size Wb w7) := st HB6.out hb7
  have bo7 : Boxed w7 B5 3 (.int .i64 OWN) := (hb7.block _ (Array.getElem?_eq_some_iff.1 bo6).1).trans bo6
  have br7 : Boxed w7 (B5 + 1) 3 (.int .i64 0) := (hb7.block _ (Array.getElem?_eq_some_iff.1 br6).1).trans br6
  have bk7 : Boxed w7 Bk 129 (.func (.func 131) #[FrmV L n c H n d tile (wdTo lo hi n : Nat)] #[]) := (hb7.block _ (Array.getElem?_eq_some_iff.1 bk6).1).trans bk6
  have hB5l : B5 + 1 < w7.heap.size := (Array.getElem?_eq_some_iff.1 br7).1
  clear bo6 br6 bk6 hb7 HB6 HCO
  gi_wp2_with fail
  obtain ⟨bl, ol, rfl, hbl, hcl⟩ := hl (by omega)
  obtain ⟨bh, oh, rfl, hbh, hch⟩ := hh (by omega)
  have HLC : Hid (∀ W, Below w.heap.size w W → ∀ k, k < n → W.cell? ⟨bl, ol + k, none⟩ = some (.int .i64 (lo k)) ∧ W.cell? ⟨bh, oh + k, none⟩ = some (.int .i64 (hi k))) := fun W hW k hk => ⟨(hW.cell (p := ⟨bl, ol + k, none⟩) hbl).trans (hcl k hk), (hW.cell (p := ⟨bh, oh + k, none⟩) hbh).trans (hch k hk)⟩
  have HRd : Hid (∀ W, W.heap[Bb]? = some (.cells #[.slice (some ⟨bl, ol, none⟩) n c, .slice (some ⟨bh, oh, none⟩) n d] 66 (0, 0)) → Below w.heap.size w W → ReadsBox Bb bl ol c bh oh d n lo hi W) := fun W h1 h2 => ⟨by rw [cell_of_row _ _ _ _ _ _ h1]; rfl, by rw [cell_of_row _ _ _ _ _ _ h1]; rfl, HLC.out W h2⟩
  have hbw7 := st HB3.out HB7.out
  have HB7w : Hid (w.heap.size + 2 ≤ w7.heap.size) := by show _ ≤ _; rw [← hz2]; exact HB7.out.size
  have eg : ∀ args w, (callFunc 124 args).run Tryz.prog w = .ok (.enter 124 args) w := enters_of Tryz.func124 (by kernel_rfl) rfl
  have hBk7 : Bk < w7.heap.size := (Array.getElem?_eq_some_iff.1 bk7).1
  have HKc9 : Hid (∀ W (P : Option Addr) (cc t : Nat), Below w.heap.size w W → IntsAt W P n (fun k => crdZ lo e n t k) → Calls Tryz.prog 131 #[FrmV (some ⟨bl, ol, none⟩) n c (some ⟨bh, oh, none⟩) n d tile (wdTo lo hi n : Nat), .slice P n cc] W fun e' w' => e' = .returned (.int .i64 (rmK n lo hi e t)) ∧ Below W.heap.size W w') := HKy.out
  clear hl hh hcl hch HLH HKy KK HB3 HB7 hz2 hz6 HIt
  have HIt : Hid (∀ m, 1 ≤ m → IterOwn Fence.wide m Tryz.prog 124 #[.pointer (some ⟨Bb, 0, none⟩)] (ReadsBox Bb bl ol c bh oh d n lo hi) (CrdArg n lo e) N) := by
    intro m hm
    rw [← hN]
    exact crd_iter m hm Bb bl ol c bh oh d n lo hi e h1 (by omega) HEe.out
  rename_i KO hKO
  refine wpIn_range_own (gf := 124) (lb := #[.pointer (some ⟨Bb, 0, none⟩)]) rfl (by omega) rfl trivial eg (HIt.out _ (by omega))
    (fun A k args W h => by obtain ⟨v, rfl, _⟩ := h; rfl)
    (fun W => Boxed W (B5 + 1) 3 (.int .i64 0) ∧ Boxed W B5 3 (.int .i64 OWN) ∧ Boxed W Bk 129 (.func (.func 131) #[FrmV (some ⟨bl, ol, none⟩) n c (some ⟨bh, oh, none⟩) n d tile (wdTo lo hi n : Nat)] #[]) ∧ W.heap[Bb]? = some (.cells #[.slice (some ⟨bl, ol, none⟩) n c, .slice (some ⟨bh, oh, none⟩) n d] 66 (0, 0)) ∧ Below w.heap.size w W)
    (fun A k W => RkAt w Bk B5 (B5 + 1) (.func (.func 131) #[FrmV (some ⟨bl, ol, none⟩) n c (some ⟨bh, oh, none⟩) n d tile (wdTo lo hi n : Nat)] #[]) OWN Bb (.slice (some ⟨bl, ol, none⟩) n c) (.slice (some ⟨bh, oh, none⟩) n d) (fun t => decide (rmK n lo hi e t < OWN)) A k W)
    (fun _ _ _ => False)
    ?i0 (fun A k hA => rk_steps (by have := HB7w.out; omega) (by have := HB7w.out; omega)) (fun A c hA W W' row h => h.elim)
    ?hy (fun W h => HRd.out W h.2.2.2.1 h.2.2.2.2) (fun A k W h => HRd.out W h.box h.below) ⟨br7, bo7, bk7, hBb, hbw7⟩ ?start
    (fun args => { tmps := #[LayV S s sc O o oc 1 tile form codec, BoxW (some ⟨bl, ol, none⟩) (some ⟨bh, oh, none⟩) n c n d, .slice X n xc, .pointer (some ⟨w.heap.size, 0, none⟩), .pointer (some ⟨w.heap.size + 1, 0, none⟩), undef, .int .i64 0, .int .i64 0, .int .i64 0, .pointer (some ⟨Bk, 0, none⟩), .pointer (some ⟨B5, 0, none⟩), .pointer (some ⟨B5 + 1, 0, none⟩), args.getD 0 undef, .agg #[.slice S s sc, .slice O o oc, .int .i64 1, .int .i64 tile, .int .i64 form, .int .i64 codec], .agg #[.slice (some ⟨bl, ol, none⟩) n c, .slice (some ⟨bh, oh, none⟩) n d], .slice X n xc, .int .i64 n, .int .i64 0, .int .i64 0, .bool false, undef, .agg #[.slice (some ⟨bl, ol, none⟩) n c, .slice (some ⟨bh, oh, none⟩) n d], .slice X n xc, .bool true, .bool false, .agg #[.slice S s sc, .slice O o oc, .int .i64 1, .int .i64 tile, .int .i64 form, .int .i64 codec], .agg #[.slice (some ⟨bl, ol, none⟩) n c, .slice (some ⟨bh, oh, none⟩) n d], .func (.func 131) #[FrmV (some ⟨bl, ol, none⟩) n c (some ⟨bh, oh, none⟩) n d tile (wdTo lo hi n : Nat)] #[], .func (.func 131) #[FrmV (some ⟨bl, ol, none⟩) n c (some ⟨bh, oh, none⟩) n d tile (wdTo lo hi n : Nat)] #[], .slice X n xc, .int .i64 OWN, .agg #[.slice (some ⟨bl, ol, none⟩) n c, .slice (some ⟨bh, oh, none⟩) n d], .func (.func 124) #[] #[.pointer (some ⟨Bb, 0, none⟩)], args.getD 0 undef, undef, undef, undef, undef, undef, undef, undef, undef], defers := [] }) ?assign ?body ?done ?stop
  case i0 =>
    rintro _ W W' row ⟨i1, i2, i3, i4, i5⟩ hg hr
    have hne : ∀ {B : Nat} {cs : Array Value} {t : TypeId}, W.heap[B]? = some (.cells cs t (0, 0)) → some B ≠ row := fun {B cs t} h e => by
      obtain ⟨_, o, ho, hc⟩ := hr B e.symm
      rw [h] at ho; cases ho; cases hc
    exact ⟨i1.kept hg (hne i1), i2.kept hg (hne i2), i3.kept hg (hne i3), (hg.block Bb (Array.getElem?_eq_some_iff.1 i4).1 (hne i4)).trans i4, i5.grown hg i5.size (fun r e => by have := (hr r e).1; have := HB7w.out; omega)⟩
  case hy =>
    rintro ⟨A, k, args⟩ W W' row ⟨v, hv, h⟩ hg hr
    exact ⟨v, hv, crd_elem n lo e _ _ _ _ _ _ h hg fun r e => by obtain ⟨_, o, ho, hc⟩ := hr r e; exact .inr ⟨o, ho, fun cs h => by subst h; cases hc⟩⟩
  case start =>
    rintro A W ⟨i1, i2, i3, i4, i5⟩ hA hAl
    exact ⟨i1, i2, i3, i4, i5, by omega, by omega, by omega, by omega⟩
  case assign =>
    rintro l A k args W K ⟨v, rfl, h⟩ hK
    gi_wp2
    exact hK
  case body =>
    rintro l A k args W hk hA hAl HJ ⟨v, rfl, hv⟩
    obtain ⟨vp, vn, vc, rfl⟩ : ∃ p n c, v = .slice p n c := by obtain ⟨b, c, g, h, _⟩ := hv; exact ⟨_, _, _, h⟩
    obtain ⟨j1, j2, j3, j4, j5, j6⟩ := HJ
    have hbw := j5.size
    gi_wp2
    refine RW.r_less (g := 131) (fr := FrmV (some ⟨bl, ol, none⟩) n c (some ⟨bh, oh, none⟩) n d tile (wdTo lo hi n : Nat)) (vp := vp) (vn := vn) (vc := vc) (ky := rmK n lo hi e k) (own := OWN) (Bk := Bk) (Bo := B5) rfl rfl rfl (dag_of (by kernel_rfl)) (by kernel_rfl) rfl rfl rfl rfl rfl rfl rfl rfl rfl (by kernel_rfl) (by kernel_rfl) rfl rfl rfl rfl rfl rfl (by kernel_rfl) (by kernel_rfl) rfl rfl rfl
      (fun W' hW => (j3.kept (grown_below hW) (by simp)).cell) (fun W' hW => (j2.kept (grown_below hW) (by simp)).cell) (enters_of Tryz.func131 (by kernel_rfl) rfl)
      (fun W' hW => ?_) ?_
    · obtain ⟨P, cc, hx, hP⟩ := crd_ints (crd_elem n lo e _ _ _ _ _ _ hv (grown_below hW) (fun r e => by cases e))
      injection hx with hx1 hx2 hx3
      subst hx1 hx2 hx3
      exact HKc9.out W' _ _ k (j5.trans (hW.mono (by omega))) hP
    · intro a' W' hW hsz hdf h38 h11
      have B2 := j2.kept (grown_below hW) (by simp)
      have B1 := j1.kept (grown_below hW) (by simp)
      have B3 := j3.kept (grown_below hW) (by simp)
      have B4 := (hW.block Bb (Array.getElem?_eq_some_iff.1 j4).1).trans j4
      have B5' : Below w.heap.size w W' := j5.trans (hW.mono (by omega))
      obtain ⟨f, hf, rfl⟩ := actlitf 42 a' hsz (hdf.trans rfl)
      rw [show List.range 42 = [0, 1, 2, 3, 4, 5, 6, 7, 8, 9, 10, 11, 12, 13, 14, 15, 16, 17, 18, 19, 20, 21, 22, 23, 24, 25, 26, 27, 28, 29, 30, 31, 32, 33, 34, 35, 36, 37, 38, 39, 40, 41] from rfl]
      simp only [List.map_cons, List.map_nil]
      have q38 : f 38 = .bool (decide (rmK n lo hi e k < OWN)) := (hf 38).symm.trans h38
      have q11 : f 11 = .pointer (some ⟨B5 + 1, 0, none⟩) := (hf 11).symm.trans h11
      rw [q38, q11]
      clear q38 q11 h38 h11 hf hsz hdf
      have c1 := B1.cell
      have z1 := B1.frozen
      have hAW : A < W'.heap.size := by have := hW.size; omega
      by_cases hp : rmK n lo hi e k < OWN
      · have hpT : (fun t => decide (rmK n lo hi e t < OWN)) k = true := decide_eq_true hp
        rw [decide_eq_true hp]
        have hcle : cntTo (fun t => decide (rmK n lo hi e t < OWN)) k ≤ 1000000 := Nat.le_trans (cntTo_le _ _) (by omega)
        have HC := cntTo_yes (p := fun t => decide (rmK n lo hi e t < OWN)) (k := k) hpT
        generalize hCC : cntTo (fun t => decide (rmK n lo hi e t < OWN)) k = CC at *
        gi_wp2
        have gs := grownBy_setCell' W' (B5 + 1) (.int .i64 ((CC : Int) + 1))
        have hWl : B5 + 1 < W'.heap.size := (Array.getElem?_eq_some_iff.1 B1).1
        have n3 : Bk ≠ B5 + 1 := apart_t B3 B1 (by decide)
        have n4 : Bb ≠ B5 + 1 := apart_t B4 B1 (by decide)
        have nA : A ≠ B5 + 1 := fun e => by have := j6.2.2.1; omega
        refine ⟨(keeps_below hW).trans (KeepsOthers.setCell _ _ _), (gs.block A hAW (by simpa using nA)).trans (hW.block A hAl), ?_, B2.kept gs (by simp), B3.kept gs (by simpa using n3), (gs.block Bb (Array.getElem?_eq_some_iff.1 B4).1 (by simpa using n4)).trans B4, B5'.setCell (by show w.heap.size ≤ B5 + 1; have := HB7w.out; omega) _, j6⟩
        rw [HC]
        exact B1.set _
      · have hpF : (fun t => decide (rmK n lo hi e t < OWN)) k = false := decide_eq_false hp
        rw [decide_eq_false hp]
        have HC := cntTo_no (p := fun t => decide (rmK n lo hi e t < OWN)) (k := k) hpF
        gi_wp2
        exact ⟨keeps_below hW, hW.block A hAl, by rw [HC]; exact B1, B2, B3, B4, B5', j6⟩
  case done =>
    rintro D A W hD HJ hK
    obtain ⟨j1, j2, j3, j4, j5, j6⟩ := HJ
    have c1 := j1.cell
    refine hKO _ _ ?_
    gi_wp2
    refine ⟨by simp, .inl ⟨_, _, rfl, run_takeDeferred hK, ?_⟩⟩
    refine ⟨.tuple #[.int .i64 (cntTo (fun t => decide (rmK n lo hi e t < OWN)) N : Nat), .int .i64 0], by simp [results, Tryz.results36, go_sem], by rw [← HOWN.out], j5.trans (belowK_b (w := w) (Nat.le_refl _) W D _ _ (by have := HB7w.out; omega) hK rfl rfl)⟩
  case stop => exact fun D A c W hD h => h.elim
end Go.Proofs.YtkckoanphciddaaGreatDoor
end

/- The keys of an order: those of the tiled order. -/
section
namespace Go.Proofs.YtkckoanphciddaaGreatDoor
open Go Go.RowKit Go.Deep

set_option maxRecDepth 100000 in
set_option maxHeartbeats 4000000 in
theorem s_keysT (w : World) (S O L H : Option Addr) (s sc o oc n c d : Nat) (tile form codec : Int) (lo hi : Nat → Int) (hl : IntsAt w L n lo) (hh : IntsAt w H n hi) (hn : n ≤ 1000)
    (hb : ∀ k, k < n → -1073741824 ≤ lo k ∧ lo k ≤ hi k ∧ hi k ≤ 1073741824) :
    Calls Tryz.prog 86 #[LayV S s sc O o oc 3 tile form codec, BoxW L H n c n d] w fun e w' => e = .returned (.func (.func 129) #[FrmV L n c H n d tile (wdTo lo hi n : Nat)] #[]) ∧ Below w.heap.size w w' := by
  have HLo := Lib.hid hl
  have HHi := Lib.hid hh
  have HB := Lib.hid hb
  clear hl hh hb
  have HBL := Lib.hid Tryz.bits_Len
  have KB := Lib.hid (lay_box w S O s sc o oc 3 tile form codec)
  have HB1 : Hid (Below w.heap.size w (w.alloc (.cells #[.slice S s sc, .slice O o oc, .int .i64 3, .int .i64 tile, .int .i64 form, .int .i64 codec] 54))) := (Below.refl _ _).alloc (Nat.le_refl _) _
  have hz1 : (w.alloc (.cells #[.slice S s sc, .slice O o oc, .int .i64 3, .int .i64 tile, .int .i64 form, .int .i64 codec] 54)).heap.size = w.heap.size + 1 := by simp
  go_enter Tryz.func86, Tryz.ntmps86
  go_wp2_with fail
  generalize w.alloc (.cells #[.slice S s sc, .slice O o oc, .int .i64 3, .int .i64 tile, .int .i64 form, .int .i64 codec] 54) = Wa at *
  have K2 := Lib.hid (box_two Wa (.slice L n c) (.slice H n d) 66)
  have HB2 : Hid (Below Wa.heap.size Wa (Wa.alloc (.cells #[.slice L n c, .slice H n d] 66))) := (Below.refl _ _).alloc (Nat.le_refl _) _
  rw [hz1] at K2 HB2 KB
  have HB3 : Hid (Below w.heap.size w (Wa.alloc (.cells #[.slice L n c, .slice H n d] 66))) := Below.trans HB1.out (HB2.out.mono (by omega))
  generalize hWb : Wa.alloc (.cells #[.slice L n c, .slice H n d] 66) = Wb at *
  have hz2 : Wb.heap.size = w.heap.size + 2 := by rw [← hWb]; simp; omega
  clear hWb
  obtain ⟨l0, l1, l2, l3, l4, l5⟩ := KB.out Wb HB2.out
  obtain ⟨m0, m1⟩ := K2.out Wb (Below.refl _ _)
  go_wp2_with fail
  have hr0 : (Wb.alloc (.cells #[.slice L n c, .slice H n d, .int .i64 tile, .int .i64 0] 179)).heap[w.heap.size + 1 + 1]? = some (.cells #[.slice L n c, .slice H n d, .int .i64 tile, .int .i64 ((0 : Nat) : Int)] 179 (0, 0)) := by
    have h := heap_alloc_new Wb (.cells #[.slice L n c, .slice H n d, .int .i64 tile, .int .i64 0] 179)
    rw [hz2] at h
    exact h
  have HB5 : Hid (Below Wb.heap.size Wb (Wb.alloc (.cells #[.slice L n c, .slice H n d, .int .i64 tile, .int .i64 0] 179))) := (Below.refl _ _).alloc (Nat.le_refl _) _
  generalize Wb.alloc (.cells #[.slice L n c, .slice H n d, .int .i64 tile, .int .i64 0] 179) = Wc at *
  clear m0 m1 l0 l1 l2 l3 l4 l5
  go_loopw [6, 7, 15] (fun _ _ i wr => ∃ k u : Nat, k ≤ n ∧ i = .int .i64 k ∧ wr.heap[w.heap.size + 1 + 1]? = some (.cells #[.slice L n c, .slice H n d, .int .i64 tile, .int .i64 (u : Int)] 179 (0, 0)) ∧ Hid (u = wdTo lo hi k) ∧ Hid (Below Wb.heap.size Wb wr)) (fun _ _ i _ => n - (intOf i).toNat)
  case atStart => exact ⟨0, 0, Nat.zero_le _, rfl, hr0, rfl, HB5.out⟩
  case round =>
    obtain ⟨k, u, hk, rfl, hrow, HU, HBr⟩ := hrel
    obtain ⟨m0, m1⟩ := K2.out wr HBr.out
    obtain ⟨l0, -, l2, -⟩ := KB.out wr (Below.trans HB2.out (HBr.out.mono (by omega)))
    have HBw : Hid (Below w.heap.size w wr) := Below.trans HB3.out (HBr.out.mono (by omega))
    obtain ⟨g0, g1, g2, g3, gz⟩ := frm_row _ _ _ _ _ _ hrow
    by_cases hlt : k < n
    · obtain ⟨b1, o1, rfl, _, hc1⟩ := (HHi.out.below HBw.out) (by omega)
      have x0 := hc1 k hlt
      obtain ⟨b2, o2, rfl, _, hc2⟩ := (HLo.out.below HBw.out) (by omega)
      have y0 := hc2 k hlt
      clear hc1 hc2
      obtain ⟨f1, f2, f3⟩ := HB.out k hlt
      obtain ⟨mo, hmo⟩ : ∃ mo : Nat, (mo : Int) = hi k - lo k := ⟨(hi k - lo k).toNat, by omega⟩
      have HR : Hid (wdTo lo hi (k + 1) = max (wdTo lo hi k) (Lib.bitLen mo)) := by show _ = _; rw [wdTo, show (hi k - lo k).toNat = mo by omega]
      rw [← HU.out] at HR
      generalize lo k = x at *
      generalize hi k = y at *
      have hsu : IntKind.i64.wrap (y - x) = y - x := w64 (by omega) (by omega)
      have HL9 : Hid (∀ W, Calls Tryz.prog 128 #[.int .u64 (IntKind.u64.wrap (y - x))] W fun e w' => e = .returned (.int .i64 (Lib.bitLen mo)) ∧ w' = W) := fun W => by
        rw [wrap_u (n := y - x) (by omega) (by omega)]
        have h := HBL.out (y - x) W (by omega) (by omega)
        rwa [← hmo, Int.toNat_natCast, hmo] at h
      clear l0 l2 g0 g1 g2
      go_wp2_with fail
      refine wp_region_still_tail 13 (by kernel_rfl) (by kernel_rfl) ?_
      simp only [List.take_succ_cons, List.take_zero, List.drop_succ_cons, List.drop_zero]
      iterate 10 still_step
      still_call (HL9.out _)
      iterate 2 still_step
      refine wpStill_nil ?_
      change wpList _ _ _ _ _ wr.drew
      have hrow2 : wr.drew.heap[w.heap.size + 1 + 1]? = some (.cells #[.slice (some ⟨b2, o2, none⟩) n c, .slice (some ⟨b1, o1, none⟩) n d, .int .i64 tile, .int .i64 (u : Int)] 179 (0, 0)) := hrow
      have HBr2 : Hid (Below Wb.heap.size Wb wr.drew) := Below.drew HBr.out
      clear g3 gz hrow HBr x0 y0 m0 m1 hsu
      generalize wr.drew = w5 at *
      obtain ⟨-, -, -, g3, gz⟩ := frm_row _ _ _ _ _ _ hrow2
      go_wp2
      have hmx : max (u : Int) (Lib.bitLen mo : Nat) = ((max u (Lib.bitLen mo) : Nat) : Int) := by omega
      exact ⟨⟨k + 1, max u (Lib.bitLen mo), by omega, by go_num, by rw [frm_set hrow2, hmx], HR.out.symm, HBr2.out.setCell (by show Wb.heap.size ≤ w.heap.size + 1 + 1; omega) _⟩, by simp [intOf]; omega⟩
    · obtain rfl : k = n := by omega
      go_wp2
      go_ret
      exact ⟨by rw [← HU.out]; rfl, HBw.out⟩
end Go.Proofs.YtkckoanphciddaaGreatDoor
end

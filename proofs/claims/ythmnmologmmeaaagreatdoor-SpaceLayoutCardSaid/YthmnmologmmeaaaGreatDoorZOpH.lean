/- The reference's Has. -/
import Derived.Test.YthmnmologmmeaaaGreatDoorZBxA
import Derived.Test.YthmnmologmmeaaaGreatDoorZOpZ

/- The reference's Has. -/
section
namespace Go.Proofs.YthmnmologmmeaaaGreatDoor
open Go Go.RowKit Go.Deep

set_option maxRecDepth 100000 in
set_option maxHeartbeats 4000000 in
theorem r_Has (w : World) (L H X : Option Addr) (n c m d p e : Nat) (l h v : Nat → Int) (hl : IntsAt w L n l) (hh : IntsAt w H m h) (hx : IntsAt w X p v) (hp : p ≤ 1000) (hn1 : n ≤ 1000) :
    Calls Tryz.prog 71 #[BoxW L H n c m d, .slice X p e] w fun e w' => e = .returned (.bool (hasB n m p l h v)) ∧ Below w.heap.size w w' := by
  have KB := Lib.hid (box_two w (.slice L n c) (.slice H m d) 66)
  have HB : Hid (Below w.heap.size w (w.alloc (.cells #[.slice L n c, .slice H m d] 66))) := (Below.refl _ _).alloc (Nat.le_refl _) _
  have HF := Lib.hid (r_formed (w.alloc (.cells #[.slice L n c, .slice H m d] 66)) L H n c m d)
  have HL := Lib.hid hl
  have HH := Lib.hid hh
  have HX := Lib.hid hx
  have HBe := Lib.hid r_below
  obtain ⟨ve, hve⟩ : ∃ ve, hasB n m p l h v = ve := ⟨_, rfl⟩
  rw [hve]
  have HV : Hid (ve = (formB n m && (p == n && hasTo l h v n))) := hve.symm
  clear hl hh hx hve
  go_enter Tryz.func71, Tryz.ntmps71
  obtain ⟨m0, m1⟩ := KB.out _ (Below.refl _ _)
  go_wp2_with fail
  clear m0 m1
  generalize w.alloc (.cells #[.slice L n c, .slice H m d] 66) = W0 at *
  refine HF.out.mono ?_
  rintro e w1 ⟨rfl, hb1⟩
  have HB1 := Lib.hid hb1
  clear hb1 HF
  obtain ⟨m0, m1⟩ := KB.out w1 HB1.out
  cases hf : formB n m
  · have HE : Hid (ve = false) := by show _ = _; rw [HV.out, hf]; rfl
    go_wp2
    go_ret
    exact ⟨by rw [HE.out]; rfl, st HB.out HB1.out⟩
  · obtain ⟨rfl, h1, h4⟩ := formB_ok hf
    have HV2 : Hid (ve = (p == n && hasTo l h v n)) := by show _ = _; rw [HV.out, hf, Bool.true_and]
    clear hf HV
    by_cases hpn : p = n
    · subst hpn
      have HV3 : Hid (ve = hasTo l h v p) := by show _ = _; rw [HV2.out, beq_self_eq_true, Bool.true_and]
      clear HV2
      go_wp2
      clear m0 m1
      go_loopw [5] (fun i wr => ∃ k : Nat, k ≤ p ∧ i = .int .i64 k ∧ Hid (hasTo l h v k = true) ∧ Hid (Below W0.heap.size W0 wr)) (fun i _ => p - (intOf i).toNat)
      case atStart => exact ⟨0, Nat.zero_le _, rfl, rfl, HB1.out⟩
      case round =>
        obtain ⟨k, hk, rfl, HK, HBw⟩ := hrel
        by_cases hlt : k < p
        · obtain ⟨m0, m1⟩ := KB.out wr HBw.out
          have HBB : Hid (Below w.heap.size w wr) := st HB.out HBw.out
          obtain ⟨b1, o1, rfl, _, hc1⟩ := (HL.out.below HBB.out) (by omega)
          have x0 := hc1 k hlt
          obtain ⟨b2, o2, rfl, _, hc2⟩ := (HH.out.below HBB.out) (by omega)
          have y0 := hc2 k hlt
          obtain ⟨b3, o3, rfl, _, hc3⟩ := (HX.out.below HBB.out) (by omega)
          have z0 := hc3 k hlt
          clear hc1 hc2 hc3
          have HS : Hid (hasTo l h v (k + 1) = (decide (l k ≤ v k) && belB (v k) (h k))) := by show _ = _; rw [hasTo, HK.out, Bool.true_and]
          have HFf : Hid ((decide (l k ≤ v k) && belB (v k) (h k)) = false → ve = false) := fun h9 => by rw [HV3.out]; exact hasTo_le (k := k + 1) (by rw [HS.out, h9]) (by omega)
          have HBk := Lib.hid (HBe.out (v k) (h k))
          generalize l k = x at *
          generalize h k = y at *
          generalize v k = z at *
          by_cases g1 : z < x
          · have HR := Lib.hid (HFf.out (by rw [decide_eq_false (by omega)]; rfl))
            go_wp2
            go_quiet (fail)
            go_wp2
            go_ret
            exact ⟨by rw [HR.out]; rfl, drewB HBB.out _⟩
          · have r1 : decide (z < x) = ltC z x := rfl
            have a1 : ltC z x = false := decide_eq_false g1
            have HCC : Hid (∀ W, W = wr ∨ W = wr.drew → W.cell? ⟨b1, o1 + k, none⟩ = some (.int .i64 x) ∧ W.cell? ⟨b2, o2 + k, none⟩ = some (.int .i64 y) ∧ W.cell? ⟨b3, o3 + k, none⟩ = some (.int .i64 z) ∧ W.cell? ⟨w.heap.size, 0, none⟩ = some (.slice (some ⟨b1, o1, none⟩) p c) ∧ W.cell? ⟨w.heap.size, 1, none⟩ = some (.slice (some ⟨b2, o2, none⟩) p d)) := fun W hW => by
              rcases hW with rfl | rfl
              · exact ⟨x0, y0, z0, m0, m1⟩
              · exact ⟨x0, y0, z0, m0, m1⟩
            rw [decide_eq_true (by omega : x ≤ z), Bool.true_and] at HS HFf
            cases hbz : belB z y
            · rw [hbz] at HBk
              have HR := Lib.hid (HFf.out hbz)
              clear hbz
              go_wp2_with fail
              go_region_held3 (fun W => W.cell? ⟨b1, o1 + k, none⟩ = some (.int .i64 x) ∧ W.cell? ⟨b2, o2 + k, none⟩ = some (.int .i64 y) ∧ W.cell? ⟨b3, o3 + k, none⟩ = some (.int .i64 z) ∧ W.cell? ⟨w.heap.size, 0, none⟩ = some (.slice (some ⟨b1, o1, none⟩) p c) ∧ W.cell? ⟨w.heap.size, 1, none⟩ = some (.slice (some ⟨b2, o2, none⟩) p d))
                (first | exact HCC.out _ (Or.inl rfl) | exact HCC.out _ (Or.inr rfl))
                (first
                  | (go_at_call 114; refine (HBk.out _).mono ?_; rintro e w2 ⟨rfl, rfl⟩))
              all_goals
                go_wp2
                go_ret
                exact ⟨by rw [HR.out]; rfl, Below.drew HBB.out⟩
            · rw [hbz] at HBk HS
              clear hbz
              go_wp2_with fail
              go_region_held3 (fun W => W.cell? ⟨b1, o1 + k, none⟩ = some (.int .i64 x) ∧ W.cell? ⟨b2, o2 + k, none⟩ = some (.int .i64 y) ∧ W.cell? ⟨b3, o3 + k, none⟩ = some (.int .i64 z) ∧ W.cell? ⟨w.heap.size, 0, none⟩ = some (.slice (some ⟨b1, o1, none⟩) p c) ∧ W.cell? ⟨w.heap.size, 1, none⟩ = some (.slice (some ⟨b2, o2, none⟩) p d))
                (first | exact HCC.out _ (Or.inl rfl) | exact HCC.out _ (Or.inr rfl))
                (first
                  | (go_at_call 114; refine (HBk.out _).mono ?_; rintro e w2 ⟨rfl, rfl⟩))
              all_goals
                go_wp2
                go_roundw
                case rel => exact ⟨k + 1, by omega, by go_num, HS.out, Below.drew HBw.out⟩
                case measure => simp [intOf]; omega
        · obtain rfl : k = p := by omega
          go_wp2
          go_ret
          exact ⟨by rw [HV3.out, HK.out]; rfl, st HB.out HBw.out⟩
    · have HE : Hid (ve = false) := by show _ = _; rw [HV2.out, beq_false_of_ne hpn, Bool.false_and]
      have h5 : ((p : Int) != (n : Int)) = true := by rw [bne_iff_ne]; omega
      clear hpn
      go_wp2
      go_ret
      exact ⟨by rw [HE.out]; rfl, st HB.out HB1.out⟩
end Go.Proofs.YthmnmologmmeaaaGreatDoor
end

/- Operations of a region: a call with three arguments, its results, a layout out of its box, a new box. -/
section
namespace Go.Proofs.YthmnmologmmeaaaGreatDoor
open Go Go.RowKit Go.Deep

section
variable {ops : Array Oper} {Q : Exit → Act → World → Prop} {K : Act → World → Prop} {a : Act} {w : World}
theorem op_T3 {o : Oper} {d t1 t2 t3 g : Nat} {s1 s2 s3 : Value} {tys : Array TypeId} (ho : o.op = .call { callee := .value (.func g), args := #[.tmp t1, .tmp t2, .tmp t3], argTypes := tys }) (hd : o.dst = some d) (h1 : slot a t1 = s1) (h2 : slot a t2 = s2) (h3 : slot a t3 = s3)
    (he : ∀ args w, (callFunc g args).run Tryz.prog w = .ok (.enter g args) w) (h : Calls Tryz.prog g #[s1, s2, s3] w fun e w' => ∃ v, e = .returned v ∧ K (putSlot a d v) w') : o.wp Tryz.prog a w K Q := by
  obtain ⟨op, dst, ty, pos, after, guard⟩ := o
  dsimp only at ho hd
  subst ho hd
  have h1' : a.tmps[t1]?.getD undef = s1 := h1
  have h2' : a.tmps[t2]?.getD undef = s2 := h2
  have h3' : a.tmps[t3]?.getD undef = s3 := h3
  have he' := he #[s1, s2, s3] w
  unfold Oper.wp
  go_simp
  exact h.mono fun e w' ⟨v, h1, h2⟩ => by subst h1; exact h2
set_option maxRecDepth 100000 in
theorem op_ex0 {o : Oper} {d t : Nat} {x y : Value} (ho : o.op = .extract (.tmp t) 0) (hd : o.dst = some d) (hs : slot a t = .tuple #[x, y]) (h : K (putSlot a d x) w) : o.wp Tryz.prog a w K Q := by
  obtain ⟨op, dst, ty, pos, after, guard⟩ := o
  dsimp only at ho hd
  subst ho hd
  have hs' : a.tmps[t]?.getD undef = .tuple #[x, y] := hs
  unfold Oper.wp
  go_simp
  exact h
set_option maxRecDepth 100000 in
theorem op_ex1 {o : Oper} {d t : Nat} {x y : Value} (ho : o.op = .extract (.tmp t) 1) (hd : o.dst = some d) (hs : slot a t = .tuple #[x, y]) (h : K (putSlot a d y) w) : o.wp Tryz.prog a w K Q := by
  obtain ⟨op, dst, ty, pos, after, guard⟩ := o
  dsimp only at ho hd
  subst ho hd
  have hs' : a.tmps[t]?.getD undef = .tuple #[x, y] := hs
  unfold Oper.wp
  go_simp
  exact h
set_option maxRecDepth 100000 in
theorem op_ldY {o : Oper} {d t b : Nat} {S O : Option Addr} {s sc oo oc : Nat} {ord tile form codec : Int} (ho : o.op = .load 54 (.tmp t)) (hd : o.dst = some d) (hs : slot a t = .pointer (some ⟨b, 0, none⟩))
    (hc : w.cell? ⟨b, 0, none⟩ = some (.slice S s sc) ∧ w.cell? ⟨b, 1, none⟩ = some (.slice O oo oc) ∧ w.cell? ⟨b, 2, none⟩ = some (.int .i64 ord) ∧ w.cell? ⟨b, 3, none⟩ = some (.int .i64 tile) ∧ w.cell? ⟨b, 4, none⟩ = some (.int .i64 form) ∧ w.cell? ⟨b, 5, none⟩ = some (.int .i64 codec))
    (h : K (putSlot a d (LayV S s sc O oo oc ord tile form codec)) w) : o.wp Tryz.prog a w K Q := by
  obtain ⟨op, dst, ty, pos, after, guard⟩ := o
  dsimp only at ho hd
  subst ho hd
  have hs' : a.tmps[t]?.getD undef = .pointer (some ⟨b, 0, none⟩) := hs
  obtain ⟨c0, c1, c2, c3, c4, c5⟩ := hc
  unfold Oper.wp
  go_simp
  exact h
set_option maxRecDepth 100000 in
theorem op_alX {o : Oper} {d : Nat} (ho : o.op = .alloc 66) (hd : o.dst = some d) (h : K (putSlot a d (.pointer (some ⟨w.heap.size, 0, none⟩))) (w.alloc (.cells #[.slice none 0 0, .slice none 0 0] 66))) : o.wp Tryz.prog a w K Q := by
  obtain ⟨op, dst, ty, pos, after, guard⟩ := o
  dsimp only at ho hd
  subst ho hd
  unfold Oper.wp
  go_simp
  exact h
end
/-- What Wide says, as a value: a box with k bounds and an error. -/
def WidK (k : Nat) (E : Int) (g h : Nat → Int) : Value → World → Prop := fun v W => ∃ L H c1 c2, v = .tuple #[.agg #[.slice L k c1, .slice H k c2], .int .i64 E] ∧ IntsAt W L k g ∧ IntsAt W H k h
theorem widK_mono (k : Nat) (E : Int) (g h : Nat → Int) : Mono (WidK k E g h) := by
  rintro v w w' ⟨L, H, c1, c2, h1, h2, h3⟩ hb; exact ⟨L, H, c1, c2, h1, h2.below hb, h3.below hb⟩
def BoxK (k : Nat) (g h : Nat → Int) : Value → World → Prop := fun v W => ∃ L H c1 c2, v = .agg #[.slice L k c1, .slice H k c2] ∧ IntsAt W L k g ∧ IntsAt W H k h
theorem boxK_mono (k : Nat) (g h : Nat → Int) : Mono (BoxK k g h) := by
  rintro v w w' ⟨L, H, c1, c2, h1, h2, h3⟩ hb; exact ⟨L, H, c1, c2, h1, h2.below hb, h3.below hb⟩
/-- A new box, in a block from B on. -/
def NewB (B : Nat) : Value → World → Prop := fun v W => ∃ b, v = .pointer (some ⟨b, 0, none⟩) ∧ B ≤ b ∧ W.heap[b]? = some (.cells #[.slice none 0 0, .slice none 0 0] 66 (0, 0))
theorem newB_mono (B : Nat) : Mono (NewB B) := by
  rintro v w w' ⟨b, h1, h2, h3⟩ hb; exact ⟨b, h1, h2, (hb.block b (Array.getElem?_eq_some_iff.1 h3).1).trans h3⟩
theorem ints_setB {w : World} {b n i : Nat} {A : Option Addr} {f : Nat → Int} {x y u : Value} {p q : Option Addr} {m c m' c' : Nat} (h : IntsAt w A n f) (hb : w.heap[b]? = some (.cells #[x, y] 66 (0, 0))) (hx : x = .slice p m c) (hy : y = .slice q m' c') : IntsAt (w.setCell ⟨b, i, none⟩ u) A n f := fun hn => by
  obtain ⟨b', o, rfl, h1, h2⟩ := h hn
  have hne : b' ≠ b := fun e => by
    have h3 := h2 0 hn
    subst e hx hy
    simp only [World.cell?, hb] at h3
    rw [Nat.add_zero] at h3
    match o, h3 with
    | 0, h3 => simp at h3
    | 1, h3 => simp at h3
    | o + 2, h3 => simp at h3
  refine ⟨b', o, rfl, by simpa [World.setCell] using h1, fun k hk => ?_⟩
  rw [cell_blk (blk_setCell_other _ _ _ _ (by show b' ≠ b; exact hne))]
  exact h2 k hk
end Go.Proofs.YthmnmologmmeaaaGreatDoor
end

/- The driver's and the reference's comparisons of integers, boxes, lists. -/
import Derived.Test.YtmhggphkhabjlaaGreatDoorZSpG
import Derived.Test.YtmhggphkhabjlaaGreatDoorShelf

/- The driver's and the reference's comparisons of integers, boxes, lists. -/
section
namespace Go.Proofs.YtmhggphkhabjlaaGreatDoor
open Go Go.RowKit Go.Deep

/-- Are the first k numbers alike? -/
def eqTo (f g : Nat → Int) : Nat → Bool
  | 0 => true
  | k + 1 => eqTo f g k && (f k == g k)
theorem eqTo_le {f g : Nat → Int} {k n : Nat} (h : eqTo f g k = false) (hn : k ≤ n) : eqTo f g n = false := by
  induction n with
  | zero => obtain rfl : k = 0 := by omega
            exact h
  | succ n ih =>
    by_cases e : k = n + 1
    · rw [← e]; exact h
    · rw [eqTo, ih (by omega)]; rfl
theorem eqTo_iff {f g : Nat → Int} {n : Nat} : eqTo f g n = true ↔ ∀ k, k < n → f k = g k := by
  induction n with
  | zero => exact ⟨fun _ k hk => absurd hk (by omega), fun _ => rfl⟩
  | succ n ih =>
    rw [eqTo, Bool.and_eq_true, ih, beq_iff_eq]
    refine ⟨fun h k hk => ?_, fun h => ⟨fun k hk => h k (by omega), h n (by omega)⟩⟩
    by_cases e : k = n
    · rw [e]; exact h.2
    · exact h.1 k (by omega)
def sameZ (n m : Nat) (f g : Nat → Int) : Bool := n == m && eqTo f g n

theorem drewB {B : Nat} {a w : World} (h : Below B a w) (n : Nat) : Below B a (w.drewN n) := ⟨h.os, h.tape, h.output, h.size, h.block⟩
set_option maxRecDepth 100000 in
set_option maxHeartbeats 2000000 in
theorem s_SameInts (w : World) (A B : Option Addr) (n c m d : Nat) (f g : Nat → Int) (ha : IntsAt w A n f) (hb : IntsAt w B m g) (hn : n ≤ 1000000) (hm : m ≤ 1000000) :
    Calls Tryz.prog 22 #[.slice A n c, .slice B m d] w fun e w' => e = .returned (.bool (sameZ n m f g)) ∧ Below w.heap.size w w' := by
  have HA := Lib.hid ha
  have HB := Lib.hid hb
  obtain ⟨ve, hve⟩ : ∃ ve, sameZ n m f g = ve := ⟨_, rfl⟩
  rw [hve]
  have HV := Lib.hid hve
  clear ha hb hve
  by_cases h0 : n = m
  · subst h0
    have HE : Hid (ve = eqTo f g n) := by show _ = _; rw [← HV.out, sameZ, beq_self_eq_true, Bool.true_and]
    go_enter Tryz.func22, Tryz.ntmps22
    go_wp2
    go_loopw [5] (fun i wr => ∃ k : Nat, k ≤ n ∧ i = .int .i64 k ∧ Hid (eqTo f g k = true) ∧ Hid (Below w.heap.size w wr)) (fun i _ => n - (intOf i).toNat)
    case atStart => exact ⟨0, Nat.zero_le _, rfl, rfl, Below.refl _ _⟩
    case round =>
      obtain ⟨k, hk, rfl, HK, HBw⟩ := hrel
      by_cases hlt : k < n
      · obtain ⟨b1, o1, rfl, _, hc1⟩ := (HA.out.below HBw.out) (by omega)
        have x0 := hc1 k hlt
        obtain ⟨b2, o2, rfl, _, hc2⟩ := (HB.out.below HBw.out) (by omega)
        have y0 := hc2 k hlt
        clear hc1 hc2
        have HS : Hid (eqTo f g (k + 1) = (f k == g k)) := by show _ = _; rw [eqTo, HK.out, Bool.true_and]
        by_cases he : f k = g k
        · rw [he, beq_self_eq_true] at HS
          rw [he] at x0
          clear he
          generalize g k = y at *
          go_wp2
          go_quiet (fail)
          go_wp2
          go_roundw
          case rel => exact ⟨k + 1, by omega, by go_num, HS, drewB HBw.out _⟩
          case measure => simp [intOf]; omega
        · have h1 : (f k != g k) = true := by rw [bne_iff_ne]; exact he
          have HF : Hid (ve = false) := by
            show _ = _
            rw [HE.out]
            exact eqTo_le (k := k + 1) (by rw [HS.out, beq_eq_false_iff_ne]; exact he) (by omega)
          clear he HS
          generalize f k = x at *
          generalize g k = y at *
          go_wp2
          go_quiet (fail)
          go_wp2
          go_ret
          exact ⟨by rw [HF.out]; rfl, drewB HBw.out _⟩
      · obtain rfl : k = n := by omega
        go_wp2
        go_ret
        exact ⟨by rw [HE.out, HK.out]; rfl, HBw.out⟩
  · have HE : Hid (ve = false) := by show _ = _; rw [← HV.out, sameZ, beq_false_of_ne h0, Bool.false_and]
    have h1 : ((n : Int) != (m : Int)) = true := by rw [bne_iff_ne]; omega
    go_enter Tryz.func22, Tryz.ntmps22
    go_wp2
    go_ret
    exact ⟨by rw [HE.out]; rfl, Below.refl _ _⟩

abbrev BoxW (l h : Option Addr) (n c m d : Nat) : Value := .agg #[.slice l n c, .slice h m d]
theorem box_two (w : World) (l h : Value) (t : TypeId) (W : World) (hW : Below (w.alloc (.cells #[l, h] t)).heap.size (w.alloc (.cells #[l, h] t)) W) : W.cell? ⟨w.heap.size, 0, none⟩ = some l ∧ W.cell? ⟨w.heap.size, 1, none⟩ = some h := by
  have hb := (hW.block w.heap.size (by simp)).trans (heap_alloc_new w (.cells #[l, h] t))
  exact ⟨by rw [cell_of_row _ _ _ _ _ _ hb]; rfl, by rw [cell_of_row _ _ _ _ _ _ hb]; rfl⟩
set_option maxRecDepth 100000 in
set_option maxHeartbeats 2000000 in
theorem s_SameBox (w : World) (A B C D : Option Addr) (n c m d p cp q cq : Nat) (f g f' g' : Nat → Int) (ha : IntsAt w A n f) (hb : IntsAt w B m f') (hc : IntsAt w C p g) (hd : IntsAt w D q g') (hn : n ≤ 1000000) (hm : m ≤ 1000000) (hp : p ≤ 1000000) (hq : q ≤ 1000000) :
    Calls Tryz.prog 25 #[BoxW A B n c m d, BoxW C D p cp q cq] w fun e w' => e = .returned (.bool (sameZ n p f g && sameZ m q f' g')) ∧ Below w.heap.size w w' := by
  have HI1 : Hid (∀ W, Below w.heap.size w W → Calls Tryz.prog 22 #[.slice A n c, .slice C p cp] W fun e w' => e = .returned (.bool (sameZ n p f g)) ∧ Below W.heap.size W w') := fun W hW => s_SameInts W A C n c p cp f g (ha.below hW) (hc.below hW) hn hp
  have HI2 : Hid (∀ W, Below w.heap.size w W → Calls Tryz.prog 22 #[.slice B m d, .slice D q cq] W fun e w' => e = .returned (.bool (sameZ m q f' g')) ∧ Below W.heap.size W w') := fun W hW => s_SameInts W B D m d q cq f' g' (hb.below hW) (hd.below hW) hm hq
  have HB : Hid (Below w.heap.size w (w.alloc (.cells #[.slice A n c, .slice B m d] 41))) := (Below.refl _ _).alloc (Nat.le_refl _) _
  have HB2 : Hid (Below w.heap.size w ((w.alloc (.cells #[.slice A n c, .slice B m d] 41)).alloc (.cells #[.slice C p cp, .slice D q cq] 41))) := HB.out.alloc (by simp) _
  have K1 := Lib.hid (box_two w (.slice A n c) (.slice B m d) 41)
  have K2 := Lib.hid (box_two (w.alloc (.cells #[.slice A n c, .slice B m d] 41)) (.slice C p cp) (.slice D q cq) 41)
  have hz : (w.alloc (.cells #[.slice A n c, .slice B m d] 41)).heap.size = w.heap.size + 1 := by simp
  clear ha hb hc hd
  generalize sameZ n p f g = r1 at *
  generalize sameZ m q f' g' = r2 at *
  have KK : Hid (∀ W, Below ((w.alloc (.cells #[.slice A n c, .slice B m d] 41)).alloc (.cells #[.slice C p cp, .slice D q cq] 41)).heap.size ((w.alloc (.cells #[.slice A n c, .slice B m d] 41)).alloc (.cells #[.slice C p cp, .slice D q cq] 41)) W → (W.cell? ⟨w.heap.size, 0, none⟩ = some (.slice A n c) ∧ W.cell? ⟨w.heap.size, 1, none⟩ = some (.slice B m d)) ∧ (W.cell? ⟨w.heap.size + 1, 0, none⟩ = some (.slice C p cp) ∧ W.cell? ⟨w.heap.size + 1, 1, none⟩ = some (.slice D q cq))) := fun W hW => by
    refine ⟨K1.out W (Below.trans ((Below.refl _ _).alloc (Nat.le_refl _) _) (hW.mono (by simp))), ?_⟩
    have := K2.out W hW
    rwa [hz] at this
  clear K1 K2 HB
  go_enter Tryz.func25, Tryz.ntmps25
  go_wp2_with fail
  generalize (w.alloc (.cells #[.slice A n c, .slice B m d] 41)).alloc (.cells #[.slice C p cp, .slice D q cq] 41) = W0 at *
  obtain ⟨⟨l0, l1⟩, l2, l3⟩ := KK.out W0 (Below.refl _ _)
  cases r1
  · go_wp2_with (first
      | (go_at_call_of 22 (Value.slice A n c); refine (HI1.out _ HB2.out).mono ?_; rintro e w1 ⟨rfl, hb1⟩))
    go_ret
    exact ⟨rfl, st HB2.out hb1⟩
  · cases r2 <;>
    · go_wp2_with (first
        | (go_at_call_of 22 (Value.slice A n c); refine (HI1.out _ HB2.out).mono ?_; rintro e w1 ⟨rfl, hb1⟩; obtain ⟨⟨l0, l1⟩, l2, l3⟩ := KK.out w1 hb1)
        | (go_at_call_of 22 (Value.slice B m d); refine (HI2.out _ (st HB2.out hb1)).mono ?_; rintro e w2 ⟨rfl, hb2⟩))
      go_ret
      exact ⟨rfl, st (st HB2.out hb1) hb2⟩

/-- A list of lists of integers. -/
def ListsAt (w : World) (A : Option Addr) (n : Nat) (ln : Nat → Nat) (f : Nat → Nat → Int) : Prop :=
  0 < n → ∃ b o, A = some ⟨b, o, none⟩ ∧ b < w.heap.size ∧ ∀ k, k < n → ∃ P c, w.cell? ⟨b, o + k, none⟩ = some (.slice P (ln k) c) ∧ IntsAt w P (ln k) (f k) ∧ ln k ≤ 1000000
theorem ListsAt.below {w w' : World} {A : Option Addr} {n : Nat} {ln : Nat → Nat} {f : Nat → Nat → Int} (h : ListsAt w A n ln f) (hb : Below w.heap.size w w') : ListsAt w' A n ln f := fun hn => by
  obtain ⟨b, o, h1, h2, h3⟩ := h hn
  refine ⟨b, o, h1, Nat.lt_of_lt_of_le h2 hb.size, fun k hk => ?_⟩
  obtain ⟨P, c, h4, h5, h6⟩ := h3 k hk
  exact ⟨P, c, (hb.cell (p := ⟨b, o + k, none⟩) h2).trans h4, h5.below hb, h6⟩
def listsTo (la lb : Nat → Nat) (f g : Nat → Nat → Int) : Nat → Bool
  | 0 => true
  | k + 1 => listsTo la lb f g k && sameZ (la k) (lb k) (f k) (g k)
theorem listsTo_le {la lb : Nat → Nat} {f g : Nat → Nat → Int} {k n : Nat} (h : listsTo la lb f g k = false) (hn : k ≤ n) : listsTo la lb f g n = false := by
  induction n with
  | zero => obtain rfl : k = 0 := by omega
            exact h
  | succ n ih =>
    by_cases e : k = n + 1
    · rw [← e]; exact h
    · rw [listsTo, ih (by omega)]; rfl
def sameL (n m : Nat) (la lb : Nat → Nat) (f g : Nat → Nat → Int) : Bool := n == m && listsTo la lb f g n

set_option maxRecDepth 100000 in
set_option maxHeartbeats 2000000 in
theorem s_same (w : World) (A B : Option Addr) (n c m d : Nat) (la lb : Nat → Nat) (f g : Nat → Nat → Int) (ha : ListsAt w A n la f) (hb : ListsAt w B m lb g) (hn : n ≤ 1000000) (hm : m ≤ 1000000) :
    Calls Tryz.prog 35 #[.slice A n c, .slice B m d] w fun e w' => e = .returned (.bool (sameL n m la lb f g)) ∧ Below w.heap.size w w' := by
  have HA := Lib.hid ha
  have HB := Lib.hid hb
  have HSI := Lib.hid s_SameInts
  obtain ⟨ve, hve⟩ : ∃ ve, sameL n m la lb f g = ve := ⟨_, rfl⟩
  rw [hve]
  have HV := Lib.hid hve
  clear ha hb hve
  by_cases h0 : n = m
  · subst h0
    have HE : Hid (ve = listsTo la lb f g n) := by show _ = _; rw [← HV.out, sameL, beq_self_eq_true, Bool.true_and]
    go_enter Tryz.func35, Tryz.ntmps35
    go_wp2
    go_loopw [5] (fun i wr => ∃ k : Nat, k ≤ n ∧ i = .int .i64 k ∧ Hid (listsTo la lb f g k = true) ∧ Hid (Below w.heap.size w wr)) (fun i _ => n - (intOf i).toNat)
    case atStart => exact ⟨0, Nat.zero_le _, rfl, rfl, Below.refl _ _⟩
    case round =>
      obtain ⟨k, hk, rfl, HK, HBw⟩ := hrel
      by_cases hlt : k < n
      · obtain ⟨b1, o1, rfl, hl1, hc1⟩ := (HA.out.below HBw.out) (by omega)
        obtain ⟨P, cp, x0, hP, hl⟩ := hc1 k hlt
        obtain ⟨b2, o2, rfl, hl2, hc2⟩ := (HB.out.below HBw.out) (by omega)
        obtain ⟨Q, cq, y0, hQ, hl'⟩ := hc2 k hlt
        clear hc1 hc2
        have HS : Hid (listsTo la lb f g (k + 1) = sameZ (la k) (lb k) (f k) (g k)) := by show _ = _; rw [listsTo, HK.out, Bool.true_and]
        have HI : Hid (∀ W, Below wr.heap.size wr W → Calls Tryz.prog 22 #[.slice P (la k) cp, .slice Q (lb k) cq] W fun e w' => e = .returned (.bool (sameZ (la k) (lb k) (f k) (g k))) ∧ Below W.heap.size W w') := fun W hW => HSI.out W P Q _ cp _ cq _ _ (hP.below hW) (hQ.below hW) hl hl'
        have HC : Hid (∀ W, Below wr.heap.size wr W → W.cell? ⟨b1, o1 + k, none⟩ = some (.slice P (la k) cp) ∧ W.cell? ⟨b2, o2 + k, none⟩ = some (.slice Q (lb k) cq)) := fun W hW => ⟨(hW.cell (p := ⟨b1, o1 + k, none⟩) hl1).trans x0, (hW.cell (p := ⟨b2, o2 + k, none⟩) hl2).trans y0⟩
        clear hP hQ hl hl'
        generalize sameZ (la k) (lb k) (f k) (g k) = rs at *
        have B0d : Below wr.heap.size wr wr.drew := Below.drew (Below.refl _ _)
        cases rs
        · have HF : Hid (ve = false) := by
            show _ = _
            rw [HE.out]
            exact listsTo_le (k := k + 1) HS.out (by omega)
          go_wp2_with fail
          go_region_held3 (fun W => W.cell? ⟨b1, o1 + k, none⟩ = some (.slice P (la k) cp) ∧ W.cell? ⟨b2, o2 + k, none⟩ = some (.slice Q (lb k) cq))
            (first | exact HC.out _ B1 | exact HC.out _ B0d | exact HC.out _ (Below.refl _ _))
            (first
              | (go_at_call 22; refine (HI.out _ B0d).mono ?_; rintro e w1 ⟨rfl, hb1⟩; have B1 : Below wr.heap.size wr w1 := st B0d hb1))
          all_goals
            go_wp2
            go_ret
            exact ⟨by rw [HF.out]; rfl, st HBw.out B1⟩
        · go_wp2_with fail
          go_region_held3 (fun W => W.cell? ⟨b1, o1 + k, none⟩ = some (.slice P (la k) cp) ∧ W.cell? ⟨b2, o2 + k, none⟩ = some (.slice Q (lb k) cq))
            (first | exact HC.out _ B1 | exact HC.out _ B0d | exact HC.out _ (Below.refl _ _))
            (first
              | (go_at_call 22; refine (HI.out _ B0d).mono ?_; rintro e w1 ⟨rfl, hb1⟩; have B1 : Below wr.heap.size wr w1 := st B0d hb1))
          all_goals
            go_wp2
            go_roundw
            case rel => exact ⟨k + 1, by omega, by go_num, HS, st HBw.out B1⟩
            case measure => simp [intOf]; omega
      · obtain rfl : k = n := by omega
        go_wp2
        go_ret
        exact ⟨by rw [HE.out, HK.out]; rfl, HBw.out⟩
  · have HE : Hid (ve = false) := by show _ = _; rw [← HV.out, sameL, beq_false_of_ne h0, Bool.false_and]
    have h1 : ((n : Int) != (m : Int)) = true := by rw [bne_iff_ne]; omega
    go_enter Tryz.func35, Tryz.ntmps35
    go_wp2
    go_ret
    exact ⟨by rw [HE.out]; rfl, Below.refl _ _⟩
end Go.Proofs.YtmhggphkhabjlaaGreatDoor
end

/- Coordinates compared. -/
section
namespace Go.Proofs.YtmhggphkhabjlaaGreatDoor
open Go Go.RowKit Go.Deep

/-- The comparison of the first k numbers: 0 where all are alike and there; else that of the first ones that are not. -/
def cmpTo (f g : Nat → Int) (m : Nat) : Nat → Int
  | 0 => 0
  | k + 1 => if cmpTo f g m k = 0 then (if m ≤ k then 1 else Lib.compareInt (f k) (g k)) else cmpTo f g m k
theorem cmpTo_le {f g : Nat → Int} {m k n : Nat} (h : cmpTo f g m k ≠ 0) (hn : k ≤ n) : cmpTo f g m n = cmpTo f g m k := by
  induction n with
  | zero => obtain rfl : k = 0 := by omega
            rfl
  | succ n ih =>
    by_cases e : k = n + 1
    · rw [e]
    · rw [cmpTo, if_neg (by rw [ih (by omega)]; exact h), ih (by omega)]
def cmpS (n m : Nat) (f g : Nat → Int) : Int := if cmpTo f g m n = 0 then (if n < m then -1 else 0) else cmpTo f g m n

set_option maxRecDepth 100000 in
set_option maxHeartbeats 2000000 in
theorem c_compareS (w : World) (A B : Option Addr) (n c m d : Nat) (f g : Nat → Int) (ha : IntsAt w A n f) (hb : IntsAt w B m g) (hn : n ≤ 1000000) (hm : m ≤ 1000000) :
    Calls Tryz.prog 72 #[.slice A n c, .slice B m d] w fun e w' => e = .returned (.int .i64 (cmpS n m f g)) ∧ w' = w := by
  have HA := Lib.hid ha
  have HB := Lib.hid hb
  have HC := Lib.hid Tryz.cmp_Compare_int
  obtain ⟨ve, hve⟩ : ∃ ve, cmpS n m f g = ve := ⟨_, rfl⟩
  rw [hve]
  have HV : Hid (ve = if cmpTo f g m n = 0 then (if n < m then -1 else 0) else cmpTo f g m n) := hve.symm
  clear ha hb hve
  go_enter Tryz.func72, Tryz.ntmps72
  go_wp2
  go_loopw [5, 6, 7, 8, 11] (fun _ _ _ _ i wr => ∃ k : Nat, k ≤ n ∧ i = .int .i64 k ∧ Hid (cmpTo f g m k = 0) ∧ wr = w) (fun _ _ _ _ i _ => n - (intOf i).toNat)
  case atStart => exact ⟨0, Nat.zero_le _, rfl, rfl, rfl⟩
  case round =>
    obtain ⟨k, hk, rfl, HK, rfl⟩ := hrel
    by_cases hlt : k < n
    · obtain ⟨b1, o1, rfl, _, hc1⟩ := HA.out (by omega)
      have x0 := hc1 k hlt
      clear hc1
      have HS : Hid (cmpTo f g m (k + 1) = if m ≤ k then 1 else Lib.compareInt (f k) (g k)) := by show _ = _; rw [cmpTo, if_pos HK.out]
      by_cases hmk : m ≤ k
      · have HF : Hid (ve = 1) := by
          show _ = _
          have h1 : cmpTo f g m (k + 1) = 1 := by rw [HS.out, if_pos hmk]
          rw [HV.out, cmpTo_le (k := k + 1) (by rw [h1]; decide) (by omega), h1]; rfl
        have hmk' : (m : Int) ≤ (k : Int) := by omega
        generalize f k = x at *
        go_wp2
        go_ret
        exact ⟨by rw [HF.out]; rfl, rfl⟩
      · obtain ⟨b2, o2, rfl, _, hc2⟩ := HB.out (by omega)
        have y0 := hc2 k (by omega)
        clear hc2
        rw [if_neg hmk] at HS
        have HE : Hid (Lib.compareInt (f k) (g k) ≠ 0 → ve = Lib.compareInt (f k) (g k)) := fun h => by
          have h1 := cmpTo_le (f := f) (g := g) (m := m) (k := k + 1) (n := n) (by rw [HS.out]; exact h) (by omega)
          rw [HV.out, h1, HS.out, if_neg h]
        have hmk' : ¬ (m : Int) ≤ (k : Int) := by omega
        have HCk := Lib.hid (HC.out (f k) (g k))
        generalize Lib.compareInt (f k) (g k) = z at *
        generalize f k = x at *
        generalize g k = y at *
        by_cases hz : z = 0
        · subst hz
          go_wp2_with (first | (go_at_call 76; refine (HCk.out _).mono ?_; rintro e w1 ⟨rfl, rfl⟩))
          exact ⟨⟨k + 1, by omega, by go_num, HS.out, trivial⟩, by simp [intOf]; omega⟩
        · have hz1 : (z != 0) = true := by rw [bne_iff_ne]; exact hz
          have HF : Hid (ve = z) := HE.out hz
          go_wp2_with (first | (go_at_call 76; refine (HCk.out _).mono ?_; rintro e w1 ⟨rfl, rfl⟩))
          go_ret
          exact ⟨by rw [HF.out]; rfl, rfl⟩
    · obtain rfl : k = n := by omega
      rw [if_pos HK.out] at HV
      by_cases hkm : k < m
      · rw [if_pos hkm] at HV
        have hkm' : (k : Int) < (m : Int) := by omega
        go_wp2
        go_ret
        exact ⟨by rw [HV.out]; rfl, rfl⟩
      · rw [if_neg hkm] at HV
        have hkm' : ¬ (k : Int) < (m : Int) := by omega
        go_wp2
        go_ret
        exact ⟨by rw [HV.out]; rfl, rfl⟩
theorem s_Compare (w : World) (A B : Option Addr) (n c m d : Nat) (f g : Nat → Int) (ha : IntsAt w A n f) (hb : IntsAt w B m g) (hn : n ≤ 1000000) (hm : m ≤ 1000000) :
    Calls Tryz.prog 42 #[.slice A n c, .slice B m d] w fun e w' => e = .returned (.int .i64 (cmpS n m f g)) ∧ w' = w := by
  have H := Lib.hid (c_compareS w A B n c m d f g ha hb hn hm)
  clear ha hb
  generalize cmpS n m f g = z at *
  go_enter Tryz.func42, Tryz.ntmps42
  go_wp2_with (first | (go_at_call 72; refine H.out.mono ?_; rintro e w1 ⟨rfl, rfl⟩))
  go_ret
  exact ⟨rfl, rfl⟩
end Go.Proofs.YtmhggphkhabjlaaGreatDoor
end

/- What the law of chunks asks: lists that are equal, lists among others, coordinates in a box. -/
import Derived.Test.YtkckoanphciddaaGreatDoorZCmpS
import Derived.Test.YtkckoanphciddaaGreatDoorZChM
namespace Go.Proofs.YtkckoanphciddaaGreatDoor
open Go Go.RowKit Go.Deep

set_option maxRecDepth 100000 in
set_option maxHeartbeats 2000000 in
theorem l_equal2 (w : World) (A B : Option Addr) (n c m d : Nat) (f g : Nat → Int) (ha : IntsAt w A n f) (hb : IntsAt w B m g) (hn : n ≤ 1000000) (hm : m ≤ 1000000) :
    Calls Tryz.prog 43 #[.slice A n c, .slice B m d] w fun e w' => e = .returned (.bool (sameZ n m f g)) ∧ Below w.heap.size w w' := by
  have HA := Lib.hid ha
  have HB := Lib.hid hb
  obtain ⟨ve, hve⟩ : ∃ ve, sameZ n m f g = ve := ⟨_, rfl⟩
  rw [hve]
  have HV := Lib.hid hve
  clear ha hb hve
  by_cases h0 : n = m
  · subst h0
    have HE : Hid (ve = eqTo f g n) := by show _ = _; rw [← HV.out, sameZ, beq_self_eq_true, Bool.true_and]
    go_enter Tryz.func43, Tryz.ntmps43
    go_wp2
    go_loopw [5] (fun i wr => ∃ k : Nat, k ≤ n ∧ i = .int .i64 k ∧ Hid (eqTo f g k = true) ∧ Hid (Below w.heap.size w wr)) (fun i _ => n - (intOf i).toNat)
    case atStart => exact ⟨0, Nat.zero_le _, rfl, rfl, Below.refl _ _⟩
    case round =>
      obtain ⟨k, hk, rfl, HK, HBw⟩ := hrel
      by_cases hlt : k < n
      · obtain ⟨b1, o1, rfl, _, hc1⟩ := (HA.out.below HBw.out) (by omega)
        have x0 := hc1 k hlt
        obtain ⟨b2, o2, rfl, _, hc2⟩ := (HB.out.below HBw.out) (by omega)
        have y0 := hc2 k hlt
        clear hc1 hc2
        have HS : Hid (eqTo f g (k + 1) = (f k == g k)) := by show _ = _; rw [eqTo, HK.out, Bool.true_and]
        by_cases he : f k = g k
        · rw [he, beq_self_eq_true] at HS
          rw [he] at x0
          clear he
          generalize g k = y at *
          go_wp2
          go_quiet (fail)
          go_wp2
          go_roundw
          case rel => exact ⟨k + 1, by omega, by go_num, HS, drewB HBw.out _⟩
          case measure => simp [intOf]; omega
        · have h1 : (f k != g k) = true := by rw [bne_iff_ne]; exact he
          have HF : Hid (ve = false) := by
            show _ = _
            rw [HE.out]
            exact eqTo_le (k := k + 1) (by rw [HS.out, beq_eq_false_iff_ne]; exact he) (by omega)
          clear he HS
          generalize f k = x at *
          generalize g k = y at *
          go_wp2
          go_quiet (fail)
          go_wp2
          go_ret
          exact ⟨by rw [HF.out]; rfl, drewB HBw.out _⟩
      · obtain rfl : k = n := by omega
        go_wp2
        go_ret
        exact ⟨by rw [HE.out, HK.out]; rfl, HBw.out⟩
  · have HE : Hid (ve = false) := by show _ = _; rw [← HV.out, sameZ, beq_false_of_ne h0, Bool.false_and]
    have h1 : ((n : Int) != (m : Int)) = true := by rw [bne_iff_ne]; omega
    go_enter Tryz.func43, Tryz.ntmps43
    go_wp2
    go_ret
    exact ⟨by rw [HE.out]; rfl, Below.refl _ _⟩


/-- Are the first k coordinates within the bounds? -/
def insTo (l h v : Nat → Int) : Nat → Bool
  | 0 => true
  | k + 1 => insTo l h v k && (decide (l k ≤ v k) && decide (v k ≤ h k))
theorem insTo_le {l h v : Nat → Int} {k n : Nat} (hf : insTo l h v k = false) (hn : k ≤ n) : insTo l h v n = false := by
  induction n with
  | zero => obtain rfl : k = 0 := by omega
            exact hf
  | succ n ih =>
    by_cases e : k = n + 1
    · rw [← e]; exact hf
    · rw [insTo, ih (by omega)]; rfl
theorem insTo_iff {l h v : Nat → Int} : ∀ {n : Nat}, insTo l h v n = true ↔ ∀ k, k < n → l k ≤ v k ∧ v k ≤ h k
  | 0 => ⟨fun _ k hk => absurd hk (by omega), fun _ => rfl⟩
  | n + 1 => by
    rw [insTo, Bool.and_eq_true, Bool.and_eq_true, decide_eq_true_eq, decide_eq_true_eq, insTo_iff]
    constructor
    · rintro ⟨h1, h2⟩ k hk
      by_cases e : k = n
      · rw [e]; exact h2
      · exact h1 k (by omega)
    · exact fun h1 => ⟨fun k hk => h1 k (by omega), h1 n (by omega)⟩
set_option maxRecDepth 100000 in
set_option maxHeartbeats 2000000 in
/-- inside, of a box whose bounds are as many as the coordinates. -/
theorem l_inside (w : World) (L H X : Option Addr) (n c d e : Nat) (l h v : Nat → Int) (hl : IntsAt w L n l) (hh : IntsAt w H n h) (hx : IntsAt w X n v) (hn : n ≤ 1000000) :
    Calls Tryz.prog 39 #[BoxW L H n c n d, .slice X n e] w fun e w' => e = .returned (.bool (insTo l h v n)) ∧ Below w.heap.size w w' := by
  have KB := Lib.hid (box_two w (.slice L n c) (.slice H n d) 66)
  have HB : Hid (Below w.heap.size w (w.alloc (.cells #[.slice L n c, .slice H n d] 66))) := (Below.refl _ _).alloc (Nat.le_refl _) _
  have HL := Lib.hid hl
  have HH := Lib.hid hh
  have HX := Lib.hid hx
  have hz0 : (w.alloc (.cells #[.slice L n c, .slice H n d] 66)).heap.size = w.heap.size + 1 := by simp
  obtain ⟨ve, hve⟩ : ∃ ve, insTo l h v n = ve := ⟨_, rfl⟩
  rw [hve]
  have HV := Lib.hid hve
  clear hl hh hx hve
  go_enter Tryz.func39, Tryz.ntmps39
  obtain ⟨m0, m1⟩ := KB.out _ (Below.refl _ _)
  go_wp2
  clear m0 m1
  generalize w.alloc (.cells #[.slice L n c, .slice H n d] 66) = W0 at *
  go_loopw [5] (fun i wr => ∃ k : Nat, k ≤ n ∧ i = .int .i64 k ∧ Hid (insTo l h v k = true) ∧ Hid (Below W0.heap.size W0 wr)) (fun i _ => n - (intOf i).toNat)
  case atStart => exact ⟨0, Nat.zero_le _, rfl, rfl, Below.refl _ _⟩
  case round =>
    obtain ⟨k, hk, rfl, HK, HBw⟩ := hrel
    by_cases hlt : k < n
    · obtain ⟨m0, m1⟩ := KB.out wr HBw.out
      have HBB : Hid (Below w.heap.size w wr) := st HB.out HBw.out
      obtain ⟨b1, o1, rfl, _, hc1⟩ := (HL.out.below HBB.out) (by omega)
      have x0 := hc1 k hlt
      obtain ⟨b2, o2, rfl, _, hc2⟩ := (HH.out.below HBB.out) (by omega)
      have y0 := hc2 k hlt
      obtain ⟨b3, o3, rfl, _, hc3⟩ := (HX.out.below HBB.out) (by omega)
      have z0 := hc3 k hlt
      clear hc1 hc2 hc3
      have HS : Hid (insTo l h v (k + 1) = (decide (l k ≤ v k) && decide (v k ≤ h k))) := by show _ = _; rw [insTo, HK.out, Bool.true_and]
      have HF : Hid ((decide (l k ≤ v k) && decide (v k ≤ h k)) = false → ve = false) := fun h9 => by rw [← HV.out]; exact insTo_le (k := k + 1) (by rw [HS.out, h9]) (by omega)
      generalize l k = x at *
      generalize h k = y at *
      generalize v k = z at *
      by_cases g1 : z < x
      · have HR := Lib.hid (HF.out (by rw [decide_eq_false (by omega)]; rfl))
        go_wp2
        go_quiet (fail)
        go_wp2
        go_ret
        exact ⟨by rw [HR.out]; rfl, drewB HBB.out _⟩
      · by_cases g2 : z > y
        · have HR := Lib.hid (HF.out (by rw [decide_eq_false (by omega : ¬ z ≤ y), Bool.and_false]))
          go_wp2
          go_quiet (fail)
          go_wp2
          go_ret
          exact ⟨by rw [HR.out]; rfl, drewB HBB.out _⟩
        · have HR : Hid (insTo l h v (k + 1) = true) := by show _ = _; rw [HS.out, decide_eq_true (by omega : x ≤ z), decide_eq_true (by omega : z ≤ y)]; rfl
          go_wp2
          go_quiet (fail)
          go_wp2
          go_roundw
          case rel => exact ⟨k + 1, by omega, by go_num, HR.out, drewB HBw.out _⟩
          case measure => simp [intOf]; omega
    · obtain rfl : k = n := by omega
      go_wp2
      go_ret
      exact ⟨by rw [← HV.out, HK.out]; rfl, st HB.out HBw.out⟩

theorem l_layout (S O : Option Addr) (s sc o oc : Nat) (ord tile form codec : Int) (w : World) :
    Calls Tryz.prog 19 #[LayV S s sc O o oc ord tile form codec] w fun e w' => e = .returned (.bool (decide (s ≤ 10) && decide (o ≤ 10))) ∧ Below w.heap.size w w' := by
  have hb : Below w.heap.size w (w.alloc (.cells #[.slice S s sc, .slice O o oc, .int .i64 ord, .int .i64 tile, .int .i64 form, .int .i64 codec] 54)) := (Below.refl _ _).alloc (Nat.le_refl _) _
  have e1 : decide (s ≤ 10) = decide ((s : Int) ≤ 10) := by rw [decide_eq_decide]; omega
  have e2 : decide (o ≤ 10) = decide ((o : Int) ≤ 10) := by rw [decide_eq_decide]; omega
  rw [e1, e2]
  obtain ⟨l0, l1, l2, l3, l4, l5⟩ := lay_box w S O s sc o oc ord tile form codec _ (Below.refl _ _)
  go_enter Tryz.func19, Tryz.ntmps19
  by_cases g1 : (s : Int) ≤ 10
  · rw [decide_eq_true g1]
    go_wp2
    go_ret
    exact ⟨rfl, hb⟩
  · rw [decide_eq_false g1]
    go_wp2
    go_ret
    exact ⟨rfl, hb⟩
end Go.Proofs.YtkckoanphciddaaGreatDoor

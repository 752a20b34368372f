/- Rational numbers in memory: making one, and the plain questions to it. -/
import Derived.Test.YtnfncdalneifnaaGreatDoorZGcd
import Derived.Deep.RegionHeld3
import Derived.LaidEqlPtr
namespace Go.Proofs.YtnfncdalneifnaaGreatDoor
open Go.RowKit Go.Deep

/-- The value v points to a number of the package: its sign, its numerator and its denominator. -/
def RatAt (w : World) (v : Value) (neg : Bool) (n d : Nat) : Prop := ∃ b nv dv, v = .pointer (some ⟨b, 0, none⟩) ∧ b < w.heap.size ∧ w.cell? ⟨b, 0, none⟩ = some (.pointer (some ⟨b, 0, none⟩)) ∧
  w.cell? ⟨b, 1, none⟩ = some (.bool neg) ∧ w.cell? ⟨b, 2, none⟩ = some nv ∧ w.cell? ⟨b, 3, none⟩ = some dv ∧ NatAt w nv n ∧ NatAt w dv d
theorem RatAt.below {w w' : World} {v : Value} {neg : Bool} {n d : Nat} (h : RatAt w v neg n d) (hb : Below w.heap.size w w') : RatAt w' v neg n d := by
  obtain ⟨b, nv, dv, e, hlt, h0, h1, h2, h3, hn, hd⟩ := h
  exact ⟨b, nv, dv, e, Nat.lt_of_lt_of_le hlt hb.size, (hb.cell (p := ⟨b, 0, none⟩) hlt).trans h0, (hb.cell (p := ⟨b, 1, none⟩) hlt).trans h1, (hb.cell (p := ⟨b, 2, none⟩) hlt).trans h2, (hb.cell (p := ⟨b, 3, none⟩) hlt).trans h3, hn.below hb, hd.below hb⟩
theorem RatAt.drewN {w : World} {v : Value} {neg : Bool} {n d : Nat} (h : RatAt w v neg n d) (k : Nat) : RatAt (w.drewN k) v neg n d := h
theorem btr {a b c : World} (h : Below a.heap.size a b) (k : Below b.heap.size b c) : Below a.heap.size a c := h.trans (k.mono h.size)
def RatRet (w : World) (neg : Bool) (n d : Nat) (e : Ending) (w' : World) : Prop := ∃ u, e = .returned u ∧ RatAt w' u neg n d ∧ Below w.heap.size w w'
def sgn (neg : Bool) (n : Nat) : Bool := neg && decide (0 < n)

set_option maxHeartbeats 1000000 in
theorem c_made (w : World) (nv dv : Value) (neg : Bool) (n d : Nat) (hn : NatAt w nv n) (hd : NatAt w dv d) :
    Calls Tryz.prog 40 #[.bool neg, nv, dv] w (RatRet w (sgn neg n) n d) := by
  have hN := hn
  have hD := hd
  obtain ⟨A, c, rfl, h1, h2, h3⟩ := hn
  obtain ⟨A', c', rfl, h1', h2', h3'⟩ := hd
  have HN := Lib.hid hN
  have HD := Lib.hid hD
  clear hN hD h1 h2 h3 h1' h2' h3'
  have KEY : Hid (∀ s : Bool, s = sgn neg n → RatRet w (sgn neg n) n d (.returned (.pointer (some ⟨w.heap.size, 0, none⟩))) (w.alloc (.cells #[.pointer (some ⟨w.heap.size, 0, none⟩), .bool s, .slice A (nw n) c, .slice A' (nw d) c'] 80))) := by
    intro s hs
    have hbel : Below w.heap.size w (w.alloc (.cells #[.pointer (some ⟨w.heap.size, 0, none⟩), .bool s, .slice A (nw n) c, .slice A' (nw d) c'] 80)) := (Below.refl _ _).alloc (Nat.le_refl _) _
    have hh := heap_alloc_new w (.cells #[.pointer (some ⟨w.heap.size, 0, none⟩), .bool s, .slice A (nw n) c, .slice A' (nw d) c'] 80)
    subst hs
    refine ⟨_, rfl, ⟨w.heap.size, _, _, rfl, by simp, ?_, ?_, ?_, ?_, HN.out.below hbel, HD.out.below hbel⟩, hbel⟩ <;> (rw [cell_of_row _ _ _ _ _ _ hh]; rfl)
  cases neg
  · generalize nw n = m at *
    generalize nw d = m' at *
    clear HN HD
    go_enter Tryz.func40, Tryz.ntmps40
    go_wp2
    go_ret
    exact KEY.out false rfl
  · by_cases h0 : n = 0
    · have HS : Hid (false = sgn true n) := by show false = (true && decide (0 < n)); rw [h0]; rfl
      have hm : ¬ 0 < nw n := by rw [nw_pos]; omega
      have hm' : decide (0 < nw n) = false := by simp [hm]
      clear h0
      generalize nw n = m at *
      generalize nw d = m' at *
      clear HN HD
      go_enter Tryz.func40, Tryz.ntmps40
      go_wp2
      go_ret
      exact KEY.out false HS.out
    · have HS : Hid (true = sgn true n) := by show true = (true && decide (0 < n)); simp; omega
      have hm : 0 < nw n := by rw [nw_pos]; omega
      have hm' : decide (0 < nw n) = true := by simp [hm]
      clear h0
      generalize nw n = m at *
      generalize nw d = m' at *
      clear HN HD
      go_enter Tryz.func40, Tryz.ntmps40
      go_wp2
      go_ret
      exact KEY.out true HS.out

theorem info_rat : ∃ j, Tryz.prog.info? 80 = some j := Option.isSome_iff_exists.1 (by kernel_rfl)
set_option maxRecDepth 100000 in
set_option maxHeartbeats 400000 in
theorem c_valid (w : World) (v : Value) (neg : Bool) (n d : Nat) (h : RatAt w v neg n d) :
    Calls Tryz.prog 42 #[v] w fun e w' => e = .returned (.bool true) ∧ w = w' := by
  obtain ⟨b, nv, dv, rfl, hlt, h0, _, _, _, _, _⟩ := h
  obtain ⟨j, hj⟩ := info_rat
  have heq := fun W => run_eql_ptr_same (P := Tryz.prog) W ⟨b, 0, none⟩ Tryz.underlying30 hj
  clear hj
  go_enter Tryz.func42, Tryz.ntmps42
  go_wp2
  go_ret
  exact ⟨rfl, rfl⟩
set_option maxRecDepth 100000 in
set_option maxHeartbeats 400000 in
theorem c_valid_nil (w : World) : Calls Tryz.prog 42 #[.pointer none] w fun e w' => e = .returned (.bool false) ∧ w = w' := by
  go_enter Tryz.func42, Tryz.ntmps42
  go_wp2
  go_ret
  exact ⟨rfl, rfl⟩
set_option maxHeartbeats 400000 in
theorem c_Whole (w : World) (v : Value) (neg : Bool) (n d : Nat) (h : RatAt w v neg n d) :
    Calls Tryz.prog 13 #[v] w fun e w' => e = .returned (.bool (isOneB d)) ∧ w = w' := by
  have HV := Lib.hid (c_valid w v neg n d h)
  obtain ⟨b, nv, dv, rfl, hlt, h0, h1, h2, h3, hn, hd⟩ := h
  have HO := Lib.hid (n_isOne w dv d hd)
  clear hn hd
  go_enter Tryz.func13, Tryz.ntmps13
  go_wp2_with fail
  refine HV.out.mono ?_
  rintro e w' ⟨rfl, rfl⟩
  go_wp2_with fail
  refine HO.out.mono ?_
  rintro e w' ⟨rfl, rfl⟩
  go_wp2
  go_ret
  exact ⟨rfl, rfl⟩

/-- The sign of a number. -/
def signN (neg : Bool) (n : Nat) : Int := if n = 0 then 0 else if neg then -1 else 1
set_option maxHeartbeats 400000 in
theorem c_Sign (w : World) (v : Value) (neg : Bool) (n d : Nat) (h : RatAt w v neg n d) :
    Calls Tryz.prog 12 #[v] w fun e w' => e = .returned (.int .i64 (signN neg n)) ∧ w = w' := by
  have HV := Lib.hid (c_valid w v neg n d h)
  obtain ⟨b, nv, dv, rfl, hlt, h0, h1, h2, h3, hn, hd⟩ := h
  obtain ⟨A, c, rfl, _, _, _⟩ := hn
  clear hd
  by_cases hz : n = 0
  · have HS : Hid (signN neg n = 0) := by show _ = _; unfold signN; rw [if_pos hz]
    have hm : ((nw n : Int) == 0) = true := by rw [hz, nw_zero]; rfl
    clear hz
    generalize nw n = m at *
    go_enter Tryz.func12, Tryz.ntmps12
    go_wp2_with fail
    refine HV.out.mono ?_
    rintro e w' ⟨rfl, rfl⟩
    go_wp2
    go_ret
    exact ⟨by rw [HS.out]; rfl, rfl⟩
  · have hm : ((nw n : Int) == 0) = false := by rw [beq_eq_false_iff_ne]; have := nw_eq_zero n; omega
    cases neg
    · have HS : Hid (signN false n = 1) := by show _ = _; unfold signN; rw [if_neg hz]; rfl
      generalize nw n = m at *
      go_enter Tryz.func12, Tryz.ntmps12
      go_wp2_with fail
      refine HV.out.mono ?_
      rintro e w' ⟨rfl, rfl⟩
      go_wp2
      go_ret
      exact ⟨by rw [HS.out]; rfl, rfl⟩
    · have HS : Hid (signN true n = -1) := by show _ = _; unfold signN; rw [if_neg hz]; rfl
      generalize nw n = m at *
      go_enter Tryz.func12, Tryz.ntmps12
      go_wp2_with fail
      refine HV.out.mono ?_
      rintro e w' ⟨rfl, rfl⟩
      go_wp2
      go_ret
      exact ⟨by rw [HS.out]; rfl, rfl⟩

theorem wrap_div (a g : Nat) (ha : a < W64) : IntKind.u64.wrap ((a : Int) / (g : Int)) = ((a / g : Nat) : Int) := by
  have h1 : a / g ≤ a := Nat.div_le_self _ _
  rw [show (a : Int) / (g : Int) = ((a / g : Nat) : Int) by push_cast; rfl, IntKind.wrap_u64]
  generalize a / g = q at *
  unfold W64 at ha
  omega
set_option maxHeartbeats 1000000 in
theorem c_Of (w : World) (x y : Int) (hx0 : -9223372036854775808 ≤ x) (hx1 : x ≤ 9223372036854775807) (hy0 : -9223372036854775808 ≤ y) (hy1 : y ≤ 9223372036854775807) (hy : y ≠ 0) :
    Calls Tryz.prog 7 #[.int .i64 x, .int .i64 y] w fun e w' => ∃ u, e = .returned (.tuple #[u, .int .i64 0]) ∧ RatAt w' u (sgn (decide (x < 0) != decide (y < 0)) (x.natAbs / Nat.gcd x.natAbs y.natAbs)) (x.natAbs / Nat.gcd x.natAbs y.natAbs) (y.natAbs / Nat.gcd x.natAbs y.natAbs) ∧ Below w.heap.size w w' := by
  have hg0 : (Nat.gcd x.natAbs y.natAbs : Int) ≠ 0 := by
    have := Nat.gcd_pos_of_pos_right x.natAbs (n := y.natAbs) (by omega)
    omega
  have hg : ((Nat.gcd x.natAbs y.natAbs : Int) == 0) = false := by rw [beq_eq_false_iff_ne]; exact hg0
  have hyy : (y == 0) = false := by rw [beq_eq_false_iff_ne]; exact hy
  have HX := Lib.hid (c_absolute x w hx0 hx1)
  have HY := Lib.hid (c_absolute y w hy0 hy1)
  have HG := Lib.hid (c_commonWord x.natAbs y.natAbs w)
  have ha : x.natAbs / Nat.gcd x.natAbs y.natAbs ≤ x.natAbs := Nat.div_le_self _ _
  have ha' : y.natAbs / Nat.gcd x.natAbs y.natAbs ≤ y.natAbs := Nat.div_le_self _ _
  have hg1 : 1 ≤ (Nat.gcd x.natAbs y.natAbs : Int) := by omega
  clear hg0 hy
  generalize Nat.gcd x.natAbs y.natAbs = g at *
  go_enter Tryz.func7, Tryz.ntmps7
  go_wp2_with fail
  refine HX.out.mono ?_
  rintro e w' ⟨rfl, rfl⟩
  go_wp2_with fail
  refine HY.out.mono ?_
  rintro e w' ⟨rfl, rfl⟩
  go_wp2_with fail
  refine HG.out.mono ?_
  rintro e w' ⟨rfl, n, rfl⟩
  clear HX HY HG
  have hw1 : x.natAbs / g < W64 := by unfold W64; omega
  have hw2 : y.natAbs / g < W64 := by unfold W64; omega
  have HW : Hid (∀ W, Calls Tryz.prog 41 #[.int .u64 (IntKind.u64.wrap ((x.natAbs : Int) / (g : Int)))] W (NatRet W (x.natAbs / g))) := fun W => by
    have h9 := n_word W (x.natAbs / g) hw1
    rw [show U (x.natAbs / g) = .int .u64 (IntKind.u64.wrap ((x.natAbs : Int) / (g : Int))) from by rw [wrap_div _ _ (by unfold W64; omega)]] at h9
    exact h9
  have HW' : Hid (∀ W, Calls Tryz.prog 41 #[.int .u64 (IntKind.u64.wrap ((y.natAbs : Int) / (g : Int)))] W (NatRet W (y.natAbs / g))) := fun W => by
    have h9 := n_word W (y.natAbs / g) hw2
    rw [show U (y.natAbs / g) = .int .u64 (IntKind.u64.wrap ((y.natAbs : Int) / (g : Int))) from by rw [wrap_div _ _ (by unfold W64; omega)]] at h9
    exact h9
  clear ha ha' hx0 hx1 hy0 hy1 hw1 hw2
  go_wp2_with fail
  go_region_with (first | (go_at_call 41; (with_reducible refine (HW.out _).mono ?_); rintro e w1 ⟨u, rfl, hu, hbu⟩) | (go_at_call 41; (with_reducible refine (HW'.out _).mono ?_); rintro e w2 ⟨u', rfl, hu', hbu'⟩) | (go_at_call 40; refine (c_made _ u u' (!(decide (x < 0) == decide (y < 0))) _ _ (hu.below hbu') hu').mono ?_; rintro e w3 ⟨r, rfl, hr, hbr⟩) | (go_at_call 40; refine (c_made _ u u' (!(decide (x < 0) == decide (y < 0))) _ _ hu (hu'.below hbu)).mono ?_; rintro e w3 ⟨r, rfl, hr, hbr⟩))
  all_goals
    go_wp2
    go_ret2
    refine ⟨r, rfl, hr, ?_⟩
    first
      | exact btr (btr (btr (Below.drewN_ (Below.refl _ _) _) hbu) hbu') hbr
      | exact btr (btr (btr (Below.drewN_ (Below.refl _ _) _) hbu') hbu) hbr
end Go.Proofs.YtnfncdalneifnaaGreatDoor

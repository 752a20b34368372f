/- The reference's products and quotients: the arithmetic. -/
import Derived.Test.YtnfncdalneifnaaGreatDoorZRatV
import Derived.Test.YtnfncdalneifnaaGreatDoorZFit9
import Derived.Test.YtnfncdalneifnaaGreatDoorZRef9
import Derived.Test.YtnfncdalneifnaaGreatDoorZSpe9
import Derived.Test.YtnfncdalneifnaaGreatDoorZInv
import Derived.Test.YtnfncdalneifnaaGreatDoorZOrd
import Derived.StillTailTactics
import Derived.Test.YtnfncdalneifnaaGreatDoorZRing
import Derived.Test.YtnfncdalneifnaaGreatDoorZFmt
import Derived.Test.YtnfncdalneifnaaGreatDoorZFloor
import Derived.Deep.RegionHeld3

/- The reference's products and quotients: the arithmetic. -/
section
namespace Go.Proofs.YtnfncdalneifnaaGreatDoor
open Go.RowKit Go.Deep

theorem ref_mul (p q : Rat) (s : Bool) (n : Nat) (h : sInt s n = q.num) :
    sgn (decide (p.num < 0) != s) (p.num.natAbs * n / Nat.gcd (p.num.natAbs * n) (p.den * q.den)) = decide ((p * q).num < 0) ∧
    p.num.natAbs * n / Nat.gcd (p.num.natAbs * n) (p.den * q.den) = (p * q).num.natAbs ∧
    p.den * q.den / Nat.gcd (p.num.natAbs * n) (p.den * q.den) = (p * q).den := by
  have hn : n = q.num.natAbs := by rw [← h, sInt_natAbs]
  have hD : 0 < p.den * q.den := Nat.mul_pos p.den_pos q.den_pos
  have hm := Rat.mul_def p q
  rw [Rat.normalize_eq] at hm
  have en : (p * q).num = (p.num * q.num) / ((Nat.gcd (p.num * q.num).natAbs (p.den * q.den) : Nat) : Int) := by rw [hm]
  have ed : (p * q).den = p.den * q.den / Nat.gcd (p.num * q.num).natAbs (p.den * q.den) := by rw [hm]
  have ea : (p.num * q.num).natAbs = p.num.natAbs * n := by rw [Int.natAbs_mul, hn]
  have hs0 : s = true → q.num ≤ 0 := fun e => by rw [← h, e]; unfold sInt; rw [if_pos rfl]; omega
  have hs1 : s = false → 0 ≤ q.num := fun e => by rw [← h, e]; unfold sInt; rw [if_neg (by decide)]; omega
  rw [en, ed]
  clear hm en ed h
  rw [ea]
  have hg0 : 0 < Nat.gcd (p.num.natAbs * n) (p.den * q.den) := Nat.gcd_pos_of_pos_right _ hD
  have hcM : ((Nat.gcd (p.num.natAbs * n) (p.den * q.den) : Nat) : Int) ∣ p.num * q.num := by
    rw [← Int.natAbs_dvd_natAbs, Int.natAbs_natCast, ea]; exact Nat.gcd_dvd_left _ _
  generalize hgg : Nat.gcd (p.num.natAbs * n) (p.den * q.den) = c at *
  obtain ⟨m, hmm⟩ := hcM
  have e1 : p.num.natAbs * n = c * m.natAbs := by rw [← ea, hmm, Int.natAbs_mul, Int.natAbs_natCast]
  have hc1 : p.num * q.num / c = m := by rw [hmm]; exact Int.mul_ediv_cancel_left _ (by omega)
  have hc2 : p.num.natAbs * n / c = m.natAbs := by rw [e1, Nat.mul_div_cancel_left _ hg0]
  rw [hc1, hc2]
  refine ⟨?_, rfl, rfl⟩
  have hpos : (0 < m) ↔ 0 < p.num * q.num := by
    rw [hmm]
    constructor
    · intro h9; exact Int.mul_pos (by omega) h9
    · intro h9
      rcases (by omega : 0 < m ∨ m ≤ 0) with h8 | h8
      · exact h8
      · have := Int.mul_nonneg (show (0 : Int) ≤ c by omega) (show 0 ≤ -m by omega)
        rw [Int.mul_neg] at this
        omega
  have hneg : (m < 0) ↔ p.num * q.num < 0 := by
    rw [hmm]
    constructor
    · intro h9; exact Int.mul_neg_of_pos_of_neg (by omega) h9
    · intro h9
      rcases (by omega : m < 0 ∨ 0 ≤ m) with h8 | h8
      · exact h8
      · have := Int.mul_nonneg (show (0 : Int) ≤ c by omega) h8
        omega
  unfold sgn
  rw [Bool.eq_iff_iff]
  simp only [Bool.and_eq_true, bne_iff_ne, ne_eq, decide_eq_true_eq]
  constructor
  · rintro ⟨h1, h2⟩
    have hm0 : m ≠ 0 := by omega
    rw [hneg]
    have hz : p.num * q.num ≠ 0 := by
      intro h0
      rcases Int.lt_or_gt_of_ne hm0 with h8 | h8
      · have := hneg.1 h8; omega
      · have := hpos.1 h8; omega
    have hp0 : p.num ≠ 0 := fun h0 => hz (by rw [h0, Int.zero_mul])
    have hq0 : q.num ≠ 0 := fun h0 => hz (by rw [h0, Int.mul_zero])
    cases s with
    | true =>
      have hp1 : ¬ p.num < 0 := fun h8 => h1 (decide_eq_true h8)
      have := hs0 rfl
      exact Int.mul_neg_of_pos_of_neg (by omega) (by omega)
    | false =>
      have hp1 : p.num < 0 := by
        by_cases h8 : p.num < 0
        · exact h8
        · exact absurd (decide_eq_false h8) h1
      have := hs1 rfl
      rw [Int.mul_comm]
      exact Int.mul_neg_of_pos_of_neg (by omega) (by omega)
  · intro h9
    have h8 := hneg.1 h9
    refine ⟨?_, by omega⟩
    cases s with
    | true =>
      intro h7
      have h6 : p.num < 0 := of_decide_eq_true h7
      have := hs0 rfl
      have := Int.mul_nonneg (show 0 ≤ -p.num by omega) (show 0 ≤ -q.num by omega)
      rw [Int.neg_mul_neg] at this
      omega
    | false =>
      intro h7
      have h6 : ¬ p.num < 0 := of_decide_eq_false h7
      have := hs1 rfl
      have := Int.mul_nonneg (show 0 ≤ p.num by omega) (show 0 ≤ q.num by omega)
      omega
/-- The same of a quotient. -/
theorem ref_quo (p q : Rat) (hq : q.num ≠ 0) :
    sgn (decide (p.num < 0) != decide (q.num < 0)) (p.num.natAbs * q.den / Nat.gcd (p.num.natAbs * q.den) (p.den * q.num.natAbs)) = decide ((p / q).num < 0) ∧
    p.num.natAbs * q.den / Nat.gcd (p.num.natAbs * q.den) (p.den * q.num.natAbs) = (p / q).num.natAbs ∧
    p.den * q.num.natAbs / Nat.gcd (p.num.natAbs * q.den) (p.den * q.num.natAbs) = (p / q).den := by
  obtain ⟨i1, i2⟩ := rat_inv q hq
  have h9 := ref_mul p q⁻¹ (decide (q.num < 0)) q.den i1.symm
  rw [← Rat.div_def, i2] at h9
  exact h9
end Go.Proofs.YtnfncdalneifnaaGreatDoor
end

/- The reference's products and quotients. -/
section
namespace Go.Proofs.YtnfncdalneifnaaGreatDoor
open Go.RowKit Go.Deep

set_option maxRecDepth 100000 in
set_option maxHeartbeats 8000000 in
theorem r_Mul (w : World) (x y : Value) (p q : Rat) (hx : RefV w x p) (hy : RefV w y q) (k1 : RefW p 10000000) (k2 : RefW q 10000000) :
    Calls Tryz.prog 78 #[x, y] w fun e w' => ∃ r, e = .returned r ∧ RefV w' r (p * q) ∧ Below w.heap.size w w' := by
  obtain ⟨e1, e2, e3⟩ := ref_mul p q (decide (q.num < 0)) q.num.natAbs (sInt_of _)
  have hp0 := p.den_pos
  have hq0 := q.den_pos
  obtain ⟨xu, xv, rfl, hxu, hxv⟩ := hx
  obtain ⟨yu, yv, rfl, hyu, hyv⟩ := hy
  obtain ⟨k1a, k1b⟩ := k1
  obtain ⟨k2a, k2b⟩ := k2
  unfold RefV
  rw [← e1, ← e2, ← e3]
  clear e1 e2 e3
  generalize decide (p.num < 0) = s at *
  generalize decide (q.num < 0) = t at *
  generalize p.num.natAbs = a at *
  generalize q.num.natAbs = b at *
  generalize p.den = c at *
  generalize q.den = d at *
  have HA := Lib.hid (fun W (hW : Below w.heap.size w W) => r_times W xu yu a b (hxu.below hW) (hyu.below hW) (by omega) (by omega))
  have HBm := Lib.hid (fun W (hW : Below w.heap.size w W) => r_times W xv yv c d (hxv.below hW) (hyv.below hW) (by omega) (by omega))
  have nA := refW_mul a b _ _ k1a k2a
  have nB := refW_mul c d _ _ k1b k2b
  have hD0 : 0 < c * d := Nat.mul_pos hp0 hq0
  have HNs := Lib.hid (And.intro nA (And.intro nB hD0))
  obtain ⟨A1, c1, rfl⟩ := hxu.sl
  obtain ⟨A2, c2, rfl⟩ := hxv.sl
  obtain ⟨A3, c3, rfl⟩ := hyu.sl
  obtain ⟨A4, c4, rfl⟩ := hyv.sl
  clear hxu hxv hyu hyv nA nB hD0 k1a k1b k2a k2b hp0 hq0
  obtain ⟨W0, hW0, hB0, hz0, KX⟩ := ref_box w s (.slice A1 (nw9 a) c1) (.slice A2 (nw9 c) c2)
  obtain ⟨W1, hW1, hB1, hz1, KY⟩ := ref_box W0 t (.slice A3 (nw9 b) c3) (.slice A4 (nw9 d) c4)
  obtain ⟨W2, hW2, hB2, hz2, KR⟩ := zero_box W1
  have HB0 := Lib.hid hB0
  have HB1 := Lib.hid hB1
  have HB2 := Lib.hid hB2
  rw [hz0] at hz1
  rw [hz1] at hz2
  clear hB0 hB1 hB2
  have hgz0 : W0.heap.size = w.heap.size + 1 := hz0
  have HX1 : Hid (∀ W, Below W1.heap.size W1 W → W.cell? ⟨w.heap.size, 0, none⟩ = some (.bool s) ∧ W.cell? ⟨w.heap.size, 1, none⟩ = some (.slice A1 (nw9 a) c1) ∧ W.cell? ⟨w.heap.size, 2, none⟩ = some (.slice A2 (nw9 c) c2) ∧ W.cell? ⟨w.heap.size + 1, 0, none⟩ = some (.bool t) ∧ W.cell? ⟨w.heap.size + 1, 1, none⟩ = some (.slice A3 (nw9 b) c3) ∧ W.cell? ⟨w.heap.size + 1, 2, none⟩ = some (.slice A4 (nw9 d) c4)) := fun W hW => by
    obtain ⟨x1, x2, x3⟩ := KX.out W (btr HB1.out hW)
    obtain ⟨y1, y2, y3⟩ := KY.out W hW
    rw [hgz0] at y1 y2 y3
    exact ⟨x1, x2, x3, y1, y2, y3⟩
  have HX2 : Hid (∀ W, Below W2.heap.size W2 W → W.cell? ⟨w.heap.size, 0, none⟩ = some (.bool s) ∧ W.cell? ⟨w.heap.size, 1, none⟩ = some (.slice A1 (nw9 a) c1) ∧ W.cell? ⟨w.heap.size, 2, none⟩ = some (.slice A2 (nw9 c) c2) ∧ W.cell? ⟨w.heap.size + 1, 0, none⟩ = some (.bool t) ∧ W.cell? ⟨w.heap.size + 1, 1, none⟩ = some (.slice A3 (nw9 b) c3) ∧ W.cell? ⟨w.heap.size + 1, 2, none⟩ = some (.slice A4 (nw9 d) c4)) := fun W hW => HX1.out W (btr HB2.out hW)
  have KR2 : Hid (∀ W, Below W2.heap.size W2 W → W.heap[w.heap.size + 1 + 1]? = some (.cells #[.bool false, .slice none 0 0, .slice none 0 0] 64 (0, 0))) := fun W hW => by rw [← hz1]; exact KR.out W hW
  have HLe : Hid (W1.heap.size ≤ w.heap.size + 1 + 1) := by show _ ≤ _; omega
  have HM : Hid (∀ W, Below W2.heap.size W2 W → Below w.heap.size w W) := fun W h => btr HB0.out (btr HB1.out (btr HB2.out h))
  have HL1 : Hid (∀ W, Below W2.heap.size W2 W → Below W1.heap.size W1 W) := fun W h => btr HB2.out h
  obtain ⟨x0, x1, x2, y0, y1, y2⟩ := HX2.out W2 (Below.refl _ _)
  go_enter Tryz.func78, Tryz.ntmps78
  go_wp2_with fail
  clear x0 x1 x2 y0 y1 y2
  generalize hgA : a * b = A at *
  generalize hgB : c * d = B at *
  have HgA := Lib.hid hgA; have HgB := Lib.hid hgB
  clear hgA hgB
  have B2d : Below W2.heap.size W2 W2.drew := Below.drew (Below.refl _ _)
  have HRed : Hid (∀ (bb : Bool) (W : World) (u v : Value), N9At W u A → N9At W v B → Calls Tryz.prog 140 #[.bool bb, u, v] W (RefRet (sgn bb (A / Nat.gcd A B)) (A / Nat.gcd A B) (B / Nat.gcd A B) W)) :=
    fun bb W u v hu hv => r_reduced W bb u v A B hu hv (by have := HNs.out.1; omega) (by have := HNs.out.2.1; omega) HNs.out.2.2
  go_region_held3 (fun W => W.cell? ⟨w.heap.size, 0, none⟩ = some (.bool s) ∧ W.cell? ⟨w.heap.size, 1, none⟩ = some (.slice A1 (nw9 a) c1) ∧ W.cell? ⟨w.heap.size, 2, none⟩ = some (.slice A2 (nw9 c) c2) ∧ W.cell? ⟨w.heap.size + 1, 0, none⟩ = some (.bool t) ∧ W.cell? ⟨w.heap.size + 1, 1, none⟩ = some (.slice A3 (nw9 b) c3) ∧ W.cell? ⟨w.heap.size + 1, 2, none⟩ = some (.slice A4 (nw9 d) c4))
    (first | exact HX1.out _ ((((HL1.out _ C3).setCell (p := ⟨w.heap.size + 1 + 1, 0, none⟩) HLe.out _).setCell (p := ⟨w.heap.size + 1 + 1, 1, none⟩) HLe.out _).setCell (p := ⟨w.heap.size + 1 + 1, 2, none⟩) HLe.out _) | exact HX2.out _ C3 | exact HX2.out _ C2 | exact HX2.out _ C1 | exact HX2.out _ B2d | exact HX2.out _ (Below.refl _ _))
    (first
      | (go_at_call_of 137 (Value.slice A1 (nw9 a) c1); refine (HA.out _ (HM.out _ B2d)).mono ?_; rintro e w3 ⟨va, rfl, hva, hb3⟩; have C1 : Below W2.heap.size W2 w3 := btr B2d hb3)
      | (go_at_call_of 137 (Value.slice A2 (nw9 c) c2); refine (HBm.out _ (HM.out _ C1)).mono ?_; rintro e w4 ⟨vb, rfl, hvb, hb4⟩; have C2 : Below W2.heap.size W2 w4 := btr C1 hb4; have HVa := Lib.hid (hva.below hb4); have HVb := Lib.hid hvb; obtain ⟨A5, c5, rfl⟩ := hva.sl; obtain ⟨A6, c6, rfl⟩ := hvb.sl)
      | (go_at_call 140; refine (HRed.out _ _ _ _ HVa.out HVb.out).mono ?_; rintro e w8 ⟨vr, rfl, hvr, hb8⟩; have C3 : Below W2.heap.size W2 w8 := btr C2 hb8; obtain ⟨zu, zv, rfl, hzu, hzv⟩ := hvr; have HZu := Lib.hid hzu; have HZv := Lib.hid hzv; obtain ⟨A8, c8, rfl⟩ := hzu.sl; obtain ⟨A9, c9, rfl⟩ := hzv.sl; obtain ⟨r0, r1, r2, f0, f1, f2⟩ := res_r (KR2.out _ C3)))
  all_goals
    have hrow := KR2.out _ C3
    have HL := Lib.hid (HM.out _ C3)
    clear hva hvb hzu hzv hb3 hb4 hb8 C1 C2 C3 r0 r1 r2 f0 f1 f2
    have hno := ref_noint hrow
    go_wp2
    refine bodyPost_ret (results_cell_row Tryz.results78 _ _ (w.heap.size + 1 + 1) 64 _ (0, 0) _ rfl (put3 hrow _ _ _) Tryz.underlying64 rfl (by rw [info_ref]; rfl)) rfl
      ⟨_, rfl, ?_, HL.out.grown (grown3 _ _ _ _ _) HL.out.size (fun j hj => by injection hj with hj; omega)⟩
    rw [HgA.out, HgB.out]
    exact ⟨_, _, rfl, HZu.out.apart hno (grown3 _ _ _ _ _), HZv.out.apart hno (grown3 _ _ _ _ _)⟩
set_option maxRecDepth 100000 in
set_option maxHeartbeats 8000000 in
theorem r_Quo (w : World) (x y : Value) (p q : Rat) (hx : RefV w x p) (hy : RefV w y q) (k1 : RefW p 10000000) (k2 : RefW q 10000000) (hq : q ≠ 0) :
    Calls Tryz.prog 79 #[x, y] w fun e w' => ∃ r, e = .returned (.tuple #[r, .int .i64 0]) ∧ RefV w' r (p / q) ∧ Below w.heap.size w w' := by
  have hqn : q.num ≠ 0 := fun h => hq (Rat.num_eq_zero.1 h)
  obtain ⟨e1, e2, e3⟩ := ref_quo p q hqn
  have hp0 := p.den_pos
  have hq0 := q.den_pos
  have hb0 : 0 < q.num.natAbs := by omega
  clear hqn hq
  obtain ⟨xu, xv, rfl, hxu, hxv⟩ := hx
  obtain ⟨yu, yv, rfl, hyu, hyv⟩ := hy
  obtain ⟨k1a, k1b⟩ := k1
  obtain ⟨k2a, k2b⟩ := k2
  unfold RefV
  rw [← e1, ← e2, ← e3]
  clear e1 e2 e3
  generalize decide (p.num < 0) = s at *
  generalize decide (q.num < 0) = t at *
  generalize p.num.natAbs = a at *
  generalize q.num.natAbs = b at *
  generalize p.den = c at *
  generalize q.den = d at *
  have HA := Lib.hid (fun W (hW : Below w.heap.size w W) => r_times W xu yv a d (hxu.below hW) (hyv.below hW) (by omega) (by omega))
  have HBm := Lib.hid (fun W (hW : Below w.heap.size w W) => r_times W xv yu c b (hxv.below hW) (hyu.below hW) (by omega) (by omega))
  have nA := refW_mul a d _ _ k1a k2b
  have nB := refW_mul c b _ _ k1b k2a
  have hD0 : 0 < c * b := Nat.mul_pos hp0 hb0
  have HNs := Lib.hid (And.intro nA (And.intro nB hD0))
  have hbe : ((nw9 b : Int) == 0) = false := by
    rw [beq_eq_false_iff_ne]
    have := (nw_pos9 b).2 hb0
    omega
  obtain ⟨A1, c1, rfl⟩ := hxu.sl
  obtain ⟨A2, c2, rfl⟩ := hxv.sl
  obtain ⟨A3, c3, rfl⟩ := hyu.sl
  obtain ⟨A4, c4, rfl⟩ := hyv.sl
  clear hxu hxv hyu hyv nA nB hD0 k1a k1b k2a k2b hp0 hq0 hb0
  obtain ⟨W0, hW0, hB0, hz0, KX⟩ := ref_box w s (.slice A1 (nw9 a) c1) (.slice A2 (nw9 c) c2)
  obtain ⟨W1, hW1, hB1, hz1, KY⟩ := ref_box W0 t (.slice A3 (nw9 b) c3) (.slice A4 (nw9 d) c4)
  obtain ⟨W2, hW2, hB2, hz2, KR⟩ := zero_box W1
  have HB0 := Lib.hid hB0
  have HB1 := Lib.hid hB1
  have HB2 := Lib.hid hB2
  rw [hz0] at hz1
  rw [hz1] at hz2
  clear hB0 hB1 hB2
  have hgz0 : W0.heap.size = w.heap.size + 1 := hz0
  have HX1 : Hid (∀ W, Below W1.heap.size W1 W → W.cell? ⟨w.heap.size, 0, none⟩ = some (.bool s) ∧ W.cell? ⟨w.heap.size, 1, none⟩ = some (.slice A1 (nw9 a) c1) ∧ W.cell? ⟨w.heap.size, 2, none⟩ = some (.slice A2 (nw9 c) c2) ∧ W.cell? ⟨w.heap.size + 1, 0, none⟩ = some (.bool t) ∧ W.cell? ⟨w.heap.size + 1, 1, none⟩ = some (.slice A3 (nw9 b) c3) ∧ W.cell? ⟨w.heap.size + 1, 2, none⟩ = some (.slice A4 (nw9 d) c4)) := fun W hW => by
    obtain ⟨x1, x2, x3⟩ := KX.out W (btr HB1.out hW)
    obtain ⟨y1, y2, y3⟩ := KY.out W hW
    rw [hgz0] at y1 y2 y3
    exact ⟨x1, x2, x3, y1, y2, y3⟩
  have HX2 : Hid (∀ W, Below W2.heap.size W2 W → W.cell? ⟨w.heap.size, 0, none⟩ = some (.bool s) ∧ W.cell? ⟨w.heap.size, 1, none⟩ = some (.slice A1 (nw9 a) c1) ∧ W.cell? ⟨w.heap.size, 2, none⟩ = some (.slice A2 (nw9 c) c2) ∧ W.cell? ⟨w.heap.size + 1, 0, none⟩ = some (.bool t) ∧ W.cell? ⟨w.heap.size + 1, 1, none⟩ = some (.slice A3 (nw9 b) c3) ∧ W.cell? ⟨w.heap.size + 1, 2, none⟩ = some (.slice A4 (nw9 d) c4)) := fun W hW => HX1.out W (btr HB2.out hW)
  have KR2 : Hid (∀ W, Below W2.heap.size W2 W → W.heap[w.heap.size + 1 + 1]? = some (.cells #[.bool false, .slice none 0 0, .slice none 0 0] 64 (0, 0))) := fun W hW => by rw [← hz1]; exact KR.out W hW
  have HLe : Hid (W1.heap.size ≤ w.heap.size + 1 + 1) := by show _ ≤ _; omega
  have HM : Hid (∀ W, Below W2.heap.size W2 W → Below w.heap.size w W) := fun W h => btr HB0.out (btr HB1.out (btr HB2.out h))
  have HL1 : Hid (∀ W, Below W2.heap.size W2 W → Below W1.heap.size W1 W) := fun W h => btr HB2.out h
  obtain ⟨x0, x1, x2, y0, y1, y2⟩ := HX2.out W2 (Below.refl _ _)
  go_enter Tryz.func79, Tryz.ntmps79
  go_wp2_with fail
  clear x0 x1 x2 y0 y1 y2
  generalize hgA : a * d = A at *
  generalize hgB : c * b = B at *
  have HgA := Lib.hid hgA; have HgB := Lib.hid hgB
  clear hgA hgB
  have B2d : Below W2.heap.size W2 W2.drew := Below.drew (Below.refl _ _)
  have HRed : Hid (∀ (bb : Bool) (W : World) (u v : Value), N9At W u A → N9At W v B → Calls Tryz.prog 140 #[.bool bb, u, v] W (RefRet (sgn bb (A / Nat.gcd A B)) (A / Nat.gcd A B) (B / Nat.gcd A B) W)) :=
    fun bb W u v hu hv => r_reduced W bb u v A B hu hv (by have := HNs.out.1; omega) (by have := HNs.out.2.1; omega) HNs.out.2.2
  go_region_held3 (fun W => W.cell? ⟨w.heap.size, 0, none⟩ = some (.bool s) ∧ W.cell? ⟨w.heap.size, 1, none⟩ = some (.slice A1 (nw9 a) c1) ∧ W.cell? ⟨w.heap.size, 2, none⟩ = some (.slice A2 (nw9 c) c2) ∧ W.cell? ⟨w.heap.size + 1, 0, none⟩ = some (.bool t) ∧ W.cell? ⟨w.heap.size + 1, 1, none⟩ = some (.slice A3 (nw9 b) c3) ∧ W.cell? ⟨w.heap.size + 1, 2, none⟩ = some (.slice A4 (nw9 d) c4))
    (first | exact HX1.out _ ((((HL1.out _ C3).setCell (p := ⟨w.heap.size + 1 + 1, 0, none⟩) HLe.out _).setCell (p := ⟨w.heap.size + 1 + 1, 1, none⟩) HLe.out _).setCell (p := ⟨w.heap.size + 1 + 1, 2, none⟩) HLe.out _) | exact HX2.out _ C3 | exact HX2.out _ C2 | exact HX2.out _ C1 | exact HX2.out _ B2d | exact HX2.out _ (Below.refl _ _))
    (first
      | (go_at_call_of 137 (Value.slice A1 (nw9 a) c1); refine (HA.out _ (HM.out _ B2d)).mono ?_; rintro e w3 ⟨va, rfl, hva, hb3⟩; have C1 : Below W2.heap.size W2 w3 := btr B2d hb3)
      | (go_at_call_of 137 (Value.slice A2 (nw9 c) c2); refine (HBm.out _ (HM.out _ C1)).mono ?_; rintro e w4 ⟨vb, rfl, hvb, hb4⟩; have C2 : Below W2.heap.size W2 w4 := btr C1 hb4; have HVa := Lib.hid (hva.below hb4); have HVb := Lib.hid hvb; obtain ⟨A5, c5, rfl⟩ := hva.sl; obtain ⟨A6, c6, rfl⟩ := hvb.sl)
      | (go_at_call 140; refine (HRed.out _ _ _ _ HVa.out HVb.out).mono ?_; rintro e w8 ⟨vr, rfl, hvr, hb8⟩; have C3 : Below W2.heap.size W2 w8 := btr C2 hb8; obtain ⟨zu, zv, rfl, hzu, hzv⟩ := hvr; have HZu := Lib.hid hzu; have HZv := Lib.hid hzv; obtain ⟨A8, c8, rfl⟩ := hzu.sl; obtain ⟨A9, c9, rfl⟩ := hzv.sl; obtain ⟨r0, r1, r2, f0, f1, f2⟩ := res_r (KR2.out _ C3)))
  all_goals
    have hrow := KR2.out _ C3
    have HL := Lib.hid (HM.out _ C3)
    clear hva hvb hzu hzv hb3 hb4 hb8 C1 C2 C3 r0 r1 r2 f0 f1 f2
    have hno := ref_noint hrow
    go_wp2
    refine bodyPost_ret (results_cell_tmp Tryz.results79 _ _ (w.heap.size + 1 + 1) 64 _ (0, 0) _ rfl (put3 hrow _ _ _) Tryz.underlying64 rfl (by rw [info_ref]; rfl)) rfl
      ⟨_, rfl, ?_, HL.out.grown (grown3 _ _ _ _ _) HL.out.size (fun j hj => by injection hj with hj; omega)⟩
    rw [HgA.out, HgB.out]
    exact ⟨_, _, rfl, HZu.out.apart hno (grown3 _ _ _ _ _), HZv.out.apart hno (grown3 _ _ _ _ _)⟩
end Go.Proofs.YtnfncdalneifnaaGreatDoor
end

/- The reference's negation, difference and comparison. -/
section
namespace Go.Proofs.YtnfncdalneifnaaGreatDoor
open Go.RowKit Go.Deep

theorem sign_sub (p q : Rat) : signN (decide ((p + -q).num < 0)) (p + -q).num.natAbs = Lib.compareInt (p.num * q.den) (q.num * p.den) := by
  rw [← Rat.sub_eq_add_neg]
  have h0 : 0 ≤ (p - q).num ↔ q ≤ p := by rw [Rat.num_nonneg, ← Rat.le_iff_sub_nonneg]
  have h1 : (p - q).num = 0 ↔ p = q := by
    rw [Rat.num_eq_zero]
    constructor
    · intro h
      have := Rat.sub_add_cancel (a := p) (b := q)
      rw [h, Rat.zero_add] at this
      exact this.symm
    · rintro rfl
      exact Rat.sub_self
  rw [Rat.le_iff] at h0
  rw [Rat.eq_iff_mul_eq_mul] at h1
  generalize p.num * (q.den : Int) = a at *
  generalize q.num * (p.den : Int) = b at *
  generalize (p - q).num = z at *
  unfold signN Lib.compareInt
  by_cases hz : z = 0
  · have := h1.1 hz
    rw [if_pos (by omega), if_neg (by omega), if_neg (by omega)]
  · have hne : a ≠ b := fun h => hz (h1.2 h)
    rw [if_neg (by omega)]
    by_cases hn : z < 0
    · have : ¬ b ≤ a := fun h => by have := h0.2 h; omega
      rw [if_pos (by rw [decide_eq_true_iff]; exact hn), if_pos (by omega)]
    · have := h0.1 (by omega)
      rw [if_neg (by rw [decide_eq_true_iff]; exact hn), if_neg (by omega), if_pos (by omega)]

theorem RefW.neg {q : Rat} {k : Nat} (h : RefW q k) : RefW (-q) k := by
  obtain ⟨h1, h2⟩ := h
  refine ⟨?_, ?_⟩
  · rw [show (-q).num = -q.num from rfl, Int.natAbs_neg]; exact h1
  · exact h2

set_option maxHeartbeats 2000000 in
theorem r_Neg0 (w : World) (r : Value) (s : Bool) (n d : Nat) (h : Ref w r s n d) :
    Calls Tryz.prog 34 #[r] w (RefRet (!s && !(nw9 n == 0)) n d w) := by
  obtain ⟨u, v, rfl, hu, hv⟩ := h
  have HU := Lib.hid hu
  have HV := Lib.hid hv
  obtain ⟨A, c, rfl⟩ := hu.sl
  obtain ⟨A', c', rfl⟩ := hv.sl
  obtain ⟨W0, hW0, hB0, hz0, K⟩ := ref_box w s (.slice A (nw9 n) c) (.slice A' (nw9 d) c')
  obtain ⟨W1, hW1, hB1, hz1, KR⟩ := zero_box W0
  have HB0 := Lib.hid hB0
  have HB1 := Lib.hid hB1
  obtain ⟨k0, k1, k2⟩ := K.out W1 hB1
  rw [hz0] at hz1
  have hcell := KR.out W1 (Below.refl _ _)
  rw [hz0] at hcell
  have HCell := Lib.hid hcell
  have hgt : ∀ m : Nat, decide ((0 : Int) < (m : Int)) = !(m == 0) := fun m => by
    cases m with
    | zero => rfl
    | succ m => rw [decide_eq_true (by omega)]; rfl
  clear hu hv hB0 hB1 KR
  have hfin : Hid (∀ (b : Bool) (wz : World), W1.grownBy wz (some (w.heap.size + 1)) → b = (!s && !(nw9 n == 0)) → Ref wz (.agg #[.bool b, .slice A (nw9 n) c, .slice A' (nw9 d) c']) (!s && !(nw9 n == 0)) n d ∧ Below w.heap.size w wz) := fun b wz hg hb => by
    have hno := ref_noint HCell.out
    have hB := btr HB0.out HB1.out
    refine ⟨⟨_, _, by rw [hb], (HU.out.below hB).apart hno hg, (HV.out.below hB).apart hno hg⟩, hB.grown hg hB.size (fun j hj => by injection hj with hj; omega)⟩
  have HN0 : Hid (∀ m, nw9 n = m → (!s && !(nw9 n == 0)) = (!s && !(m == 0))) := fun m hm => by rw [hm]
  generalize hT : (!s && !(nw9 n == 0)) = T at *
  have HT := Lib.hid hT
  clear hT HU HV
  generalize nw9 n = m at *
  generalize nw9 d = md at *
  have hm0 := hgt m
  clear hgt
  rcases Nat.eq_zero_or_pos m with h | h
  · subst h
    cases s
    all_goals
      go_enter Tryz.func34, Tryz.ntmps34
      go_wp2_with (refine wpList_store_row 64 _ _ rfl rfl rfl (w.heap.size + 1) 64 rfl [.bool false, .slice A 0 c, .slice A' md c'] rfl _ hcell rfl info_ref (ref_one _ _ _ _ _ _ _) ?_; intro wz hhz hgz hzz; have HGz := Lib.hid hgz; have HZz := Lib.hid hzz; clear hzz hgz hcell)
      exact bodyPost_ret (v := .agg #[.bool false, .slice A 0 c, .slice A' md c']) (results_cell_row Tryz.results34 _ _ (w.heap.size + 1) 64 _ (0, 0) _ rfl hhz Tryz.underlying64 rfl (by rw [info_ref]; rfl)) rfl
        ⟨_, rfl, hfin.out _ _ HGz.out (by rw [← HT.out]; rfl)⟩
  · have h1 : (m == 0) = false := by rw [beq_eq_false_iff_ne]; omega
    have h2 : decide ((0 : Int) < (m : Int)) = true := by rw [decide_eq_true_iff]; omega
    cases s
    · go_enter Tryz.func34, Tryz.ntmps34
      go_wp2_with (refine wpList_store_row 64 _ _ rfl rfl rfl (w.heap.size + 1) 64 rfl [.bool true, .slice A m c, .slice A' md c'] rfl _ hcell rfl info_ref (ref_one _ _ _ _ _ _ _) ?_; intro wz hhz hgz hzz; have HGz := Lib.hid hgz; have HZz := Lib.hid hzz; clear hzz hgz hcell)
      exact bodyPost_ret (v := .agg #[.bool true, .slice A m c, .slice A' md c']) (results_cell_row Tryz.results34 _ _ (w.heap.size + 1) 64 _ (0, 0) _ rfl hhz Tryz.underlying64 rfl (by rw [info_ref]; rfl)) rfl
        ⟨_, rfl, hfin.out _ _ HGz.out (by rw [← HT.out, h1]; rfl)⟩
    · go_enter Tryz.func34, Tryz.ntmps34
      go_wp2_with (refine wpList_store_row 64 _ _ rfl rfl rfl (w.heap.size + 1) 64 rfl [.bool false, .slice A m c, .slice A' md c'] rfl _ hcell rfl info_ref (ref_one _ _ _ _ _ _ _) ?_; intro wz hhz hgz hzz; have HGz := Lib.hid hgz; have HZz := Lib.hid hzz; clear hzz hgz hcell)
      exact bodyPost_ret (v := .agg #[.bool false, .slice A m c, .slice A' md c']) (results_cell_row Tryz.results34 _ _ (w.heap.size + 1) 64 _ (0, 0) _ rfl hhz Tryz.underlying64 rfl (by rw [info_ref]; rfl)) rfl
        ⟨_, rfl, hfin.out _ _ HGz.out (by rw [← HT.out]; rfl)⟩

theorem r_Neg (w : World) (y : Value) (q : Rat) (h : RefV w y q) :
    Calls Tryz.prog 34 #[y] w fun e w' => ∃ r, e = .returned r ∧ RefV w' r (-q) ∧ Below w.heap.size w w' := by
  refine (r_Neg0 w y _ _ _ h).mono ?_
  rintro e w' ⟨r, rfl, hr, hb⟩
  refine ⟨r, rfl, ?_, hb⟩
  unfold RefV
  rw [show (-q).num = -q.num from rfl, show (-q).den = q.den from rfl, Int.natAbs_neg]
  have : (!decide (q.num < 0) && !(nw9 q.num.natAbs == 0)) = decide (-q.num < 0) := by
    have h9 := nw_eq_zero9 q.num.natAbs
    by_cases hq : q.num < 0
    · rw [decide_eq_true hq, decide_eq_false (by omega)]; rfl
    · rw [decide_eq_false hq]
      by_cases hz : q.num = 0
      · rw [hz, show Int.natAbs 0 = 0 from rfl, nw_zero9]; rfl
      · have : nw9 q.num.natAbs ≠ 0 := by omega
        rw [beq_eq_false_iff_ne.2 this, decide_eq_true (by omega)]; rfl
  rw [← this]
  exact hr

/-- The same with the parts named. -/
def RefO (q : Rat) (w : World) (e : Ending) (w' : World) : Prop := ∃ b A n c A' n' c', e = .returned (.agg #[.bool b, .slice A n c, .slice A' n' c']) ∧ RefV w' (.agg #[.bool b, .slice A n c, .slice A' n' c']) q ∧ Below w.heap.size w w'
theorem RefO.of {q : Rat} {w : World} {e : Ending} {w' : World} (h : ∃ r, e = .returned r ∧ RefV w' r q ∧ Below w.heap.size w w') : RefO q w e w' := by
  obtain ⟨r, rfl, hr, hb⟩ := h
  have h9 := hr
  obtain ⟨u, v, rfl, hu, hv⟩ := h9
  obtain ⟨A, c, rfl⟩ := hu.sl
  obtain ⟨A', c', rfl⟩ := hv.sl
  exact ⟨_, _, _, _, _, _, _, rfl, hr, hb⟩
theorem RefV.apart9 {w w' : World} {v : Value} {q : Rat} {r : Nat} (h : RefV w v q) (hr : ∀ o y, w.cell? ⟨r, o, none⟩ ≠ some (U9 y)) (hg : w.grownBy w' (some r)) : RefV w' v q := by
  obtain ⟨u, v, e, h1, h2⟩ := h
  exact ⟨u, v, e, h1.apart hr hg, h2.apart hr hg⟩

set_option maxRecDepth 100000 in
set_option maxHeartbeats 4000000 in
theorem r_Sub (w : World) (x y : Value) (p q : Rat) (hx : RefV w x p) (hy : RefV w y q) (k1 : RefW p 10000000) (k2 : RefW q 10000000) :
    Calls Tryz.prog 77 #[x, y] w fun e w' => ∃ r, e = .returned r ∧ RefV w' r (p + -q) ∧ Below w.heap.size w w' := by
  have HN : Hid (∀ W, Below w.heap.size w W → Calls Tryz.prog 34 #[y] W (RefO (-q) W)) := fun W hW => (r_Neg W y q (hy.below hW)).mono fun e w' h => RefO.of h
  have HAd : Hid (∀ W, Below w.heap.size w W → ∀ z, RefV W z (-q) → Calls Tryz.prog 76 #[x, z] W (RefO (p + -q) W)) := fun W hW z hz => (r_Add W x z p (-q) (hx.below hW) hz k1 k2.neg).mono fun e w' h => RefO.of h
  obtain ⟨xu, xv, rfl, hxu, hxv⟩ := hx
  obtain ⟨yu, yv, rfl, hyu, hyv⟩ := hy
  obtain ⟨A1, c1, rfl⟩ := hxu.sl
  obtain ⟨A2, c2, rfl⟩ := hxv.sl
  obtain ⟨A3, c3, rfl⟩ := hyu.sl
  obtain ⟨A4, c4, rfl⟩ := hyv.sl
  clear hxu hxv hyu hyv k1 k2
  generalize decide (p.num < 0) = s at *
  generalize decide (q.num < 0) = t at *
  generalize nw9 p.num.natAbs = na at *
  generalize nw9 q.num.natAbs = nb at *
  generalize nw9 p.den = nc at *
  generalize nw9 q.den = nd at *
  obtain ⟨W0, hW0, hB0, hz0, KX⟩ := ref_box w s (.slice A1 na c1) (.slice A2 nc c2)
  obtain ⟨W1, hW1, hB1, hz1, KY⟩ := ref_box W0 t (.slice A3 nb c3) (.slice A4 nd c4)
  obtain ⟨W2, hW2, hB2, hz2, KR⟩ := zero_box W1
  have HB0 := Lib.hid hB0
  have HB1 := Lib.hid hB1
  have HB2 := Lib.hid hB2
  rw [hz0] at hz1
  rw [hz1] at hz2
  clear hB0 hB1 hB2
  have hgz0 : W0.heap.size = w.heap.size + 1 := hz0
  go_enter Tryz.func77, Tryz.ntmps77
  go_wp2_with fail
  have HX2 : Hid (∀ W, Below W1.heap.size W1 W → W.cell? ⟨w.heap.size, 0, none⟩ = some (.bool s) ∧ W.cell? ⟨w.heap.size, 1, none⟩ = some (.slice A1 na c1) ∧ W.cell? ⟨w.heap.size, 2, none⟩ = some (.slice A2 nc c2) ∧
      W.cell? ⟨w.heap.size + 1, 0, none⟩ = some (.bool t) ∧ W.cell? ⟨w.heap.size + 1, 1, none⟩ = some (.slice A3 nb c3) ∧ W.cell? ⟨w.heap.size + 1, 2, none⟩ = some (.slice A4 nd c4)) := fun W hW => by
    obtain ⟨x1, x2, x3⟩ := KX.out W (btr HB1.out hW)
    obtain ⟨y1, y2, y3⟩ := KY.out W hW
    rw [hgz0] at y1 y2 y3
    exact ⟨x1, x2, x3, y1, y2, y3⟩
  have KR2 : Hid (∀ W, Below W2.heap.size W2 W → W.heap[w.heap.size + 1 + 1]? = some (.cells #[.bool false, .slice none 0 0, .slice none 0 0] 64 (0, 0))) := fun W hW => by rw [← hz1]; exact KR.out W hW
  have HLe : Hid (W1.heap.size ≤ w.heap.size + 1 + 1) := by show _ ≤ _; omega
  have HM : Hid (∀ W, Below W2.heap.size W2 W → Below w.heap.size w W) := fun W h => btr HB0.out (btr HB1.out (btr HB2.out h))
  have HL1 : Hid (∀ W, Below W2.heap.size W2 W → Below W1.heap.size W1 W) := fun W h => btr HB2.out h
  have B2d : Below W2.heap.size W2 W2.drew := Below.drew (Below.refl _ _)
  go_region_held3 (fun w' => w'.cell? ⟨w.heap.size, 0, none⟩ = some (.bool s) ∧ w'.cell? ⟨w.heap.size, 1, none⟩ = some (.slice A1 na c1) ∧ w'.cell? ⟨w.heap.size, 2, none⟩ = some (.slice A2 nc c2) ∧
      w'.cell? ⟨w.heap.size + 1, 0, none⟩ = some (.bool t) ∧ w'.cell? ⟨w.heap.size + 1, 1, none⟩ = some (.slice A3 nb c3) ∧ w'.cell? ⟨w.heap.size + 1, 2, none⟩ = some (.slice A4 nd c4))
    (first | exact HX2.out _ ((((HL1.out _ C2).setCell (p := ⟨w.heap.size + 1 + 1, 0, none⟩) HLe.out _).setCell (p := ⟨w.heap.size + 1 + 1, 1, none⟩) HLe.out _).setCell (p := ⟨w.heap.size + 1 + 1, 2, none⟩) HLe.out _) | exact HX2.out _ (HL1.out _ C2) | exact HX2.out _ (HL1.out _ C1) | exact HX2.out _ (HL1.out _ B2d) | exact HX2.out _ (HL1.out _ (Below.refl _ _)))
    (first
      | (go_at_call 34; refine (HN.out _ (HM.out _ B2d)).mono ?_; rintro e w3 ⟨b8, A8, n8, c8, A9, n9, c9, rfl, hva, hb3⟩; have C1 : Below W2.heap.size W2 w3 := btr B2d hb3; have HVa := Lib.hid hva; clear hva)
      | (go_at_call 76; refine (HAd.out _ (HM.out _ C1) _ HVa.out).mono ?_; rintro e w4 ⟨b6, A6, n6, c6, A7, n7, c7, rfl, hvb, hb4⟩; have C2 : Below W2.heap.size W2 w4 := btr C1 hb4; have HVb := Lib.hid hvb; clear hvb; obtain ⟨r0, r1, r2, f0, f1, f2⟩ := res_r (KR2.out _ C2)))
  all_goals
    have hrow := KR2.out _ C2
    have HL := Lib.hid (HM.out _ C2)
    clear hb3 hb4 C1 C2 r0 r1 r2 f0 f1 f2
    have hno := ref_noint hrow
    go_wp2
    exact bodyPost_ret (results_cell_row Tryz.results77 _ _ (w.heap.size + 1 + 1) 64 _ (0, 0) _ rfl (put3 hrow _ _ _) Tryz.underlying64 rfl (by rw [info_ref]; rfl)) rfl
      ⟨_, rfl, HVb.out.apart9 hno (grown3 _ _ _ _ _), HL.out.grown (grown3 _ _ _ _ _) HL.out.size (fun j hj => by injection hj with hj; omega)⟩

set_option maxHeartbeats 2000000 in
theorem r_Cmp (w : World) (x y : Value) (p q : Rat) (hx : RefV w x p) (hy : RefV w y q) (k1 : RefW p 10000000) (k2 : RefW q 10000000) :
    Calls Tryz.prog 75 #[x, y] w fun e w' => e = .returned (.int .i64 (Lib.compareInt (p.num * q.den) (q.num * p.den))) ∧ Below w.heap.size w w' := by
  have HS := Lib.hid (sign_sub p q)
  have HN := Lib.hid (fun W (hW : Below w.heap.size w W) => r_Sub W x y p q (hx.below hW) (hy.below hW) k1 k2)
  generalize Lib.compareInt (p.num * q.den) (q.num * p.den) = R at *
  obtain ⟨xu, xv, rfl, hxu, hxv⟩ := hx
  obtain ⟨yu, yv, rfl, hyu, hyv⟩ := hy
  obtain ⟨A1, c1, rfl⟩ := hxu.sl
  obtain ⟨A2, c2, rfl⟩ := hxv.sl
  obtain ⟨A3, c3, rfl⟩ := hyu.sl
  obtain ⟨A4, c4, rfl⟩ := hyv.sl
  clear hxu hxv hyu hyv k1 k2
  generalize decide (p.num < 0) = s at *
  generalize decide (q.num < 0) = t at *
  generalize nw9 p.num.natAbs = na at *
  generalize nw9 q.num.natAbs = nb at *
  generalize nw9 p.den = nc at *
  generalize nw9 q.den = nd at *
  obtain ⟨W0, hW0, hB0, hz0, KX⟩ := ref_box w s (.slice A1 na c1) (.slice A2 nc c2)
  obtain ⟨W1, hW1, hB1, hz1, KY⟩ := ref_box W0 t (.slice A3 nb c3) (.slice A4 nd c4)
  have HB0 := Lib.hid hB0
  have HB1 := Lib.hid hB1
  rw [hz0] at hz1
  obtain ⟨k0, k1, k2⟩ := KX.out W1 hB1
  obtain ⟨k3, k4, k5⟩ := KY.out W1 (Below.refl _ _)
  rw [hz0] at k3 k4 k5
  clear hB0 hB1
  go_enter Tryz.func75, Tryz.ntmps75
  go_wp2_with fail
  refine (HN.out W1 (btr HB0.out HB1.out)).mono ?_
  rintro e w1 ⟨r, rfl, hr, hb1⟩
  have HR := Lib.hid (r_Sign w1 r _ _ _ hr)
  rw [HS.out] at HR
  have HB2 := Lib.hid (btr HB0.out (btr HB1.out hb1))
  obtain ⟨ru, rv, rfl, hru, hrv⟩ := hr
  obtain ⟨A5, c5, rfl⟩ := hru.sl
  obtain ⟨A6, c6, rfl⟩ := hrv.sl
  clear hru hrv hb1 k0 k1 k2 k3 k4 k5
  generalize decide ((p + -q).num < 0) = ds at *
  generalize nw9 (p + -q).num.natAbs = ne at *
  generalize nw9 (p + -q).den = nf at *
  go_wp2_with fail
  refine HR.out.mono ?_
  rintro e w2 ⟨rfl, hb2⟩
  have HB3 := Lib.hid (btr HB2.out hb2)
  clear hb2
  go_wp2
  go_ret
  exact ⟨rfl, HB3.out⟩
end Go.Proofs.YtnfncdalneifnaaGreatDoor
end

/- The reference's quotient by zero. -/
section
namespace Go.Proofs.YtnfncdalneifnaaGreatDoor
open Go.RowKit Go.Deep

set_option maxHeartbeats 1000000 in
theorem r_Quo_zero (w : World) (x y : Value) (p : Rat) (hx : RefV w x p) (hy : RefV w y 0) :
    Calls Tryz.prog 79 #[x, y] w fun e w' => e = .returned (.tuple #[.agg #[.bool false, .slice none 0 0, .slice none 0 0], .int .i64 2]) ∧ Below w.heap.size w w' := by
  obtain ⟨xu, xv, rfl, hxu, hxv⟩ := hx
  obtain ⟨yu, yv, rfl, hyu, hyv⟩ := hy
  obtain ⟨A1, c1, rfl⟩ := hxu.sl
  obtain ⟨A2, c2, rfl⟩ := hxv.sl
  obtain ⟨A3, c3, rfl⟩ := hyu.sl
  obtain ⟨A4, c4, rfl⟩ := hyv.sl
  rw [show nw9 (0 : Rat).num.natAbs = 0 from nw_zero9]
  generalize decide (p.num < 0) = s at *
  generalize decide ((0 : Rat).num < 0) = t at *
  clear hxu hxv hyu hyv
  generalize nw9 p.num.natAbs = a at *
  generalize nw9 p.den = c at *
  generalize nw9 (0 : Rat).den = d at *
  obtain ⟨W0, hW0, hB0, hz0, KX⟩ := ref_box w s (.slice A1 a c1) (.slice A2 c c2)
  obtain ⟨W1, hW1, hB1, hz1, KY⟩ := ref_box W0 t (.slice A3 0 c3) (.slice A4 d c4)
  obtain ⟨W2, hW2, hB2, hz2, KR⟩ := zero_box W1
  have HB := Lib.hid (btr hB0 (btr hB1 hB2))
  have hz12 : W1.heap.size = w.heap.size + 1 + 1 := by rw [hz1, hz0]
  obtain ⟨y0, y1, y2⟩ := KY.out W2 hB2
  rw [hz0] at y0 y1 y2
  have hcell : W2.heap[w.heap.size + 1 + 1]? = some (.cells #[.bool false, .slice none 0 0, .slice none 0 0] 64 (0, 0)) := by rw [← hz12]; exact KR.out W2 (Below.refl _ _)
  clear hB0 hB1 hB2 hz1 hz2
  go_enter Tryz.func79, Tryz.ntmps79
  go_wp2_with (refine wpList_store_row 64 _ _ rfl rfl rfl (w.heap.size + 1 + 1) 64 rfl [.bool false, .slice none 0 0, .slice none 0 0] rfl _ hcell rfl info_ref (ref_one _ _ _ _ _ _ _) ?_; intro wz hhz hgz hzz; have HGz := Lib.hid hgz; have HZz := Lib.hid hzz; clear hzz hgz hcell)
  exact bodyPost_ret (v := .tuple #[.agg #[.bool false, .slice none 0 0, .slice none 0 0], .int .i64 2]) (results_cell_tmp Tryz.results79 _ _ (w.heap.size + 1 + 1) 64 _ (0, 0) _ rfl hhz Tryz.underlying64 rfl (by rw [info_ref]; rfl)) rfl
    ⟨rfl, HB.out.grown HGz.out HB.out.size (fun j hj => by injection hj with hj; omega)⟩
end Go.Proofs.YtnfncdalneifnaaGreatDoor
end

/- The reference's arithmetic of values. -/
section
namespace Go.Proofs.YtnfncdalneifnaaGreatDoor
open Go.RowKit Go.Deep

set_option maxRecDepth 100000 in
set_option maxHeartbeats 8000000 in
theorem r_arith12 (w : World) (x y : Value) (p q : Rat) (hx : RefV w x p) (hy : RefV w y q) (k1 : RefW p 10000000) (k2 : RefW q 10000000) (hq : q ≠ 0) :
    Calls Tryz.prog 37 #[.int .i64 12, x, y] w fun e w' => e = .returned (V (valK (p / q)) (valN (p / q)) (valD (p / q)) noS) ∧ Below w.heap.size w w' := by
  have HX0 := Lib.hid (fun W (hW : Below w.heap.size w W) => hx.below hW)
  have HY0 := Lib.hid (fun W (hW : Below w.heap.size w W) => hy.below hW)
  obtain ⟨xu, xv, rfl, hxu, hxv⟩ := hx
  obtain ⟨yu, yv, rfl, hyu, hyv⟩ := hy
  obtain ⟨A1, c1, rfl⟩ := hxu.sl
  obtain ⟨A2, c2, rfl⟩ := hxv.sl
  obtain ⟨A3, c3, rfl⟩ := hyu.sl
  obtain ⟨A4, c4, rfl⟩ := hyv.sl
  clear hxu hxv hyu hyv
  have HOp := Lib.hid (fun W (hW : Below w.heap.size w W) => r_Quo W _ _ p q (HX0.out W hW) (HY0.out W hW) k1 k2 hq)
  have HV := Lib.hid (fun W r (h : RefV W r (p / q)) => r_Value W r (p / q) h)
  generalize valK (p / q) = vk at *
  generalize valN (p / q) = vn at *
  generalize valD (p / q) = vd at *
  generalize decide (p.num < 0) = s at *
  generalize decide (q.num < 0) = t at *
  generalize nw9 p.num.natAbs = m1 at *
  generalize nw9 p.den = m2 at *
  generalize nw9 q.num.natAbs = m3 at *
  generalize nw9 q.den = m4 at *
  obtain ⟨W0, hW0, hB0, hz0, KX⟩ := ref_box w s (.slice A1 m1 c1) (.slice A2 m2 c2)
  obtain ⟨W1, hW1, hB1, hz1, KY⟩ := ref_box W0 t (.slice A3 m3 c3) (.slice A4 m4 c4)
  obtain ⟨W2, hW2, hB2, hz2, KR⟩ := valz_box W1
  have HB0 := Lib.hid hB0
  have HB1 := Lib.hid hB1
  have HB2 := Lib.hid hB2
  rw [hz0] at hz1
  rw [hz1] at hz2
  clear hB0 hB1 hB2
  have hgz0 : W0.heap.size = w.heap.size + 1 := hz0
  have HX1 : Hid (∀ W, Below W1.heap.size W1 W → W.cell? ⟨w.heap.size, 0, none⟩ = some (.bool s) ∧ W.cell? ⟨w.heap.size, 1, none⟩ = some (.slice A1 m1 c1) ∧ W.cell? ⟨w.heap.size, 2, none⟩ = some (.slice A2 m2 c2) ∧ W.cell? ⟨w.heap.size + 1, 0, none⟩ = some (.bool t) ∧ W.cell? ⟨w.heap.size + 1, 1, none⟩ = some (.slice A3 m3 c3) ∧ W.cell? ⟨w.heap.size + 1, 2, none⟩ = some (.slice A4 m4 c4)) := fun W hW => by
    obtain ⟨x1, x2, x3⟩ := KX.out W (btr HB1.out hW)
    obtain ⟨y1, y2, y3⟩ := KY.out W hW
    rw [hgz0] at y1 y2 y3
    exact ⟨x1, x2, x3, y1, y2, y3⟩
  have HX2 : Hid (∀ W, Below W2.heap.size W2 W → W.cell? ⟨w.heap.size, 0, none⟩ = some (.bool s) ∧ W.cell? ⟨w.heap.size, 1, none⟩ = some (.slice A1 m1 c1) ∧ W.cell? ⟨w.heap.size, 2, none⟩ = some (.slice A2 m2 c2) ∧ W.cell? ⟨w.heap.size + 1, 0, none⟩ = some (.bool t) ∧ W.cell? ⟨w.heap.size + 1, 1, none⟩ = some (.slice A3 m3 c3) ∧ W.cell? ⟨w.heap.size + 1, 2, none⟩ = some (.slice A4 m4 c4)) := fun W hW => HX1.out W (btr HB2.out hW)
  have KR2 : Hid (∀ W, Below W2.heap.size W2 W → W.heap[w.heap.size + 1 + 1]? = some (.cells #[.int .i64 0, .int .i64 0, .int .i64 0, .string ⟨#[]⟩] 25 (0, 0))) := fun W hW => by rw [← hz1]; exact KR.out W hW
  have HLe : Hid (W1.heap.size ≤ w.heap.size + 1 + 1) := by show _ ≤ _; omega
  have HM : Hid (∀ W, Below W2.heap.size W2 W → Below w.heap.size w W) := fun W h => btr HB0.out (btr HB1.out (btr HB2.out h))
  have HL1 : Hid (∀ W, Below W2.heap.size W2 W → Below W1.heap.size W1 W) := fun W h => btr HB2.out h
  obtain ⟨x0, x1, x2, y0, y1, y2⟩ := HX2.out W2 (Below.refl _ _)
  go_enter Tryz.func37, Tryz.ntmps37
  go_wp2_with fail
  clear x0 x1 x2 y0 y1 y2
  have B2d : Below W2.heap.size W2 W2.drew := Below.drew (Below.refl _ _)
  refine (HOp.out _ (HM.out _ (Below.refl _ _))).mono ?_
  rintro e w3 ⟨r, rfl, hr, hb3⟩
  have HR3 := Lib.hid hr
  obtain ⟨ru, rv, rfl, hru, hrv⟩ := hr
  obtain ⟨A5, c5, rfl⟩ := hru.sl
  obtain ⟨A6, c6, rfl⟩ := hrv.sl
  clear hru hrv
  generalize decide ((p / q).num < 0) = sr at *
  generalize nw9 (p / q).num.natAbs = m5 at *
  generalize nw9 (p / q).den = m6 at *
  obtain ⟨w4, hw4, hb4, hz4, K4⟩ := ref_box w3 sr (.slice A5 m5 c5) (.slice A6 m6 c6)
  have C1 := Lib.hid (btr hb3 hb4)
  have HR := Lib.hid (HR3.out.below hb4)
  obtain ⟨z0, z1, z2⟩ := K4.out w4 (Below.refl _ _)
  clear hb3 hb4
  go_wp2_with fail
  refine (HV.out _ _ HR.out).mono ?_
  rintro e w5 ⟨rfl, hb5⟩
  have C2 := Lib.hid (btr C1.out hb5)
  clear hb5 z0 z1 z2
  obtain ⟨r0, r1, r2, r3, f0, f1, f2, f3⟩ := res_at (KR2.out _ C2.out)
  have hrow := KR2.out _ C2.out
  have HL := Lib.hid (HM.out _ C2.out)
  go_wp2
  exact bodyPost_ret (v := V vk vn vd noS) (results_cell_row Tryz.results37 _ _ (w.heap.size + 1 + 1) 25 _ (0, 0) _ rfl (put4 hrow _ _ _ _) Tryz.underlying25 rfl (by rw [info_v4]; rfl)) rfl ⟨rfl, below4 HL.out _ (by omega) _ _ _ _⟩
set_option maxRecDepth 100000 in
set_option maxHeartbeats 8000000 in
theorem r_arith12z (w : World) (x y : Value) (p : Rat) (hx : RefV w x p) (hy : RefV w y 0) :
    Calls Tryz.prog 37 #[.int .i64 12, x, y] w fun e w' => e = .returned (V 0 3 0 noS) ∧ Below w.heap.size w w' := by
  have HX0 := Lib.hid (fun W (hW : Below w.heap.size w W) => hx.below hW)
  have HY0 := Lib.hid (fun W (hW : Below w.heap.size w W) => hy.below hW)
  obtain ⟨xu, xv, rfl, hxu, hxv⟩ := hx
  obtain ⟨yu, yv, rfl, hyu, hyv⟩ := hy
  obtain ⟨A1, c1, rfl⟩ := hxu.sl
  obtain ⟨A2, c2, rfl⟩ := hxv.sl
  obtain ⟨A3, c3, rfl⟩ := hyu.sl
  obtain ⟨A4, c4, rfl⟩ := hyv.sl
  clear hxu hxv hyu hyv
  have HOp := Lib.hid (fun W (hW : Below w.heap.size w W) => r_Quo_zero W _ _ p (HX0.out W hW) (HY0.out W hW))
  have HMi := Lib.hid (fun W => r_MissingN 3 W)
  generalize decide (p.num < 0) = s at *
  generalize decide ((0 : Rat).num < 0) = t at *
  generalize nw9 p.num.natAbs = m1 at *
  generalize nw9 p.den = m2 at *
  generalize nw9 (0 : Rat).num.natAbs = m3 at *
  generalize nw9 (0 : Rat).den = m4 at *
  obtain ⟨W0, hW0, hB0, hz0, KX⟩ := ref_box w s (.slice A1 m1 c1) (.slice A2 m2 c2)
  obtain ⟨W1, hW1, hB1, hz1, KY⟩ := ref_box W0 t (.slice A3 m3 c3) (.slice A4 m4 c4)
  obtain ⟨W2, hW2, hB2, hz2, KR⟩ := valz_box W1
  have HB0 := Lib.hid hB0
  have HB1 := Lib.hid hB1
  have HB2 := Lib.hid hB2
  rw [hz0] at hz1
  rw [hz1] at hz2
  clear hB0 hB1 hB2
  have hgz0 : W0.heap.size = w.heap.size + 1 := hz0
  have HX1 : Hid (∀ W, Below W1.heap.size W1 W → W.cell? ⟨w.heap.size, 0, none⟩ = some (.bool s) ∧ W.cell? ⟨w.heap.size, 1, none⟩ = some (.slice A1 m1 c1) ∧ W.cell? ⟨w.heap.size, 2, none⟩ = some (.slice A2 m2 c2) ∧ W.cell? ⟨w.heap.size + 1, 0, none⟩ = some (.bool t) ∧ W.cell? ⟨w.heap.size + 1, 1, none⟩ = some (.slice A3 m3 c3) ∧ W.cell? ⟨w.heap.size + 1, 2, none⟩ = some (.slice A4 m4 c4)) := fun W hW => by
    obtain ⟨x1, x2, x3⟩ := KX.out W (btr HB1.out hW)
    obtain ⟨y1, y2, y3⟩ := KY.out W hW
    rw [hgz0] at y1 y2 y3
    exact ⟨x1, x2, x3, y1, y2, y3⟩
  have HX2 : Hid (∀ W, Below W2.heap.size W2 W → W.cell? ⟨w.heap.size, 0, none⟩ = some (.bool s) ∧ W.cell? ⟨w.heap.size, 1, none⟩ = some (.slice A1 m1 c1) ∧ W.cell? ⟨w.heap.size, 2, none⟩ = some (.slice A2 m2 c2) ∧ W.cell? ⟨w.heap.size + 1, 0, none⟩ = some (.bool t) ∧ W.cell? ⟨w.heap.size + 1, 1, none⟩ = some (.slice A3 m3 c3) ∧ W.cell? ⟨w.heap.size + 1, 2, none⟩ = some (.slice A4 m4 c4)) := fun W hW => HX1.out W (btr HB2.out hW)
  have KR2 : Hid (∀ W, Below W2.heap.size W2 W → W.heap[w.heap.size + 1 + 1]? = some (.cells #[.int .i64 0, .int .i64 0, .int .i64 0, .string ⟨#[]⟩] 25 (0, 0))) := fun W hW => by rw [← hz1]; exact KR.out W hW
  have HLe : Hid (W1.heap.size ≤ w.heap.size + 1 + 1) := by show _ ≤ _; omega
  have HM : Hid (∀ W, Below W2.heap.size W2 W → Below w.heap.size w W) := fun W h => btr HB0.out (btr HB1.out (btr HB2.out h))
  have HL1 : Hid (∀ W, Below W2.heap.size W2 W → Below W1.heap.size W1 W) := fun W h => btr HB2.out h
  obtain ⟨x0, x1, x2, y0, y1, y2⟩ := HX2.out W2 (Below.refl _ _)
  go_enter Tryz.func37, Tryz.ntmps37
  go_wp2_with fail
  clear x0 x1 x2 y0 y1 y2
  have B2d : Below W2.heap.size W2 W2.drew := Below.drew (Below.refl _ _)
  refine (HOp.out _ (HM.out _ (Below.refl _ _))).mono ?_
  rintro e w3 ⟨rfl, hb3⟩
  have C1 := Lib.hid (Below.alloc hb3 hb3.size (.cells #[.bool false, .slice none 0 0, .slice none 0 0] 64))
  clear hb3
  go_wp2_with fail
  refine (HMi.out _).mono ?_
  rintro e w5 ⟨rfl, hb5⟩
  have C2 := Lib.hid (btr C1.out hb5)
  clear hb5
  obtain ⟨r0, r1, r2, r3, f0, f1, f2, f3⟩ := res_at (KR2.out _ C2.out)
  have hrow := KR2.out _ C2.out
  have HL := Lib.hid (HM.out _ C2.out)
  go_wp2
  exact bodyPost_ret (v := V 0 3 0 noS) (results_cell_row Tryz.results37 _ _ (w.heap.size + 1 + 1) 25 _ (0, 0) _ rfl (put4 hrow _ _ _ _) Tryz.underlying25 rfl (by rw [info_v4]; rfl)) rfl ⟨rfl, below4 HL.out _ (by omega) _ _ _ _⟩
set_option maxRecDepth 100000 in
set_option maxHeartbeats 8000000 in
theorem r_arith9 (w : World) (x y : Value) (p q : Rat) (hx : RefV w x p) (hy : RefV w y q) (k1 : RefW p 10000000) (k2 : RefW q 10000000) :
    Calls Tryz.prog 37 #[.int .i64 9, x, y] w fun e w' => e = .returned (V (valK (p + q)) (valN (p + q)) (valD (p + q)) noS) ∧ Below w.heap.size w w' := by
  have HX0 := Lib.hid (fun W (hW : Below w.heap.size w W) => hx.below hW)
  have HY0 := Lib.hid (fun W (hW : Below w.heap.size w W) => hy.below hW)
  obtain ⟨xu, xv, rfl, hxu, hxv⟩ := hx
  obtain ⟨yu, yv, rfl, hyu, hyv⟩ := hy
  obtain ⟨A1, c1, rfl⟩ := hxu.sl
  obtain ⟨A2, c2, rfl⟩ := hxv.sl
  obtain ⟨A3, c3, rfl⟩ := hyu.sl
  obtain ⟨A4, c4, rfl⟩ := hyv.sl
  clear hxu hxv hyu hyv
  have HOp := Lib.hid (fun W (hW : Below w.heap.size w W) => r_Add W _ _ p q (HX0.out W hW) (HY0.out W hW) k1 k2)
  have HV := Lib.hid (fun W r (h : RefV W r (p + q)) => r_Value W r (p + q) h)
  generalize valK (p + q) = vk at *
  generalize valN (p + q) = vn at *
  generalize valD (p + q) = vd at *
  generalize decide (p.num < 0) = s at *
  generalize decide (q.num < 0) = t at *
  generalize nw9 p.num.natAbs = m1 at *
  generalize nw9 p.den = m2 at *
  generalize nw9 q.num.natAbs = m3 at *
  generalize nw9 q.den = m4 at *
  obtain ⟨W0, hW0, hB0, hz0, KX⟩ := ref_box w s (.slice A1 m1 c1) (.slice A2 m2 c2)
  obtain ⟨W1, hW1, hB1, hz1, KY⟩ := ref_box W0 t (.slice A3 m3 c3) (.slice A4 m4 c4)
  obtain ⟨W2, hW2, hB2, hz2, KR⟩ := valz_box W1
  have HB0 := Lib.hid hB0
  have HB1 := Lib.hid hB1
  have HB2 := Lib.hid hB2
  rw [hz0] at hz1
  rw [hz1] at hz2
  clear hB0 hB1 hB2
  have hgz0 : W0.heap.size = w.heap.size + 1 := hz0
  have HX1 : Hid (∀ W, Below W1.heap.size W1 W → W.cell? ⟨w.heap.size, 0, none⟩ = some (.bool s) ∧ W.cell? ⟨w.heap.size, 1, none⟩ = some (.slice A1 m1 c1) ∧ W.cell? ⟨w.heap.size, 2, none⟩ = some (.slice A2 m2 c2) ∧ W.cell? ⟨w.heap.size + 1, 0, none⟩ = some (.bool t) ∧ W.cell? ⟨w.heap.size + 1, 1, none⟩ = some (.slice A3 m3 c3) ∧ W.cell? ⟨w.heap.size + 1, 2, none⟩ = some (.slice A4 m4 c4)) := fun W hW => by
    obtain ⟨x1, x2, x3⟩ := KX.out W (btr HB1.out hW)
    obtain ⟨y1, y2, y3⟩ := KY.out W hW
    rw [hgz0] at y1 y2 y3
    exact ⟨x1, x2, x3, y1, y2, y3⟩
  have HX2 : Hid (∀ W, Below W2.heap.size W2 W → W.cell? ⟨w.heap.size, 0, none⟩ = some (.bool s) ∧ W.cell? ⟨w.heap.size, 1, none⟩ = some (.slice A1 m1 c1) ∧ W.cell? ⟨w.heap.size, 2, none⟩ = some (.slice A2 m2 c2) ∧ W.cell? ⟨w.heap.size + 1, 0, none⟩ = some (.bool t) ∧ W.cell? ⟨w.heap.size + 1, 1, none⟩ = some (.slice A3 m3 c3) ∧ W.cell? ⟨w.heap.size + 1, 2, none⟩ = some (.slice A4 m4 c4)) := fun W hW => HX1.out W (btr HB2.out hW)
  have KR2 : Hid (∀ W, Below W2.heap.size W2 W → W.heap[w.heap.size + 1 + 1]? = some (.cells #[.int .i64 0, .int .i64 0, .int .i64 0, .string ⟨#[]⟩] 25 (0, 0))) := fun W hW => by rw [← hz1]; exact KR.out W hW
  have HLe : Hid (W1.heap.size ≤ w.heap.size + 1 + 1) := by show _ ≤ _; omega
  have HM : Hid (∀ W, Below W2.heap.size W2 W → Below w.heap.size w W) := fun W h => btr HB0.out (btr HB1.out (btr HB2.out h))
  have HL1 : Hid (∀ W, Below W2.heap.size W2 W → Below W1.heap.size W1 W) := fun W h => btr HB2.out h
  obtain ⟨x0, x1, x2, y0, y1, y2⟩ := HX2.out W2 (Below.refl _ _)
  go_enter Tryz.func37, Tryz.ntmps37
  go_wp2_with fail
  clear x0 x1 x2 y0 y1 y2
  have B2d : Below W2.heap.size W2 W2.drew := Below.drew (Below.refl _ _)
  refine (HOp.out _ (HM.out _ (Below.refl _ _))).mono ?_
  rintro e w3 ⟨r, rfl, hr, hb3⟩
  have C1 := Lib.hid hb3
  have HR := Lib.hid hr
  clear hb3 hr
  go_wp2_with fail
  refine (HV.out _ _ HR.out).mono ?_
  rintro e w4 ⟨rfl, hb4⟩
  have C2 := Lib.hid (btr C1.out hb4)
  clear hb4
  obtain ⟨r0, r1, r2, r3, f0, f1, f2, f3⟩ := res_at (KR2.out _ C2.out)
  have hrow := KR2.out _ C2.out
  have HL := Lib.hid (HM.out _ C2.out)
  go_wp2
  exact bodyPost_ret (v := V vk vn vd noS) (results_cell_row Tryz.results37 _ _ (w.heap.size + 1 + 1) 25 _ (0, 0) _ rfl (put4 hrow _ _ _ _) Tryz.underlying25 rfl (by rw [info_v4]; rfl)) rfl ⟨rfl, below4 HL.out _ (by omega) _ _ _ _⟩
set_option maxRecDepth 100000 in
set_option maxHeartbeats 8000000 in
theorem r_arith10 (w : World) (x y : Value) (p q : Rat) (hx : RefV w x p) (hy : RefV w y q) (k1 : RefW p 10000000) (k2 : RefW q 10000000) :
    Calls Tryz.prog 37 #[.int .i64 10, x, y] w fun e w' => e = .returned (V (valK (p - q)) (valN (p - q)) (valD (p - q)) noS) ∧ Below w.heap.size w w' := by
  have HX0 := Lib.hid (fun W (hW : Below w.heap.size w W) => hx.below hW)
  have HY0 := Lib.hid (fun W (hW : Below w.heap.size w W) => hy.below hW)
  obtain ⟨xu, xv, rfl, hxu, hxv⟩ := hx
  obtain ⟨yu, yv, rfl, hyu, hyv⟩ := hy
  obtain ⟨A1, c1, rfl⟩ := hxu.sl
  obtain ⟨A2, c2, rfl⟩ := hxv.sl
  obtain ⟨A3, c3, rfl⟩ := hyu.sl
  obtain ⟨A4, c4, rfl⟩ := hyv.sl
  clear hxu hxv hyu hyv
  have HOp : Hid (∀ W, Below w.heap.size w W → Calls Tryz.prog 77 #[.agg #[.bool (decide (p.num < 0)), .slice A1 (nw9 p.num.natAbs) c1, .slice A2 (nw9 p.den) c2], .agg #[.bool (decide (q.num < 0)), .slice A3 (nw9 q.num.natAbs) c3, .slice A4 (nw9 q.den) c4]] W fun e w' => ∃ r, e = .returned r ∧ RefV w' r (p - q) ∧ Below W.heap.size W w') := fun W hW => by
    have h9 := r_Sub W _ _ p q (HX0.out W hW) (HY0.out W hW) k1 k2
    rw [← Rat.sub_eq_add_neg] at h9
    exact h9
  have HV := Lib.hid (fun W r (h : RefV W r (p - q)) => r_Value W r (p - q) h)
  generalize valK (p - q) = vk at *
  generalize valN (p - q) = vn at *
  generalize valD (p - q) = vd at *
  generalize decide (p.num < 0) = s at *
  generalize decide (q.num < 0) = t at *
  generalize nw9 p.num.natAbs = m1 at *
  generalize nw9 p.den = m2 at *
  generalize nw9 q.num.natAbs = m3 at *
  generalize nw9 q.den = m4 at *
  obtain ⟨W0, hW0, hB0, hz0, KX⟩ := ref_box w s (.slice A1 m1 c1) (.slice A2 m2 c2)
  obtain ⟨W1, hW1, hB1, hz1, KY⟩ := ref_box W0 t (.slice A3 m3 c3) (.slice A4 m4 c4)
  obtain ⟨W2, hW2, hB2, hz2, KR⟩ := valz_box W1
  have HB0 := Lib.hid hB0
  have HB1 := Lib.hid hB1
  have HB2 := Lib.hid hB2
  rw [hz0] at hz1
  rw [hz1] at hz2
  clear hB0 hB1 hB2
  have hgz0 : W0.heap.size = w.heap.size + 1 := hz0
  have HX1 : Hid (∀ W, Below W1.heap.size W1 W → W.cell? ⟨w.heap.size, 0, none⟩ = some (.bool s) ∧ W.cell? ⟨w.heap.size, 1, none⟩ = some (.slice A1 m1 c1) ∧ W.cell? ⟨w.heap.size, 2, none⟩ = some (.slice A2 m2 c2) ∧ W.cell? ⟨w.heap.size + 1, 0, none⟩ = some (.bool t) ∧ W.cell? ⟨w.heap.size + 1, 1, none⟩ = some (.slice A3 m3 c3) ∧ W.cell? ⟨w.heap.size + 1, 2, none⟩ = some (.slice A4 m4 c4)) := fun W hW => by
    obtain ⟨x1, x2, x3⟩ := KX.out W (btr HB1.out hW)
    obtain ⟨y1, y2, y3⟩ := KY.out W hW
    rw [hgz0] at y1 y2 y3
    exact ⟨x1, x2, x3, y1, y2, y3⟩
  have HX2 : Hid (∀ W, Below W2.heap.size W2 W → W.cell? ⟨w.heap.size, 0, none⟩ = some (.bool s) ∧ W.cell? ⟨w.heap.size, 1, none⟩ = some (.slice A1 m1 c1) ∧ W.cell? ⟨w.heap.size, 2, none⟩ = some (.slice A2 m2 c2) ∧ W.cell? ⟨w.heap.size + 1, 0, none⟩ = some (.bool t) ∧ W.cell? ⟨w.heap.size + 1, 1, none⟩ = some (.slice A3 m3 c3) ∧ W.cell? ⟨w.heap.size + 1, 2, none⟩ = some (.slice A4 m4 c4)) := fun W hW => HX1.out W (btr HB2.out hW)
  have KR2 : Hid (∀ W, Below W2.heap.size W2 W → W.heap[w.heap.size + 1 + 1]? = some (.cells #[.int .i64 0, .int .i64 0, .int .i64 0, .string ⟨#[]⟩] 25 (0, 0))) := fun W hW => by rw [← hz1]; exact KR.out W hW
  have HLe : Hid (W1.heap.size ≤ w.heap.size + 1 + 1) := by show _ ≤ _; omega
  have HM : Hid (∀ W, Below W2.heap.size W2 W → Below w.heap.size w W) := fun W h => btr HB0.out (btr HB1.out (btr HB2.out h))
  have HL1 : Hid (∀ W, Below W2.heap.size W2 W → Below W1.heap.size W1 W) := fun W h => btr HB2.out h
  obtain ⟨x0, x1, x2, y0, y1, y2⟩ := HX2.out W2 (Below.refl _ _)
  go_enter Tryz.func37, Tryz.ntmps37
  go_wp2_with fail
  clear x0 x1 x2 y0 y1 y2
  have B2d : Below W2.heap.size W2 W2.drew := Below.drew (Below.refl _ _)
  refine (HOp.out _ (HM.out _ (Below.refl _ _))).mono ?_
  rintro e w3 ⟨r, rfl, hr, hb3⟩
  have C1 := Lib.hid hb3
  have HR := Lib.hid hr
  clear hb3 hr
  go_wp2_with fail
  refine (HV.out _ _ HR.out).mono ?_
  rintro e w4 ⟨rfl, hb4⟩
  have C2 := Lib.hid (btr C1.out hb4)
  clear hb4
  obtain ⟨r0, r1, r2, r3, f0, f1, f2, f3⟩ := res_at (KR2.out _ C2.out)
  have hrow := KR2.out _ C2.out
  have HL := Lib.hid (HM.out _ C2.out)
  go_wp2
  exact bodyPost_ret (v := V vk vn vd noS) (results_cell_row Tryz.results37 _ _ (w.heap.size + 1 + 1) 25 _ (0, 0) _ rfl (put4 hrow _ _ _ _) Tryz.underlying25 rfl (by rw [info_v4]; rfl)) rfl ⟨rfl, below4 HL.out _ (by omega) _ _ _ _⟩
set_option maxRecDepth 100000 in
set_option maxHeartbeats 8000000 in
theorem r_arith11 (w : World) (x y : Value) (p q : Rat) (hx : RefV w x p) (hy : RefV w y q) (k1 : RefW p 10000000) (k2 : RefW q 10000000) :
    Calls Tryz.prog 37 #[.int .i64 11, x, y] w fun e w' => e = .returned (V (valK (p * q)) (valN (p * q)) (valD (p * q)) noS) ∧ Below w.heap.size w w' := by
  have HX0 := Lib.hid (fun W (hW : Below w.heap.size w W) => hx.below hW)
  have HY0 := Lib.hid (fun W (hW : Below w.heap.size w W) => hy.below hW)
  obtain ⟨xu, xv, rfl, hxu, hxv⟩ := hx
  obtain ⟨yu, yv, rfl, hyu, hyv⟩ := hy
  obtain ⟨A1, c1, rfl⟩ := hxu.sl
  obtain ⟨A2, c2, rfl⟩ := hxv.sl
  obtain ⟨A3, c3, rfl⟩ := hyu.sl
  obtain ⟨A4, c4, rfl⟩ := hyv.sl
  clear hxu hxv hyu hyv
  have HOp := Lib.hid (fun W (hW : Below w.heap.size w W) => r_Mul W _ _ p q (HX0.out W hW) (HY0.out W hW) k1 k2)
  have HV := Lib.hid (fun W r (h : RefV W r (p * q)) => r_Value W r (p * q) h)
  generalize valK (p * q) = vk at *
  generalize valN (p * q) = vn at *
  generalize valD (p * q) = vd at *
  generalize decide (p.num < 0) = s at *
  generalize decide (q.num < 0) = t at *
  generalize nw9 p.num.natAbs = m1 at *
  generalize nw9 p.den = m2 at *
  generalize nw9 q.num.natAbs = m3 at *
  generalize nw9 q.den = m4 at *
  obtain ⟨W0, hW0, hB0, hz0, KX⟩ := ref_box w s (.slice A1 m1 c1) (.slice A2 m2 c2)
  obtain ⟨W1, hW1, hB1, hz1, KY⟩ := ref_box W0 t (.slice A3 m3 c3) (.slice A4 m4 c4)
  obtain ⟨W2, hW2, hB2, hz2, KR⟩ := valz_box W1
  have HB0 := Lib.hid hB0
  have HB1 := Lib.hid hB1
  have HB2 := Lib.hid hB2
  rw [hz0] at hz1
  rw [hz1] at hz2
  clear hB0 hB1 hB2
  have hgz0 : W0.heap.size = w.heap.size + 1 := hz0
  have HX1 : Hid (∀ W, Below W1.heap.size W1 W → W.cell? ⟨w.heap.size, 0, none⟩ = some (.bool s) ∧ W.cell? ⟨w.heap.size, 1, none⟩ = some (.slice A1 m1 c1) ∧ W.cell? ⟨w.heap.size, 2, none⟩ = some (.slice A2 m2 c2) ∧ W.cell? ⟨w.heap.size + 1, 0, none⟩ = some (.bool t) ∧ W.cell? ⟨w.heap.size + 1, 1, none⟩ = some (.slice A3 m3 c3) ∧ W.cell? ⟨w.heap.size + 1, 2, none⟩ = some (.slice A4 m4 c4)) := fun W hW => by
    obtain ⟨x1, x2, x3⟩ := KX.out W (btr HB1.out hW)
    obtain ⟨y1, y2, y3⟩ := KY.out W hW
    rw [hgz0] at y1 y2 y3
    exact ⟨x1, x2, x3, y1, y2, y3⟩
  have HX2 : Hid (∀ W, Below W2.heap.size W2 W → W.cell? ⟨w.heap.size, 0, none⟩ = some (.bool s) ∧ W.cell? ⟨w.heap.size, 1, none⟩ = some (.slice A1 m1 c1) ∧ W.cell? ⟨w.heap.size, 2, none⟩ = some (.slice A2 m2 c2) ∧ W.cell? ⟨w.heap.size + 1, 0, none⟩ = some (.bool t) ∧ W.cell? ⟨w.heap.size + 1, 1, none⟩ = some (.slice A3 m3 c3) ∧ W.cell? ⟨w.heap.size + 1, 2, none⟩ = some (.slice A4 m4 c4)) := fun W hW => HX1.out W (btr HB2.out hW)
  have KR2 : Hid (∀ W, Below W2.heap.size W2 W → W.heap[w.heap.size + 1 + 1]? = some (.cells #[.int .i64 0, .int .i64 0, .int .i64 0, .string ⟨#[]⟩] 25 (0, 0))) := fun W hW => by rw [← hz1]; exact KR.out W hW
  have HLe : Hid (W1.heap.size ≤ w.heap.size + 1 + 1) := by show _ ≤ _; omega
  have HM : Hid (∀ W, Below W2.heap.size W2 W → Below w.heap.size w W) := fun W h => btr HB0.out (btr HB1.out (btr HB2.out h))
  have HL1 : Hid (∀ W, Below W2.heap.size W2 W → Below W1.heap.size W1 W) := fun W h => btr HB2.out h
  obtain ⟨x0, x1, x2, y0, y1, y2⟩ := HX2.out W2 (Below.refl _ _)
  go_enter Tryz.func37, Tryz.ntmps37
  go_wp2_with fail
  clear x0 x1 x2 y0 y1 y2
  have B2d : Below W2.heap.size W2 W2.drew := Below.drew (Below.refl _ _)
  refine (HOp.out _ (HM.out _ (Below.refl _ _))).mono ?_
  rintro e w3 ⟨r, rfl, hr, hb3⟩
  have C1 := Lib.hid hb3
  have HR := Lib.hid hr
  clear hb3 hr
  go_wp2_with fail
  refine (HV.out _ _ HR.out).mono ?_
  rintro e w4 ⟨rfl, hb4⟩
  have C2 := Lib.hid (btr C1.out hb4)
  clear hb4
  obtain ⟨r0, r1, r2, r3, f0, f1, f2, f3⟩ := res_at (KR2.out _ C2.out)
  have hrow := KR2.out _ C2.out
  have HL := Lib.hid (HM.out _ C2.out)
  go_wp2
  exact bodyPost_ret (v := V vk vn vd noS) (results_cell_row Tryz.results37 _ _ (w.heap.size + 1 + 1) 25 _ (0, 0) _ rfl (put4 hrow _ _ _ _) Tryz.underlying25 rfl (by rw [info_v4]; rfl)) rfl ⟨rfl, below4 HL.out _ (by omega) _ _ _ _⟩
end Go.Proofs.YtnfncdalneifnaaGreatDoor
end

/- The order of any two values. -/
section
namespace Go.Proofs.YtnfncdalneifnaaGreatDoor
open Go Go.RowKit Go.Deep

theorem mul_bound {a b : Int} (ha : -1099511627776 ≤ a ∧ a ≤ 1099511627776) (hb : 1 ≤ b ∧ b ≤ 1099511627776) : -1208925819614629174706176 ≤ a * b ∧ a * b ≤ 1208925819614629174706176 := by
  have h1 : a * b ≤ 1099511627776 * b := Int.mul_le_mul_of_nonneg_right ha.2 (by omega)
  have h2 : -1099511627776 * b ≤ a * b := Int.mul_le_mul_of_nonneg_right ha.1 (by omega)
  omega
set_option maxRecDepth 100000 in
set_option maxHeartbeats 2000000 in
theorem c_sp (a b : Int) (w : World) (ha : -1099511627776 ≤ a ∧ a ≤ 1099511627776) (hb : 1 ≤ b ∧ b ≤ 1099511627776) :
    Calls Tryz.prog 97 #[.int .i64 a, .int .i64 b] w fun e w' => e = .returned (.tuple #[.int .i64 (a * b / 18446744073709551616), .int .u64 (a * b % 18446744073709551616)]) ∧ w = w' := by
  have hab := mul_bound ha hb
  have eb : IntKind.u64.wrap b = b := by rw [IntKind.wrap_u64]; omega
  by_cases h0 : a < 0
  · have ea : IntKind.u64.wrap a = a + 18446744073709551616 := by rw [IntKind.wrap_u64]; omega
    obtain ⟨x, hx⟩ : ∃ x : Nat, a + 18446744073709551616 = (x : Int) := ⟨(a + 18446744073709551616).toNat, by omega⟩
    obtain ⟨y, rfl⟩ : ∃ y : Nat, b = (y : Int) := ⟨b.toNat, by omega⟩
    have hxy : ((x * y : Nat) : Int) = a * y + 18446744073709551616 * y := by push_cast; rw [← hx, Int.add_mul]
    have hM := Tryz.bits_Mul64 x y (by omega) (by omega) w
    rw [Int.natCast_ediv, Int.natCast_emod, hxy] at hM
    rw [show (((18446744073709551616 : Nat)) : Int) = 18446744073709551616 from rfl] at hM
    rw [show (a * (y : Int) + 18446744073709551616 * y) / 18446744073709551616 = a * y / 18446744073709551616 + y by omega, show (a * (y : Int) + 18446744073709551616 * y) % 18446744073709551616 = a * y % 18446744073709551616 by omega] at hM
    have HM : Hid (Calls Tryz.prog 157 #[.int .u64 (IntKind.u64.wrap a), .int .u64 (y : Int)] w fun e w' => e = .returned (.tuple #[.int .u64 (a * y / 18446744073709551616 + y), .int .u64 (a * y % 18446744073709551616)]) ∧ w = w') := by
      rw [ea, hx]
      exact hM.mono fun e w' h => ⟨h.1, h.2.symm⟩
    clear hM hxy hx
    generalize hh : a * (y : Int) / 18446744073709551616 = H at *
    generalize hl : a * (y : Int) % 18446744073709551616 = L at *
    have e3 : IntKind.i64.wrap (IntKind.u64.wrap (H + y - IntKind.u64.wrap y)) = H := by rw [eb, IntKind.wrap_i64, IntKind.wrap_u64]; omega
    have e4 : IntKind.i64.wrap (IntKind.u64.wrap (H + y - y)) = H := by rw [IntKind.wrap_i64, IntKind.wrap_u64]; omega
    have e5 : IntKind.i64.wrap (IntKind.u64.wrap H) = H := by rw [IntKind.wrap_i64, IntKind.wrap_u64]; omega
    have e6 : H + (y : Int) - y = H := by omega
    have HE := Lib.hid (And.intro e3 (And.intro e4 (And.intro e5 e6)))
    clear ea eb e3 e4 e5 e6
    go_enter Tryz.func97, Tryz.ntmps97
    go_wp2_with fail
    refine HM.out.mono ?_
    rintro e w' ⟨rfl, rfl⟩
    clear HM
    go_wp2
    go_ret2
    refine ⟨?_, rfl⟩
    show Ending.returned (.tuple #[.int .i64 (wrap64 (IntKind.u64.wrap H)), .int .u64 L]) = _
    rw [show wrap64 (IntKind.u64.wrap H) = H by rw [IntKind.wrap_u64]; unfold wrap64; omega]
  · have ea : IntKind.u64.wrap a = a := by rw [IntKind.wrap_u64]; omega
    obtain ⟨x, rfl⟩ : ∃ x : Nat, a = (x : Int) := ⟨a.toNat, by omega⟩
    obtain ⟨y, rfl⟩ : ∃ y : Nat, b = (y : Int) := ⟨b.toNat, by omega⟩
    have hM := Tryz.bits_Mul64 x y (by omega) (by omega) w
    rw [Int.natCast_ediv, Int.natCast_emod, Int.natCast_mul] at hM
    rw [show (((18446744073709551616 : Nat)) : Int) = 18446744073709551616 from rfl] at hM
    have HM : Hid (Calls Tryz.prog 157 #[.int .u64 (x : Int), .int .u64 (y : Int)] w fun e w' => e = .returned (.tuple #[.int .u64 ((x : Int) * y / 18446744073709551616), .int .u64 ((x : Int) * y % 18446744073709551616)]) ∧ w = w') := by
      exact hM.mono fun e w' h => ⟨h.1, h.2.symm⟩
    clear hM
    generalize hh : (x : Int) * (y : Int) / 18446744073709551616 = H at *
    generalize hl : (x : Int) * (y : Int) % 18446744073709551616 = L at *
    have e5 : IntKind.i64.wrap H = H := by rw [IntKind.wrap_i64]; omega
    have HE := Lib.hid e5
    clear ea eb e5
    go_enter Tryz.func97, Tryz.ntmps97
    go_wp2_with fail
    refine HM.out.mono ?_
    rintro e w' ⟨rfl, rfl⟩
    clear HM
    go_wp2
    go_ret2
    exact ⟨rfl, rfl⟩

set_option maxRecDepth 100000 in
set_option maxHeartbeats 1000000 in
theorem c_cmpI (x y : Int) (w : World) : Calls Tryz.prog 52 #[.int .i64 x, .int .i64 y] w fun e w' => e = .returned (.int .i64 (Lib.compareInt x y)) ∧ w = w' := by
  rcases Int.lt_trichotomy x y with h | h | h
  · rw [show Lib.compareInt x y = -1 from if_pos h]
    go_enter Tryz.func52, Tryz.ntmps52
    go_wp2
    go_ret
    exact ⟨rfl, rfl⟩
  · subst h
    rw [show Lib.compareInt x x = 0 by simp [Lib.compareInt]]
    go_enter Tryz.func52, Tryz.ntmps52
    go_wp2
    go_ret
    exact ⟨rfl, rfl⟩
  · rw [show Lib.compareInt x y = 1 by unfold Lib.compareInt; rw [if_neg (by omega), if_pos h]]
    have h' : ¬ x < y := by omega
    go_enter Tryz.func52, Tryz.ntmps52
    go_wp2
    go_ret
    exact ⟨rfl, rfl⟩
set_option maxRecDepth 100000 in
set_option maxHeartbeats 1000000 in
theorem c_cmpU (x y : Int) (w : World) : Calls Tryz.prog 98 #[.int .u64 x, .int .u64 y] w fun e w' => e = .returned (.int .i64 (Lib.compareInt x y)) ∧ w = w' := by
  rcases Int.lt_trichotomy x y with h | h | h
  · rw [show Lib.compareInt x y = -1 from if_pos h]
    go_enter Tryz.func98, Tryz.ntmps98
    go_wp2
    go_ret
    exact ⟨rfl, rfl⟩
  · subst h
    rw [show Lib.compareInt x x = 0 by simp [Lib.compareInt]]
    go_enter Tryz.func98, Tryz.ntmps98
    go_wp2
    go_ret
    exact ⟨rfl, rfl⟩
  · rw [show Lib.compareInt x y = 1 by unfold Lib.compareInt; rw [if_neg (by omega), if_pos h]]
    have h' : ¬ x < y := by omega
    go_enter Tryz.func98, Tryz.ntmps98
    go_wp2
    go_ret
    exact ⟨rfl, rfl⟩
/-- The two words of two numbers compare as the numbers do. -/
theorem compare_words (x y : Int) : Lib.compareInt x y = if x / 18446744073709551616 = y / 18446744073709551616 then Lib.compareInt (x % 18446744073709551616) (y % 18446744073709551616) else Lib.compareInt (x / 18446744073709551616) (y / 18446744073709551616) := by
  unfold Lib.compareInt
  split <;> (repeat' split) <;> omega
set_option maxRecDepth 100000 in
set_option maxHeartbeats 2000000 in
theorem c_cp (a b c d : Int) (w : World) (ha : -1099511627776 ≤ a ∧ a ≤ 1099511627776) (hb : 1 ≤ b ∧ b ≤ 1099511627776) (hc : -1099511627776 ≤ c ∧ c ≤ 1099511627776) (hd : 1 ≤ d ∧ d ≤ 1099511627776) :
    Calls Tryz.prog 50 #[.int .i64 a, .int .i64 b, .int .i64 c, .int .i64 d] w fun e w' => e = .returned (.int .i64 (Lib.compareInt (a * b) (c * d))) ∧ w = w' := by
  have H1 := Lib.hid (c_sp a b w ha hb)
  have H2 := Lib.hid (c_sp c d w hc hd)
  rw [compare_words]
  generalize a * b / 18446744073709551616 = p at *
  generalize a * b % 18446744073709551616 = q at *
  generalize c * d / 18446744073709551616 = r at *
  generalize c * d % 18446744073709551616 = s at *
  clear ha hb hc hd
  by_cases h : p = r
  · subst h
    rw [if_pos rfl]
    have H3 := Lib.hid (c_cmpU q s w)
    go_enter Tryz.func50, Tryz.ntmps50
    go_wp2_with fail
    refine H1.out.mono ?_
    rintro e w' ⟨rfl, rfl⟩
    go_wp2_with fail
    refine H2.out.mono ?_
    rintro e w' ⟨rfl, rfl⟩
    go_wp2_with fail
    refine H3.out.mono ?_
    rintro e w' ⟨rfl, rfl⟩
    go_wp2
    go_ret
    exact ⟨rfl, rfl⟩
  · rw [if_neg h]
    have H3 := Lib.hid (c_cmpI p r w)
    have h' : (p != r) = true := by rw [bne_iff_ne]; exact h
    go_enter Tryz.func50, Tryz.ntmps50
    go_wp2_with fail
    refine H1.out.mono ?_
    rintro e w' ⟨rfl, rfl⟩
    go_wp2_with fail
    refine H2.out.mono ?_
    rintro e w' ⟨rfl, rfl⟩
    go_wp2_with fail
    refine H3.out.mono ?_
    rintro e w' ⟨rfl, rfl⟩
    go_wp2
    go_ret
    exact ⟨rfl, rfl⟩
set_option maxRecDepth 100000 in
set_option maxHeartbeats 1000000 in
theorem c_nanS (x : ByteArray) (w : World) : Calls Tryz.prog 99 #[.string x] w fun e w' => e = .returned (.bool false) ∧ w = w' := by
  go_enter Tryz.func99, Tryz.ntmps99
  go_wp2
  go_ret
  exact ⟨rfl, rfl⟩
def cmpS (x y : ByteArray) : Int := if Op.bytesLess x.toList y.toList = true then -1 else if (!x.toList == y.toList) = true then 1 else 0
set_option maxRecDepth 100000 in
set_option maxHeartbeats 1000000 in
theorem c_cmpSG (x y : ByteArray) (w : World) : Calls Tryz.prog 51 #[.string x, .string y] w fun e w' => e = .returned (.int .i64 (cmpS x y)) ∧ w = w' := by
  by_cases h1 : Op.bytesLess x.toList y.toList = true
  · rw [show cmpS x y = -1 from if_pos h1]
    go_enter Tryz.func51, Tryz.ntmps51
    go_wp2_with fail
    refine (c_nanS x _).mono ?_
    rintro e w' ⟨rfl, rfl⟩
    go_wp2_with fail
    refine (c_nanS y _).mono ?_
    rintro e w' ⟨rfl, rfl⟩
    go_wp2
    go_ret
    exact ⟨rfl, rfl⟩
  · by_cases h2 : (!x.toList == y.toList) = true
    · rw [show cmpS x y = 1 by unfold cmpS; rw [if_neg h1, if_pos h2]]
      have h1' : Op.bytesLess x.toList y.toList = false := by simpa using h1
      go_enter Tryz.func51, Tryz.ntmps51
      go_wp2_with fail
      refine (c_nanS x _).mono ?_
      rintro e w' ⟨rfl, rfl⟩
      go_wp2_with fail
      refine (c_nanS y _).mono ?_
      rintro e w' ⟨rfl, rfl⟩
      go_wp2
      go_ret
      exact ⟨rfl, rfl⟩
    · rw [show cmpS x y = 0 by unfold cmpS; rw [if_neg h1, if_neg h2]]
      have h1' : Op.bytesLess x.toList y.toList = false := by simpa using h1
      have h2' : (!x.toList == y.toList) = false := by simpa using h2
      go_enter Tryz.func51, Tryz.ntmps51
      go_wp2_with fail
      refine (c_nanS x _).mono ?_
      rintro e w' ⟨rfl, rfl⟩
      go_wp2_with fail
      refine (c_nanS y _).mono ?_
      rintro e w' ⟨rfl, rfl⟩
      go_wp2
      go_ret
      exact ⟨rfl, rfl⟩

/-- How two values compare. -/
def ordV (k n d : Int) (s : ByteArray) (k' n' d' : Int) (s' : ByteArray) : Int :=
  if okB k n d s = true then if okB k' n' d' s' = true then if k = k' then if k = 2 then Lib.compareInt (n * d') (n' * d) else if k = 3 then cmpS s s' else Lib.compareInt n n' else Lib.compareInt k k' else 0 else 0
set_option maxRecDepth 100000 in
set_option maxHeartbeats 2000000 in
theorem o_all (w : World) (k n d : Int) (s : ByteArray) (k' n' d' : Int) (s' : ByteArray) :
    Calls Tryz.prog 14 #[V k n d s, V k' n' d' s'] w fun e w' => e = .returned (.int .i64 (ordV k n d s k' n' d' s')) ∧ Below w.heap.size w w' := by
  have H1 := Lib.hid (fun X => k_valid k n d s X)
  have H2 := Lib.hid (fun X => k_valid k' n' d' s' X)
  by_cases g1 : okB k n d s = true
  · by_cases g2 : okB k' n' d' s' = true
    · by_cases hk : k = k'
      · subst hk
        have f1 := okB_good.1 g1
        have f2 := okB_good.1 g2
        rw [g1] at H1
        rw [g2] at H2
        by_cases k2 : k = 2
        · subst k2
          rw [show ordV 2 n d s 2 n' d' s' = Lib.compareInt (n * d') (n' * d) by simp [ordV, g1, g2]]
          have l1 : Low n d := by cases f1; assumption
          have l2 : Low n' d' := by cases f2; assumption
          have HC := Lib.hid (fun X => c_cp n d' n' d X ⟨l1.1, l1.2.1⟩ ⟨l2.2.2.1, l2.2.2.2.1⟩ ⟨l2.1, l2.2.1⟩ ⟨l1.2.2.1, l1.2.2.2.1⟩)
          generalize Lib.compareInt (n * d') (n' * d) = r at *
          clear g1 g2 f1 f2 l1 l2
          obtain ⟨W, b, b', hW, hb, hb', hlt, hbel, K⟩ := two_box w 2 n d s 2 n' d' s'
          have HW := Lib.hid hW
          have HB := Lib.hid hb
          have HB' := Lib.hid hb'
          have HBE := Lib.hid hbel
          clear hW hb hb' hlt hbel
          go_enter Tryz.func14, Tryz.ntmps14
          go_wp2_with fail
          rw [HW.out, HB'.out, HB.out]
          refine (H1.out W).mono ?_
          rintro e w1 ⟨rfl, hb1⟩
          obtain ⟨⟨a0, a1, a2, a3⟩, ⟨a4, a5, a6, a7⟩⟩ := K.out _ hb1
          go_wp2_with fail
          refine (H2.out w1).mono ?_
          rintro e w2 ⟨rfl, hb2⟩
          have hb12 := btr hb1 hb2
          obtain ⟨⟨c0, c1, c2, c3⟩, ⟨c4, c5, c6, c7⟩⟩ := K.out _ hb12
          clear a0 a1 a2 a3 a4 a5 a6 a7
          go_wp2_with fail
          refine (HC.out w2).mono ?_
          rintro e w3 ⟨rfl, rfl⟩
          go_wp2
          go_ret
          exact ⟨rfl, HBE.out.trans (hb12.mono HBE.out.size)⟩
        · by_cases k3 : k = 3
          · subst k3
            rw [show ordV 3 n d s 3 n' d' s' = cmpS s s' by simp [ordV, g1, g2]]
            have HC := Lib.hid (fun X => c_cmpSG s s' X)
            generalize cmpS s s' = r at *
            clear g1 g2 f1 f2
            obtain ⟨W, b, b', hW, hb, hb', hlt, hbel, K⟩ := two_box w 3 n d s 3 n' d' s'
            have HW := Lib.hid hW
            have HB := Lib.hid hb
            have HB' := Lib.hid hb'
            have HBE := Lib.hid hbel
            clear hW hb hb' hlt hbel
            go_enter Tryz.func14, Tryz.ntmps14
            go_wp2_with fail
            rw [HW.out, HB'.out, HB.out]
            refine (H1.out W).mono ?_
            rintro e w1 ⟨rfl, hb1⟩
            obtain ⟨⟨a0, a1, a2, a3⟩, ⟨a4, a5, a6, a7⟩⟩ := K.out _ hb1
            go_wp2_with fail
            refine (H2.out w1).mono ?_
            rintro e w2 ⟨rfl, hb2⟩
            have hb12 := btr hb1 hb2
            obtain ⟨⟨c0, c1, c2, c3⟩, ⟨c4, c5, c6, c7⟩⟩ := K.out _ hb12
            clear a0 a1 a2 a3 a4 a5 a6 a7
            go_wp2_with fail
            refine (HC.out w2).mono ?_
            rintro e w3 ⟨rfl, rfl⟩
            go_wp2
            go_ret
            exact ⟨rfl, HBE.out.trans (hb12.mono HBE.out.size)⟩
          · rw [show ordV k n d s k n' d' s' = Lib.compareInt n n' by simp [ordV, g1, g2, k2, k3]]
            have HC := Lib.hid (fun X => c_cmpI n n' X)
            generalize Lib.compareInt n n' = r at *
            clear g1 g2 f1 f2
            obtain ⟨W, b, b', hW, hb, hb', hlt, hbel, K⟩ := two_box w k n d s k n' d' s'
            have HW := Lib.hid hW
            have HB := Lib.hid hb
            have HB' := Lib.hid hb'
            have HBE := Lib.hid hbel
            clear hW hb hb' hlt hbel
            go_enter Tryz.func14, Tryz.ntmps14
            go_wp2_with fail
            rw [HW.out, HB'.out, HB.out]
            refine (H1.out W).mono ?_
            rintro e w1 ⟨rfl, hb1⟩
            obtain ⟨⟨a0, a1, a2, a3⟩, ⟨a4, a5, a6, a7⟩⟩ := K.out _ hb1
            go_wp2_with fail
            refine (H2.out w1).mono ?_
            rintro e w2 ⟨rfl, hb2⟩
            have hb12 := btr hb1 hb2
            obtain ⟨⟨c0, c1, c2, c3⟩, ⟨c4, c5, c6, c7⟩⟩ := K.out _ hb12
            clear a0 a1 a2 a3 a4 a5 a6 a7
            go_wp2_with fail
            refine (HC.out w2).mono ?_
            rintro e w3 ⟨rfl, rfl⟩
            go_wp2
            go_ret
            exact ⟨rfl, HBE.out.trans (hb12.mono HBE.out.size)⟩
      · rw [show ordV k n d s k' n' d' s' = Lib.compareInt k k' by simp [ordV, g1, g2, hk]]
        exact o_kinds w k n d s k' n' d' s' (okB_good.1 g1) (okB_good.1 g2) hk
    · have g2' : okB k' n' d' s' = false := by simpa using g2
      rw [show ordV k n d s k' n' d' s' = 0 by simp [ordV, g2']]
      rw [g1] at H1
      rw [g2'] at H2
      clear g1 g2 g2'
      obtain ⟨W, b, b', hW, hb, hb', hlt, hbel, K⟩ := two_box w k n d s k' n' d' s'
      have HW := Lib.hid hW
      have HB := Lib.hid hb
      have HB' := Lib.hid hb'
      have HBE := Lib.hid hbel
      clear hW hb hb' hlt hbel
      go_enter Tryz.func14, Tryz.ntmps14
      go_wp2_with fail
      rw [HW.out, HB'.out, HB.out]
      refine (H1.out W).mono ?_
      rintro e w1 ⟨rfl, hb1⟩
      obtain ⟨⟨a0, a1, a2, a3⟩, ⟨a4, a5, a6, a7⟩⟩ := K.out _ hb1
      go_wp2_with fail
      refine (H2.out w1).mono ?_
      rintro e w2 ⟨rfl, hb2⟩
      have hb12 := btr hb1 hb2
      obtain ⟨⟨c0, c1, c2, c3⟩, ⟨c4, c5, c6, c7⟩⟩ := K.out _ hb12
      clear a0 a1 a2 a3 a4 a5 a6 a7
      go_wp2
      go_ret
      exact ⟨rfl, HBE.out.trans (hb12.mono HBE.out.size)⟩
  · have g1' : okB k n d s = false := by simpa using g1
    rw [show ordV k n d s k' n' d' s' = 0 by simp [ordV, g1']]
    rw [g1'] at H1
    clear g1 g1' H2
    obtain ⟨W, b, b', hW, hb, hb', hlt, hbel, K⟩ := two_box w k n d s k' n' d' s'
    have HW := Lib.hid hW
    have HB := Lib.hid hb
    have HB' := Lib.hid hb'
    have HBE := Lib.hid hbel
    clear hW hb hb' hlt hbel
    go_enter Tryz.func14, Tryz.ntmps14
    go_wp2_with fail
    rw [HW.out, HB'.out, HB.out]
    refine (H1.out W).mono ?_
    rintro e w1 ⟨rfl, hb1⟩
    obtain ⟨⟨a0, a1, a2, a3⟩, ⟨a4, a5, a6, a7⟩⟩ := K.out _ hb1
    go_wp2
    go_ret
    exact ⟨rfl, HBE.out.trans (hb1.mono HBE.out.size)⟩

end Go.Proofs.YtnfncdalneifnaaGreatDoor
end

/- The reference's Order, whatever the values. -/
section
namespace Go.Proofs.YtnfncdalneifnaaGreatDoor
open Go.RowKit Go.Deep

theorem low_w9 {n d : Int} (h : Low n d) : RefW (qV n d) 90000 := by
  have h1 := qV_num h
  have h2 := qV_den h
  obtain ⟨a1, a2, a3, a4, a5⟩ := h
  have hb : ∀ m : Nat, m ≤ 1099511627776 → nw9 m ≤ 90000 := fun m hm => by
    have : m < B9 ^ 3 := by unfold B9; omega
    have := (nw_le9 _ _).2 this
    omega
  exact ⟨by rw [h1]; exact hb _ (by omega), by rw [h2]; exact hb _ (by omega)⟩
theorem low_w {n d : Int} (h : Low n d) : RefW (qV n d) 10000000 := ⟨Nat.le_trans (low_w9 h).1 (by omega), Nat.le_trans (low_w9 h).2 (by omega)⟩
theorem cmp_low {n d n' d' : Int} (h : Low n d) (h' : Low n' d') : Lib.compareInt ((qV n d).num * (qV n' d').den) ((qV n' d').num * (qV n d).den) = Lib.compareInt (n * d') (n' * d) := by
  rw [qV_num h, qV_num h', qV_den h, qV_den h', show ((d'.natAbs : Nat) : Int) = d' by have := h'.2.2.1; omega, show ((d.natAbs : Nat) : Int) = d by have := h.2.2.1; omega]

set_option maxRecDepth 100000 in
set_option maxHeartbeats 8000000 in
theorem r_Order (w : World) (k n d : Int) (s : ByteArray) (k' n' d' : Int) (s' : ByteArray) (hs : s.size ≤ 9223372036854775807) (hs' : s'.size ≤ 9223372036854775807) :
    Calls Tryz.prog 36 #[V k n d s, V k' n' d' s'] w fun e w' => e = .returned (.int .i64 (ordV k n d s k' n' d' s')) ∧ Below w.heap.size w w' := by
  obtain ⟨W0, W1, hW0, hW1, hz0, hbel, K⟩ := vals_box w k n d s k' n' d' s'
  have HBE := Lib.hid hbel
  have H1 := Lib.hid (fun X => r_Check k n d s X hs)
  have H2 := Lib.hid (fun X => r_Check k' n' d' s' X hs')
  by_cases g1 : okB k n d s = true
  · have HC1 : Hid (∀ W, Calls Tryz.prog 28 #[V k n d s] W fun e w' => e = .returned (.int .i64 0) ∧ Below W.heap.size W w') := fun W => by
      have h9 := H1.out W
      rw [g1] at h9
      exact h9
    by_cases g2 : okB k' n' d' s' = true
    · have HC2 : Hid (∀ W, Calls Tryz.prog 28 #[V k' n' d' s'] W fun e w' => e = .returned (.int .i64 0) ∧ Below W.heap.size W w') := fun W => by
        have h9 := H2.out W
        rw [g2] at h9
        exact h9
      clear H1 H2
      by_cases hk : k = k'
      · subst hk
        by_cases k2 : k = 2
        · subst k2
          rw [show ordV 2 n d s 2 n' d' s' = Lib.compareInt (n * d') (n' * d) by simp [ordV, g1, g2]]
          have l1 : Low n d := by have := okB_good.1 g1; cases this; assumption
          have l2 : Low n' d' := by have := okB_good.1 g2; cases this; assumption
          have HN1 : Hid (∀ W, Calls Tryz.prog 31 #[V 2 n d s] W fun e w' => ∃ b A m c A' m' c', e = .returned (.tuple #[.agg #[.bool b, .slice A m c, .slice A' m' c'], .bool true]) ∧ RefV w' (.agg #[.bool b, .slice A m c, .slice A' m' c']) (qV n d) ∧ Below W.heap.size W w') := fun W => by
            refine (r_Number 2 n d s W hs).mono ?_
            rintro e w' ⟨r, he, ⟨b, A, m, c, A', m', c', rfl⟩, hr, hb⟩
            rw [g1] at he hr
            exact ⟨b, A, m, c, A', m', c', he, hr rfl, hb⟩
          have HN2 : Hid (∀ W, Calls Tryz.prog 31 #[V 2 n' d' s'] W fun e w' => ∃ b A m c A' m' c', e = .returned (.tuple #[.agg #[.bool b, .slice A m c, .slice A' m' c'], .bool true]) ∧ RefV w' (.agg #[.bool b, .slice A m c, .slice A' m' c']) (qV n' d') ∧ Below W.heap.size W w') := fun W => by
            refine (r_Number 2 n' d' s' W hs').mono ?_
            rintro e w' ⟨r, he, ⟨b, A, m, c, A', m', c', rfl⟩, hr, hb⟩
            rw [g2] at he hr
            exact ⟨b, A, m, c, A', m', c', he, hr rfl, hb⟩
          have HCm : Hid (∀ W x y, RefV W x (qV n d) → RefV W y (qV n' d') → Calls Tryz.prog 75 #[x, y] W fun e w' => e = .returned (.int .i64 (Lib.compareInt (n * d') (n' * d))) ∧ Below W.heap.size W w') := fun W x y hx hy => by
            have h9 := r_Cmp W x y _ _ hx hy (low_w l1) (low_w l2)
            rw [cmp_low l1 l2] at h9
            exact h9
          generalize Lib.compareInt (n * d') (n' * d) = R at *
          clear g1 g2 l1 l2 hs hs' hbel
          go_enter Tryz.func36, Tryz.ntmps36
          obtain ⟨⟨a0, a1, a2, a3⟩, ⟨a4, a5, a6, a7⟩⟩ := K.out W1 (Below.refl _ _)
          go_wp2_with fail
          clear a0 a1 a2 a3 a4 a5 a6 a7
          refine (HC1.out W1).mono ?_
          rintro e w1 ⟨rfl, hb1⟩
          have HB1 := Lib.hid hb1
          obtain ⟨⟨a0, a1, a2, a3⟩, ⟨a4, a5, a6, a7⟩⟩ := K.out _ hb1
          clear hb1
          go_wp2_with fail
          refine (HC2.out w1).mono ?_
          rintro e w2 ⟨rfl, hb2⟩
          have HB2 := Lib.hid (btr HB1.out hb2)
          obtain ⟨⟨c0, c1, c2, c3⟩, ⟨c4, c5, c6, c7⟩⟩ := K.out _ HB2.out
          clear a0 a1 a2 a3 a4 a5 a6 a7 hb2
          go_wp2_with fail
          go_still (by kernel_rfl)
          rw [show ({ w2 with drawn := w2.drawn + 1 } : World) = w2.drew from rfl]
          have hbd : Below w2.heap.size w2 w2.drew := Below.drew (Below.refl _ _)
          generalize w2.drew = wd at hbd ⊢
          have HBd := Lib.hid (btr HB2.out hbd)
          clear hbd c0 c1 c2 c3 c4 c5 c6 c7
          obtain ⟨⟨c0, c1, c2, c3⟩, ⟨c4, c5, c6, c7⟩⟩ := K.out _ HBd.out
          go_wp2_with fail
          refine (HN1.out wd).mono ?_
          rintro e w3 ⟨b3, A3, m3, c3', A4, m4, c4', rfl, hx, hb3⟩
          have HB3 := Lib.hid (btr HBd.out hb3)
          have HX := Lib.hid hx
          clear hx hb3 c0 c1 c2 c3 c4 c5 c6 c7
          have B4 : Below w3.heap.size w3 (w3.alloc (.cells #[.bool b3, .slice A3 m3 c3', .slice A4 m4 c4'] 64)) := (Below.refl _ _).alloc (Nat.le_refl _) _
          obtain ⟨W4, hW4, hB4, hz4, KX⟩ := ref_box w3 b3 (.slice A3 m3 c3') (.slice A4 m4 c4')
          have HB4 := Lib.hid hB4
          obtain ⟨⟨c0, c1, c2, c3⟩, ⟨c4, c5, c6, c7⟩⟩ := K.out W4 (btr HB3.out hB4)
          clear hB4 B4
          go_wp2_with fail
          refine (HN2.out W4).mono ?_
          rintro e w5 ⟨b5, A5, m5, c5', A6, m6, c6', rfl, hy, hb5⟩
          have HB5 := Lib.hid hb5
          have HY := Lib.hid hy
          clear hy hb5 c0 c1 c2 c3 c4 c5 c6 c7
          obtain ⟨W6, hW6, hB6, hz6, KY⟩ := ref_box w5 b5 (.slice A5 m5 c5') (.slice A6 m6 c6')
          have HB6 := Lib.hid hB6
          obtain ⟨x0, x1, x2⟩ := KX.out W6 (btr HB5.out hB6)
          obtain ⟨y0, y1, y2⟩ := KY.out W6 (Below.refl _ _)
          clear hB6
          go_wp2_with fail
          refine (HCm.out W6 _ _ (((HX.out.below HB4.out).below HB5.out).below HB6.out) (HY.out.below HB6.out)).mono ?_
          rintro e w7 ⟨rfl, hb7⟩
          have HB7 := Lib.hid (btr HBE.out (btr HB3.out (btr HB4.out (btr HB5.out (btr HB6.out hb7)))))
          clear hb7 x0 x1 x2 y0 y1 y2
          go_wp2
          go_ret
          exact ⟨rfl, HB7.out⟩
        · by_cases k3 : k = 3
          · subst k3
            rw [show ordV 3 n d s 3 n' d' s' = cmpS s s' by simp [ordV, g1, g2]]
            clear g1 g2 hs hs' hbel k2
            by_cases h1 : Op.bytesLess s.toList s'.toList = true
            · rw [show cmpS s s' = -1 from if_pos h1]
              go_enter Tryz.func36, Tryz.ntmps36
              obtain ⟨⟨a0, a1, a2, a3⟩, ⟨a4, a5, a6, a7⟩⟩ := K.out W1 (Below.refl _ _)
              go_wp2_with fail
              clear a0 a1 a2 a3 a4 a5 a6 a7
              refine (HC1.out W1).mono ?_
              rintro e w1 ⟨rfl, hb1⟩
              have HB1 := Lib.hid hb1
              obtain ⟨⟨a0, a1, a2, a3⟩, ⟨a4, a5, a6, a7⟩⟩ := K.out _ hb1
              clear hb1
              go_wp2_with fail
              refine (HC2.out w1).mono ?_
              rintro e w2 ⟨rfl, hb2⟩
              have HB2 := Lib.hid (btr HB1.out hb2)
              obtain ⟨⟨c0, c1, c2, c3⟩, ⟨c4, c5, c6, c7⟩⟩ := K.out _ HB2.out
              clear a0 a1 a2 a3 a4 a5 a6 a7 hb2
              go_wp2_with fail
              go_still (by kernel_rfl)
              rw [show ({ w2 with drawn := w2.drawn + 1 } : World) = w2.drew from rfl]
              have hbd : Below w2.heap.size w2 w2.drew := Below.drew (Below.refl _ _)
              generalize w2.drew = wd at hbd ⊢
              have HBd := Lib.hid (btr HB2.out hbd)
              clear hbd c0 c1 c2 c3 c4 c5 c6 c7
              obtain ⟨⟨c0, c1, c2, c3⟩, ⟨c4, c5, c6, c7⟩⟩ := K.out _ HBd.out
              go_wp2_with fail
              go_still (by kernel_rfl)
              rw [show ({ wd with drawn := wd.drawn + 1 } : World) = wd.drew from rfl]
              have hbd : Below wd.heap.size wd wd.drew := Below.drew (Below.refl _ _)
              generalize wd.drew = we at hbd ⊢
              have HBe := Lib.hid (btr HBd.out hbd)
              clear hbd c0 c1 c2 c3 c4 c5 c6 c7
              obtain ⟨⟨c0, c1, c2, c3⟩, ⟨c4, c5, c6, c7⟩⟩ := K.out _ HBe.out
              go_wp2
              go_ret
              exact ⟨rfl, btr HBE.out HBe.out⟩
            · have h1' : Op.bytesLess s.toList s'.toList = false := by simpa using h1
              by_cases h2 : (!s.toList == s'.toList) = true
              · rw [show cmpS s s' = 1 by unfold cmpS; rw [if_neg h1, if_pos h2]]
                have h2' : (s.toList == s'.toList) = false := by simpa using h2
                clear h1 h2
                go_enter Tryz.func36, Tryz.ntmps36
                obtain ⟨⟨a0, a1, a2, a3⟩, ⟨a4, a5, a6, a7⟩⟩ := K.out W1 (Below.refl _ _)
                go_wp2_with fail
                clear a0 a1 a2 a3 a4 a5 a6 a7
                refine (HC1.out W1).mono ?_
                rintro e w1 ⟨rfl, hb1⟩
                have HB1 := Lib.hid hb1
                obtain ⟨⟨a0, a1, a2, a3⟩, ⟨a4, a5, a6, a7⟩⟩ := K.out _ hb1
                clear hb1
                go_wp2_with fail
                refine (HC2.out w1).mono ?_
                rintro e w2 ⟨rfl, hb2⟩
                have HB2 := Lib.hid (btr HB1.out hb2)
                obtain ⟨⟨c0, c1, c2, c3⟩, ⟨c4, c5, c6, c7⟩⟩ := K.out _ HB2.out
                clear a0 a1 a2 a3 a4 a5 a6 a7 hb2
                go_wp2_with fail
                go_still (by kernel_rfl)
                rw [show ({ w2 with drawn := w2.drawn + 1 } : World) = w2.drew from rfl]
                have hbd : Below w2.heap.size w2 w2.drew := Below.drew (Below.refl _ _)
                generalize w2.drew = wd at hbd ⊢
                have HBd := Lib.hid (btr HB2.out hbd)
                clear hbd c0 c1 c2 c3 c4 c5 c6 c7
                obtain ⟨⟨c0, c1, c2, c3⟩, ⟨c4, c5, c6, c7⟩⟩ := K.out _ HBd.out
                go_wp2_with fail
                go_still (by kernel_rfl)
                rw [show ({ wd with drawn := wd.drawn + 1 } : World) = wd.drew from rfl]
                have hbd : Below wd.heap.size wd wd.drew := Below.drew (Below.refl _ _)
                generalize wd.drew = we at hbd ⊢
                have HBe := Lib.hid (btr HBd.out hbd)
                clear hbd c0 c1 c2 c3 c4 c5 c6 c7
                obtain ⟨⟨c0, c1, c2, c3⟩, ⟨c4, c5, c6, c7⟩⟩ := K.out _ HBe.out
                go_wp2
                go_ret
                exact ⟨rfl, btr HBE.out HBe.out⟩
              · rw [show cmpS s s' = 0 by unfold cmpS; rw [if_neg h1, if_neg h2]]
                have h2' : (s.toList == s'.toList) = true := by simpa using h2
                clear h1 h2
                go_enter Tryz.func36, Tryz.ntmps36
                obtain ⟨⟨a0, a1, a2, a3⟩, ⟨a4, a5, a6, a7⟩⟩ := K.out W1 (Below.refl _ _)
                go_wp2_with fail
                clear a0 a1 a2 a3 a4 a5 a6 a7
                refine (HC1.out W1).mono ?_
                rintro e w1 ⟨rfl, hb1⟩
                have HB1 := Lib.hid hb1
                obtain ⟨⟨a0, a1, a2, a3⟩, ⟨a4, a5, a6, a7⟩⟩ := K.out _ hb1
                clear hb1
                go_wp2_with fail
                refine (HC2.out w1).mono ?_
                rintro e w2 ⟨rfl, hb2⟩
                have HB2 := Lib.hid (btr HB1.out hb2)
                obtain ⟨⟨c0, c1, c2, c3⟩, ⟨c4, c5, c6, c7⟩⟩ := K.out _ HB2.out
                clear a0 a1 a2 a3 a4 a5 a6 a7 hb2
                go_wp2_with fail
                go_still (by kernel_rfl)
                rw [show ({ w2 with drawn := w2.drawn + 1 } : World) = w2.drew from rfl]
                have hbd : Below w2.heap.size w2 w2.drew := Below.drew (Below.refl _ _)
                generalize w2.drew = wd at hbd ⊢
                have HBd := Lib.hid (btr HB2.out hbd)
                clear hbd c0 c1 c2 c3 c4 c5 c6 c7
                obtain ⟨⟨c0, c1, c2, c3⟩, ⟨c4, c5, c6, c7⟩⟩ := K.out _ HBd.out
                go_wp2_with fail
                go_still (by kernel_rfl)
                rw [show ({ wd with drawn := wd.drawn + 1 } : World) = wd.drew from rfl]
                have hbd : Below wd.heap.size wd wd.drew := Below.drew (Below.refl _ _)
                generalize wd.drew = we at hbd ⊢
                have HBe := Lib.hid (btr HBd.out hbd)
                clear hbd c0 c1 c2 c3 c4 c5 c6 c7
                obtain ⟨⟨c0, c1, c2, c3⟩, ⟨c4, c5, c6, c7⟩⟩ := K.out _ HBe.out
                go_wp2
                go_ret
                exact ⟨rfl, btr HBE.out HBe.out⟩
          · rw [show ordV k n d s k n' d' s' = Lib.compareInt n n' by simp [ordV, g1, g2, k2, k3]]
            clear g1 g2 hs hs' hbel
            rcases Int.lt_trichotomy n n' with h1 | h1 | h1
            · rw [show Lib.compareInt n n' = -1 from if_pos h1]
              have h2 : ¬ n' < n := by omega
              go_enter Tryz.func36, Tryz.ntmps36
              obtain ⟨⟨a0, a1, a2, a3⟩, ⟨a4, a5, a6, a7⟩⟩ := K.out W1 (Below.refl _ _)
              go_wp2_with fail
              clear a0 a1 a2 a3 a4 a5 a6 a7
              refine (HC1.out W1).mono ?_
              rintro e w1 ⟨rfl, hb1⟩
              have HB1 := Lib.hid hb1
              obtain ⟨⟨a0, a1, a2, a3⟩, ⟨a4, a5, a6, a7⟩⟩ := K.out _ hb1
              clear hb1
              go_wp2_with fail
              refine (HC2.out w1).mono ?_
              rintro e w2 ⟨rfl, hb2⟩
              have HB2 := Lib.hid (btr HB1.out hb2)
              obtain ⟨⟨c0, c1, c2, c3⟩, ⟨c4, c5, c6, c7⟩⟩ := K.out _ HB2.out
              clear a0 a1 a2 a3 a4 a5 a6 a7 hb2
              go_wp2_with fail
              go_still (by kernel_rfl)
              rw [show ({ w2 with drawn := w2.drawn + 1 } : World) = w2.drew from rfl]
              have hbd : Below w2.heap.size w2 w2.drew := Below.drew (Below.refl _ _)
              generalize w2.drew = wd at hbd ⊢
              have HBd := Lib.hid (btr HB2.out hbd)
              clear hbd c0 c1 c2 c3 c4 c5 c6 c7
              obtain ⟨⟨c0, c1, c2, c3⟩, ⟨c4, c5, c6, c7⟩⟩ := K.out _ HBd.out
              go_wp2_with fail
              go_still (by kernel_rfl)
              rw [show ({ wd with drawn := wd.drawn + 1 } : World) = wd.drew from rfl]
              have hbd : Below wd.heap.size wd wd.drew := Below.drew (Below.refl _ _)
              generalize wd.drew = we at hbd ⊢
              have HBe := Lib.hid (btr HBd.out hbd)
              clear hbd c0 c1 c2 c3 c4 c5 c6 c7
              obtain ⟨⟨c0, c1, c2, c3⟩, ⟨c4, c5, c6, c7⟩⟩ := K.out _ HBe.out
              go_wp2
              go_ret
              exact ⟨rfl, btr HBE.out HBe.out⟩
            · subst h1
              rw [show Lib.compareInt n n = 0 by simp [Lib.compareInt]]
              go_enter Tryz.func36, Tryz.ntmps36
              obtain ⟨⟨a0, a1, a2, a3⟩, ⟨a4, a5, a6, a7⟩⟩ := K.out W1 (Below.refl _ _)
              go_wp2_with fail
              clear a0 a1 a2 a3 a4 a5 a6 a7
              refine (HC1.out W1).mono ?_
              rintro e w1 ⟨rfl, hb1⟩
              have HB1 := Lib.hid hb1
              obtain ⟨⟨a0, a1, a2, a3⟩, ⟨a4, a5, a6, a7⟩⟩ := K.out _ hb1
              clear hb1
              go_wp2_with fail
              refine (HC2.out w1).mono ?_
              rintro e w2 ⟨rfl, hb2⟩
              have HB2 := Lib.hid (btr HB1.out hb2)
              obtain ⟨⟨c0, c1, c2, c3⟩, ⟨c4, c5, c6, c7⟩⟩ := K.out _ HB2.out
              clear a0 a1 a2 a3 a4 a5 a6 a7 hb2
              go_wp2_with fail
              go_still (by kernel_rfl)
              rw [show ({ w2 with drawn := w2.drawn + 1 } : World) = w2.drew from rfl]
              have hbd : Below w2.heap.size w2 w2.drew := Below.drew (Below.refl _ _)
              generalize w2.drew = wd at hbd ⊢
              have HBd := Lib.hid (btr HB2.out hbd)
              clear hbd c0 c1 c2 c3 c4 c5 c6 c7
              obtain ⟨⟨c0, c1, c2, c3⟩, ⟨c4, c5, c6, c7⟩⟩ := K.out _ HBd.out
              go_wp2_with fail
              go_still (by kernel_rfl)
              rw [show ({ wd with drawn := wd.drawn + 1 } : World) = wd.drew from rfl]
              have hbd : Below wd.heap.size wd wd.drew := Below.drew (Below.refl _ _)
              generalize wd.drew = we at hbd ⊢
              have HBe := Lib.hid (btr HBd.out hbd)
              clear hbd c0 c1 c2 c3 c4 c5 c6 c7
              obtain ⟨⟨c0, c1, c2, c3⟩, ⟨c4, c5, c6, c7⟩⟩ := K.out _ HBe.out
              go_wp2
              go_ret
              exact ⟨rfl, btr HBE.out HBe.out⟩
            · rw [show Lib.compareInt n n' = 1 by unfold Lib.compareInt; rw [if_neg (by omega), if_pos h1]]
              have h2 : ¬ n < n' := by omega
              go_enter Tryz.func36, Tryz.ntmps36
              obtain ⟨⟨a0, a1, a2, a3⟩, ⟨a4, a5, a6, a7⟩⟩ := K.out W1 (Below.refl _ _)
              go_wp2_with fail
              clear a0 a1 a2 a3 a4 a5 a6 a7
              refine (HC1.out W1).mono ?_
              rintro e w1 ⟨rfl, hb1⟩
              have HB1 := Lib.hid hb1
              obtain ⟨⟨a0, a1, a2, a3⟩, ⟨a4, a5, a6, a7⟩⟩ := K.out _ hb1
              clear hb1
              go_wp2_with fail
              refine (HC2.out w1).mono ?_
              rintro e w2 ⟨rfl, hb2⟩
              have HB2 := Lib.hid (btr HB1.out hb2)
              obtain ⟨⟨c0, c1, c2, c3⟩, ⟨c4, c5, c6, c7⟩⟩ := K.out _ HB2.out
              clear a0 a1 a2 a3 a4 a5 a6 a7 hb2
              go_wp2_with fail
              go_still (by kernel_rfl)
              rw [show ({ w2 with drawn := w2.drawn + 1 } : World) = w2.drew from rfl]
              have hbd : Below w2.heap.size w2 w2.drew := Below.drew (Below.refl _ _)
              generalize w2.drew = wd at hbd ⊢
              have HBd := Lib.hid (btr HB2.out hbd)
              clear hbd c0 c1 c2 c3 c4 c5 c6 c7
              obtain ⟨⟨c0, c1, c2, c3⟩, ⟨c4, c5, c6, c7⟩⟩ := K.out _ HBd.out
              go_wp2_with fail
              go_still (by kernel_rfl)
              rw [show ({ wd with drawn := wd.drawn + 1 } : World) = wd.drew from rfl]
              have hbd : Below wd.heap.size wd wd.drew := Below.drew (Below.refl _ _)
              generalize wd.drew = we at hbd ⊢
              have HBe := Lib.hid (btr HBd.out hbd)
              clear hbd c0 c1 c2 c3 c4 c5 c6 c7
              obtain ⟨⟨c0, c1, c2, c3⟩, ⟨c4, c5, c6, c7⟩⟩ := K.out _ HBe.out
              go_wp2
              go_ret
              exact ⟨rfl, btr HBE.out HBe.out⟩
      · rw [show ordV k n d s k' n' d' s' = Lib.compareInt k k' by simp [ordV, g1, g2, hk]]
        have hke : (k == k') = false := by rw [beq_eq_false_iff_ne]; exact hk
        clear g1 g2 hs hs' hbel
        rcases Int.lt_or_gt_of_ne hk with h1 | h1
        · rw [show Lib.compareInt k k' = -1 from if_pos h1]
          have h2 : ¬ k' < k := by omega
          go_enter Tryz.func36, Tryz.ntmps36
          obtain ⟨⟨a0, a1, a2, a3⟩, ⟨a4, a5, a6, a7⟩⟩ := K.out W1 (Below.refl _ _)
          go_wp2_with fail
          clear a0 a1 a2 a3 a4 a5 a6 a7
          refine (HC1.out W1).mono ?_
          rintro e w1 ⟨rfl, hb1⟩
          have HB1 := Lib.hid hb1
          obtain ⟨⟨a0, a1, a2, a3⟩, ⟨a4, a5, a6, a7⟩⟩ := K.out _ hb1
          clear hb1
          go_wp2_with fail
          refine (HC2.out w1).mono ?_
          rintro e w2 ⟨rfl, hb2⟩
          have HB2 := Lib.hid (btr HB1.out hb2)
          obtain ⟨⟨c0, c1, c2, c3⟩, ⟨c4, c5, c6, c7⟩⟩ := K.out _ HB2.out
          clear a0 a1 a2 a3 a4 a5 a6 a7 hb2
          go_wp2_with fail
          go_still (by kernel_rfl)
          rw [show ({ w2 with drawn := w2.drawn + 1 } : World) = w2.drew from rfl]
          have hbd : Below w2.heap.size w2 w2.drew := Below.drew (Below.refl _ _)
          generalize w2.drew = wd at hbd ⊢
          have HBd := Lib.hid (btr HB2.out hbd)
          clear hbd c0 c1 c2 c3 c4 c5 c6 c7
          obtain ⟨⟨c0, c1, c2, c3⟩, ⟨c4, c5, c6, c7⟩⟩ := K.out _ HBd.out
          go_wp2
          go_ret
          exact ⟨rfl, btr HBE.out HBd.out⟩
        · rw [show Lib.compareInt k k' = 1 by unfold Lib.compareInt; rw [if_neg (by omega), if_pos h1]]
          have h2 : ¬ k < k' := by omega
          go_enter Tryz.func36, Tryz.ntmps36
          obtain ⟨⟨a0, a1, a2, a3⟩, ⟨a4, a5, a6, a7⟩⟩ := K.out W1 (Below.refl _ _)
          go_wp2_with fail
          clear a0 a1 a2 a3 a4 a5 a6 a7
          refine (HC1.out W1).mono ?_
          rintro e w1 ⟨rfl, hb1⟩
          have HB1 := Lib.hid hb1
          obtain ⟨⟨a0, a1, a2, a3⟩, ⟨a4, a5, a6, a7⟩⟩ := K.out _ hb1
          clear hb1
          go_wp2_with fail
          refine (HC2.out w1).mono ?_
          rintro e w2 ⟨rfl, hb2⟩
          have HB2 := Lib.hid (btr HB1.out hb2)
          obtain ⟨⟨c0, c1, c2, c3⟩, ⟨c4, c5, c6, c7⟩⟩ := K.out _ HB2.out
          clear a0 a1 a2 a3 a4 a5 a6 a7 hb2
          go_wp2_with fail
          go_still (by kernel_rfl)
          rw [show ({ w2 with drawn := w2.drawn + 1 } : World) = w2.drew from rfl]
          have hbd : Below w2.heap.size w2 w2.drew := Below.drew (Below.refl _ _)
          generalize w2.drew = wd at hbd ⊢
          have HBd := Lib.hid (btr HB2.out hbd)
          clear hbd c0 c1 c2 c3 c4 c5 c6 c7
          obtain ⟨⟨c0, c1, c2, c3⟩, ⟨c4, c5, c6, c7⟩⟩ := K.out _ HBd.out
          go_wp2
          go_ret
          exact ⟨rfl, btr HBE.out HBd.out⟩
    · have g2' : okB k' n' d' s' = false := by simpa using g2
      rw [show ordV k n d s k' n' d' s' = 0 by simp [ordV, g2']]
      have HC2 : Hid (∀ W, Calls Tryz.prog 28 #[V k' n' d' s'] W fun e w' => e = .returned (.int .i64 2) ∧ Below W.heap.size W w') := fun W => by
        have h9 := H2.out W
        rw [g2'] at h9
        exact h9
      clear g1 g2 g2' H1 H2 hs hs' hbel
      go_enter Tryz.func36, Tryz.ntmps36
      obtain ⟨⟨a0, a1, a2, a3⟩, ⟨a4, a5, a6, a7⟩⟩ := K.out W1 (Below.refl _ _)
      go_wp2_with fail
      clear a0 a1 a2 a3 a4 a5 a6 a7
      refine (HC1.out W1).mono ?_
      rintro e w1 ⟨rfl, hb1⟩
      have HB1 := Lib.hid hb1
      obtain ⟨⟨a0, a1, a2, a3⟩, ⟨a4, a5, a6, a7⟩⟩ := K.out _ hb1
      clear hb1
      go_wp2_with fail
      refine (HC2.out w1).mono ?_
      rintro e w2 ⟨rfl, hb2⟩
      have HB2 := Lib.hid (btr HB1.out hb2)
      obtain ⟨⟨c0, c1, c2, c3⟩, ⟨c4, c5, c6, c7⟩⟩ := K.out _ HB2.out
      clear a0 a1 a2 a3 a4 a5 a6 a7 hb2
      go_wp2
      go_ret
      exact ⟨rfl, btr HBE.out HB2.out⟩
  · have g1' : okB k n d s = false := by simpa using g1
    rw [show ordV k n d s k' n' d' s' = 0 by simp [ordV, g1']]
    have HC1 : Hid (∀ W, Calls Tryz.prog 28 #[V k n d s] W fun e w' => e = .returned (.int .i64 2) ∧ Below W.heap.size W w') := fun W => by
      have h9 := H1.out W
      rw [g1'] at h9
      exact h9
    clear g1 g1' H1 H2 hs hs' hbel
    go_enter Tryz.func36, Tryz.ntmps36
    obtain ⟨⟨a0, a1, a2, a3⟩, ⟨a4, a5, a6, a7⟩⟩ := K.out W1 (Below.refl _ _)
    go_wp2_with fail
    clear a0 a1 a2 a3 a4 a5 a6 a7
    refine (HC1.out W1).mono ?_
    rintro e w1 ⟨rfl, hb1⟩
    have HB1 := Lib.hid hb1
    clear hb1
    go_wp2
    go_ret
    exact ⟨rfl, btr HBE.out HB1.out⟩
end Go.Proofs.YtnfncdalneifnaaGreatDoor
end

/- The integer below a number of any size. -/
section
namespace Go.Proofs.YtnfncdalneifnaaGreatDoor
open Go.RowKit Go.Deep

set_option maxHeartbeats 2000000 in
theorem g_Floor (w : World) (v : Value) (neg : Bool) (n d : Nat) (h : RatAt w v neg n d) (hd0 : 0 < d) (hnn : nw n ≤ 100000) :
    Calls Tryz.prog 9 #[v] w (RatRet w (sgn neg (floorN neg n d)) (floorN neg n d) 1) := by
  have HV := Lib.hid (c_valid w v neg n d h)
  obtain ⟨b, nv, dv, rfl, hlt, _, h1, h2, h3, hn, hd⟩ := h
  have HDv := Lib.hid (fun k => g_divided (w.drewN k) nv dv n d (hn.drewN k) (hd.drewN k) (by omega) hd0)
  have K : Hid (∀ W, Below w.heap.size w W → W.cell? ⟨b, 1, none⟩ = some (.bool neg) ∧ W.cell? ⟨b, 2, none⟩ = some nv ∧ W.cell? ⟨b, 3, none⟩ = some dv) := fun W hW =>
    ⟨(hW.cell (p := ⟨b, 1, none⟩) hlt).trans h1, (hW.cell (p := ⟨b, 2, none⟩) hlt).trans h2, (hW.cell (p := ⟨b, 3, none⟩) hlt).trans h3⟩
  have hq : nw (n / d) ≤ 100000 := Nat.le_trans (nw_mono (Nat.div_le_self _ _)) hnn
  clear hn hd h1 h2 h3
  go_enter Tryz.func9, Tryz.ntmps9
  go_wp2_with fail
  refine HV.out.mono ?_
  rintro e w' ⟨rfl, rfl⟩
  have B0 : Below w.heap.size w w.drew := Below.drew (Below.refl _ _)
  go_wp2_with fail
  go_region_held3 (fun w' => w'.cell? ⟨b, 1, none⟩ = some (.bool neg) ∧ w'.cell? ⟨b, 2, none⟩ = some nv ∧ w'.cell? ⟨b, 3, none⟩ = some dv)
    (first | exact K.out _ B1 | exact K.out _ B0 | exact K.out _ (Below.refl _ _)) (first
      | (go_at_call 45; refine (HDv.out 1).mono ?_; rintro e w1 ⟨q, r, rfl, hqa, hra, hb1⟩; have B1 : Below w.heap.size w w1 := btr B0 hb1))
  obtain ⟨c1, c2, c3⟩ := K.out _ B1
  have HRA := Lib.hid hra
  obtain ⟨A, c, rfl, _, _, _⟩ := hra
  have HQA := Lib.hid hqa
  have B1d : Below w1.heap.size w1 w1.drew := Below.drew (Below.refl _ _)
  have K1 : Hid (∀ W, Below w1.heap.size w1 W → W.cell? ⟨b, 1, none⟩ = some (.bool neg)) := fun W hW => (K.out W (btr B1 hW)).1
  have HW1 := Lib.hid (fun W => n_word W 1 (by decide))
  clear hqa HDv B0 HV
  by_cases hc : neg = true ∧ n % d ≠ 0
  · have HF : Hid (floorN neg n d = n / d + 1) := if_pos hc
    have hr0 : 0 < nw (n % d) := by rw [nw_pos]; omega
    have hng : neg = true := hc.1
    subst hng
    clear hc
    generalize nw (n % d) = m at *
    have hdm : decide (0 < m) = true := by simp [hr0]
    go_wp2_with fail
    refine (HW1.out _).mono ?_
    rintro e w2 ⟨o, rfl, ho, hb2⟩
    have HPl := Lib.hid (n_plus w2 q o (n / d) 1 (HQA.out.below hb2) ho (by omega) (by rw [nw_one 1 (by omega) (by decide)]; omega))
    go_wp2_with fail
    refine HPl.out.mono ?_
    rintro e w3 ⟨wh, rfl, hwh, hb3⟩
    have B3 : Below w1.heap.size w1 w3 := btr hb2 hb3
    have B3d : Below w3.heap.size w3 w3.drew := Below.drew (Below.refl _ _)
    have HWH := Lib.hid hwh
    clear ho hwh HPl
    go_wp2_with fail
    go_region_held3 (fun w' => w'.cell? ⟨b, 1, none⟩ = some (.bool true))
      (first | exact K1.out _ (btr B3 B5) | exact K1.out _ (btr B3 B4) | exact K1.out _ (btr B3 B3d) | exact K1.out _ B3) (first
        | (go_at_call 41; refine (HW1.out _).mono ?_; rintro e w4 ⟨o2, rfl, ho2, hb4⟩; have B4 : Below w3.heap.size w3 w4 := btr B3d hb4)
        | (go_at_call 40; refine (c_made _ wh o2 true (n / d + 1) 1 (HWH.out.below B4) ho2).mono ?_; rintro e w5 ⟨u, rfl, hu, hb5⟩; have B5 : Below w3.heap.size w3 w5 := btr B4 hb5))
    all_goals
      go_wp2
      go_ret
      exact ⟨u, rfl, by rw [HF.out]; exact hu, btr B1 (btr B3 B5)⟩
  · have HF : Hid (floorN neg n d = n / d) := if_neg hc
    have hdm : neg = false ∨ (neg = true ∧ nw (n % d) = 0) := by
      cases neg
      · exact .inl rfl
      · refine .inr ⟨rfl, ?_⟩
        rw [nw_eq_zero]
        rcases Nat.eq_zero_or_pos (n % d) with h9 | h9
        · exact h9
        · exact absurd ⟨rfl, by omega⟩ hc
    clear hc
    generalize nw (n % d) = m at *
    rcases hdm with rfl | ⟨rfl, rfl⟩
    · go_wp2_with fail
      go_region_held3 (fun w' => w'.cell? ⟨b, 1, none⟩ = some (.bool false))
        (first | exact K1.out _ B5 | exact K1.out _ B4 | exact K1.out _ B1d | exact K1.out _ (Below.refl _ _)) (first
          | (go_at_call 41; refine (HW1.out _).mono ?_; rintro e w4 ⟨o2, rfl, ho2, hb4⟩; have B4 : Below w1.heap.size w1 w4 := btr B1d hb4)
          | (go_at_call 40; refine (c_made _ q o2 false (n / d) 1 (HQA.out.below B4) ho2).mono ?_; rintro e w5 ⟨u, rfl, hu, hb5⟩; have B5 : Below w1.heap.size w1 w5 := btr B4 hb5))
      all_goals
        go_wp2
        go_ret
        exact ⟨u, rfl, by rw [HF.out]; exact hu, btr B1 B5⟩
    · go_wp2_with fail
      go_region_held3 (fun w' => w'.cell? ⟨b, 1, none⟩ = some (.bool true))
        (first | exact K1.out _ B5 | exact K1.out _ B4 | exact K1.out _ B1d | exact K1.out _ (Below.refl _ _)) (first
          | (go_at_call 41; refine (HW1.out _).mono ?_; rintro e w4 ⟨o2, rfl, ho2, hb4⟩; have B4 : Below w1.heap.size w1 w4 := btr B1d hb4)
          | (go_at_call 40; refine (c_made _ q o2 true (n / d) 1 (HQA.out.below B4) ho2).mono ?_; rintro e w5 ⟨u, rfl, hu, hb5⟩; have B5 : Below w1.heap.size w1 w5 := btr B4 hb5))
      all_goals
        go_wp2
        go_ret
        exact ⟨u, rfl, by rw [HF.out]; exact hu, btr B1 B5⟩

/-- The three parts of the integer below a number. -/
theorem floor_parts (q : Rat) : sgn (decide (q.num < 0)) (floorN (decide (q.num < 0)) q.num.natAbs q.den) = decide (((q.floor : Int) : Rat).num < 0) ∧
    floorN (decide (q.num < 0)) q.num.natAbs q.den = ((q.floor : Int) : Rat).num.natAbs ∧ 1 = ((q.floor : Int) : Rat).den := by
  rw [Rat.num_intCast, Rat.den_intCast, Rat.floor_def]
  have hd := q.den_pos
  generalize q.num = m
  generalize q.den = d at *
  unfold sgn floorN
  by_cases hm : m < 0
  · obtain ⟨k, rfl⟩ : ∃ k : Nat, m = -((k : Int) + 1) := ⟨(-m - 1).toNat, by omega⟩
    have e1 : (-((k : Int) + 1)).natAbs = k + 1 := by omega
    have e2 : -((k : Int) + 1) / (d : Int) = -((k / d : Nat) : Int) - 1 := by
      rw [show -((k : Int) + 1) = Int.negSucc k from by rw [Int.negSucc_eq]]
      rw [Int.negSucc_ediv _ (by omega)]
      rw [show (k : Int).ediv (d : Int) = ((k / d : Nat) : Int) from rfl]
      omega
    rw [e1, e2]
    have e3 : (if decide (-((k : Int) + 1) < 0) = true ∧ (k + 1) % d ≠ 0 then (k + 1) / d + 1 else (k + 1) / d) = k / d + 1 := by
      simp only [hm, decide_true, true_and]
      rw [Nat.succ_div]
      by_cases h : d ∣ k + 1
      · rw [if_neg (by have := Nat.mod_eq_zero_of_dvd h; omega), if_pos h]
      · rw [if_pos (by intro h9; exact h (Nat.dvd_of_mod_eq_zero h9)), if_neg h]
    rw [e3]
    refine ⟨?_, by omega, rfl⟩
    simp only [hm, decide_true, Bool.true_and, decide_eq_decide]
    omega
  · obtain ⟨k, rfl⟩ : ∃ k : Nat, m = (k : Int) := ⟨m.toNat, by omega⟩
    have e2 : (k : Int) / (d : Int) = ((k / d : Nat) : Int) := rfl
    simp only [hm, decide_false, Bool.false_and, Bool.false_eq_true, false_and, if_false, e2, Int.natAbs_natCast]
    refine ⟨?_, trivial, trivial⟩
    symm
    rw [decide_eq_false_iff_not]
    generalize k / d = z
    omega
theorem v_Floor (w : World) (x : Value) (q : Rat) (hx : RatV w x q) (k : RatW q 100000) :
    Calls Tryz.prog 9 #[x] w (RatVRet w ((q.floor : Int) : Rat)) := by
  obtain ⟨e1, e2, e3⟩ := floor_parts q
  refine (g_Floor w x _ _ _ hx q.den_pos k.1).mono ?_
  rintro e w' ⟨u, rfl, hu, hb⟩
  rw [e1, e2] at hu
  exact ⟨u, rfl, hu.toV rfl rfl e3, hb⟩
end Go.Proofs.YtnfncdalneifnaaGreatDoor
end

/- The reference's Do: each operation's own result. -/
section
namespace Go.Proofs.YtnfncdalneifnaaGreatDoor
open Go Go.RowKit Go.Deep

theorem r_TruthB (t : Bool) (w : World) : Calls Tryz.prog 32 #[.bool t] w fun e w' => e = .returned (V 1 (bit t) 0 noS) ∧ Below w.heap.size w w' := by
  cases t
  · exact r_Truth0 w
  · exact r_Truth1 w
theorem low_of {k n d : Int} {s : ByteArray} (h : (okB k n d s && k == 2) = true) : Low n d := by
  have h9 : okB k n d s = true ∧ k = 2 := by simpa using h
  obtain ⟨hok, rfl⟩ := h9
  have : okB 2 n d s = decide (s.toList = [] ∧ Low n d) := rfl
  rw [this] at hok
  exact (of_decide_eq_true hok).2
set_option maxRecDepth 100000 in
set_option maxHeartbeats 1000000 in
theorem R_run19 (w : World) (op : Int) (A : Option Addr) (n cap : Nat) (kk nn dd : Nat → Int) (ss : Nat → ByteArray) (hop : opn op = n) (hn : n ≠ 0) (hn5 : n ≤ 5) (hv : Vals w A n kk nn dd ss) (ho : op = 19) (hn1 : n = 2) (hall : AllOk n kk nn dd ss) (hK : KindsIs w op A n cap true) (rk rn rd : Int) (rs : ByteArray) (hS : SpecIs w op A n cap rk rn rd rs false) (hno : ∀ k, k < n → kk k ≠ 0)  : DoIs w op A n cap 1 1 0 noS 0 := by
  have HO : Hid (∀ W, Calls Tryz.prog 27 #[.int .i64 op] W fun e w' => e = .returned (.int .i64 (n : Int)) ∧ Below W.heap.size W w') := fun W => by rw [← hop]; exact r_operands op W
  have HV := Lib.hid (fun W (hW : Below w.heap.size w W) => hv.below hW)
  have HC : Hid (∀ k, k < n → ∀ W, Calls Tryz.prog 28 #[V (kk k) (nn k) (dd k) (ss k)] W fun e w' => e = .returned (.int .i64 0) ∧ Below W.heap.size W w') := fun k hk W => by
    have h9 := r_Check (kk k) (nn k) (dd k) (ss k) W (hall k hk).2
    rw [(hall k hk).1] at h9
    exact h9
  have HK := Lib.hid hK
  have HS := Lib.hid hS
  have HN := Lib.hid hno
  have HZ0 : Hid ((ss 0).size ≤ 9223372036854775807) := (hall 0 (by omega)).2
  have HZ1 : Hid ((ss 1).size ≤ 9223372036854775807) := (hall 1 (by omega)).2
  have HO1 := Lib.hid ho
  have HN1 := Lib.hid hn1
  clear ho hn1
  clear hall hK hS hno
  obtain ⟨W0, hW0, hB0, hz0, KR⟩ := valz_box w
  have HB0 := Lib.hid hB0
  have e1 : ((n : Int) == 0) = false := by rw [beq_eq_false_iff_ne]; omega
  have i5 : (n : Int) ≤ 5 := by omega
  clear hB0 hop hv
  unfold DoIs
  go_enter Tryz.func6, Tryz.ntmps6
  go_wp2_with fail
  refine (HO.out _).mono ?_
  rintro e w1 ⟨rfl, hb1⟩
  have B1 := Lib.hid hb1
  clear hb1
  go_wp2_with fail
  refine (HO.out _).mono ?_
  rintro e w2 ⟨rfl, hb2⟩
  have B2 := Lib.hid (btr B1.out hb2)
  clear hb2 HO
  go_wp2
  go_loopw [6] (fun i wr => ∃ k : Nat, k ≤ n ∧ i = .int .i64 k ∧ Hid (Below W0.heap.size W0 wr)) (fun i _ => n - (intOf i).toNat)
  case atStart => exact ⟨0, Nat.zero_le _, rfl, B2.out⟩
  case round =>
    obtain ⟨k, hk, rfl, HB⟩ := hrel
    by_cases hlt : k < n
    · have hkn : k < n := by omega
      obtain ⟨b, o, rfl, hlb, hc⟩ := HV.out wr (btr HB0.out HB.out) (by omega)
      obtain ⟨c0, c1, c2, c3⟩ := hc k hkn
      have hC := HC.out k hlt
      clear hc
      generalize kk k = k0 at *
      generalize nn k = n0 at *
      generalize dd k = d0 at *
      generalize ss k = s0 at *
      go_wp2_with fail
      refine (hC wr).mono ?_
      rintro e w3 ⟨rfl, hb3⟩
      have HB3 : Hid (Below W0.heap.size W0 w3) := btr HB.out hb3
      clear hb3 c0 c1 c2 c3
      go_wp2
      exact ⟨⟨k + 1, by omega, by go_num, HB3⟩, by simp [intOf]; omega⟩
    · obtain rfl : n = k := by omega
      clear HC
      go_wp2_with fail
      refine (HK.out wr (btr HB0.out HB.out)).mono ?_
      rintro e w3 ⟨rfl, hb3⟩
      have B3 := Lib.hid (btr HB.out hb3)
      clear hb3
      go_wp2_with fail
      refine (HS.out w3 (btr HB0.out B3.out)).mono ?_
      rintro e w4 ⟨rfl, hb4⟩
      obtain ⟨w5, hw5, hb5, KV⟩ := kinds_of rk rn rd rs w4
      have B5 := Lib.hid (btr B3.out (btr hb4 hb5))
      clear hb4 hb5
      go_wp2
      go_loopw [9] (fun i wr => ∃ k : Nat, k ≤ n ∧ i = .int .i64 k ∧ Hid (Below W0.heap.size W0 wr)) (fun i _ => n - (intOf i).toNat)
      case atStart => exact ⟨0, Nat.zero_le _, rfl, B5.out⟩
      case round =>
        obtain ⟨i, hi, rfl, HB⟩ := hrel
        by_cases hlt : i < n
        · obtain ⟨b, o, rfl, hlb, hc⟩ := HV.out wr (btr HB0.out HB.out) (by omega)
          obtain ⟨c0, c1, c2, c3⟩ := hc i hlt
          clear hc
          have hk0 : (kk i == 0) = false := by rw [beq_eq_false_iff_ne]; exact HN.out i hlt
          generalize kk i = k0 at *
          go_wp2
          exact ⟨⟨i + 1, by omega, by go_num, HB⟩, by simp [intOf]; omega⟩
        · obtain rfl : n = i := by omega
          have ho := HO1.out
          subst ho
          have hn0 : (0 : Int) < n := by have := HN1.out; omega
          have hn02 : (n : Int) ≤ 5 := by have := HN1.out; omega
          obtain ⟨b, o, rfl, hlb, hc⟩ := HV.out wr (btr HB0.out HB.out) (by omega)
          have h0 : ValIn wr b o (kk 0) (nn 0) (dd 0) (ss 0) := hc 0 (by omega)
          obtain ⟨c0, c1, c2, c3⟩ := h0
          have HNu := Lib.hid (fun W => r_Number (kk 0) (nn 0) (dd 0) (ss 0) W HZ0.out)
          have HC0 : Hid (∀ W, Below wr.heap.size wr W → ValIn W b o (kk 0) (nn 0) (dd 0) (ss 0)) := fun W hW => (hc 0 (by omega)).below hW hlb
          go_wp2_with fail
          refine (HNu.out wr).mono ?_
          rintro e w6 ⟨r, rfl, ⟨sb, A5, m5, c5, A6, m6, c6, rfl⟩, hr, hb6⟩
          obtain ⟨w7, hw7, hb7, hz7, KX⟩ := ref_box w6 sb (.slice A5 m5 c5) (.slice A6 m6 c6)
          have HR := Lib.hid hr
          have B67 := Lib.hid hb7
          have B7 := Lib.hid (btr HB.out (btr hb6 hb7))
          have Bw := Lib.hid (btr hb6 hb7)
          clear hb6 hb7 hr c0 c1 c2 c3
          have HT := Lib.hid (fun W => r_TruthB true W)
          go_wp2_with fail
          refine (HT.out _).mono ?_
          rintro e w8 ⟨rfl, hb8⟩
          have B8 := Lib.hid (btr B7.out hb8)
          clear hb8
          have hcell := KR.out w8 B8.out
          have hBf := btr HB0.out B8.out
          go_wp2_with (refine wpList_store_row 25 _ _ rfl rfl rfl w.heap.size 25 rfl [.int .i64 1, .int .i64 1, .int .i64 0, .string noS] rfl _ hcell rfl info_val (val_one _ _ _ _) ?_; intro wz hhz hgz hzz; have HBz : Hid (Below w.heap.size w wz) := hBf.grown hgz hBf.size (fun j hj => by injection hj with hj; omega); clear hzz hgz hcell)
          exact bodyPost_ret (v := .tuple #[V 1 1 0 noS, .int .i64 0]) (results_cell_tmp Tryz.results6 _ _ w.heap.size 25 _ (0, 0) _ rfl hhz Tryz.underlying25 rfl (by rw [info_val]; rfl)) rfl ⟨rfl, HBz.out⟩
set_option maxRecDepth 100000 in
set_option maxHeartbeats 1000000 in
theorem R_run20 (w : World) (op : Int) (A : Option Addr) (n cap : Nat) (kk nn dd : Nat → Int) (ss : Nat → ByteArray) (hop : opn op = n) (hn : n ≠ 0) (hn5 : n ≤ 5) (hv : Vals w A n kk nn dd ss) (ho : op = 20) (hn1 : n = 2) (hall : AllOk n kk nn dd ss) (hK : KindsIs w op A n cap true) (rk rn rd : Int) (rs : ByteArray) (hS : SpecIs w op A n cap rk rn rd rs false) (hno : ∀ k, k < n → kk k ≠ 0)  : DoIs w op A n cap 1 0 0 noS 0 := by
  have HO : Hid (∀ W, Calls Tryz.prog 27 #[.int .i64 op] W fun e w' => e = .returned (.int .i64 (n : Int)) ∧ Below W.heap.size W w') := fun W => by rw [← hop]; exact r_operands op W
  have HV := Lib.hid (fun W (hW : Below w.heap.size w W) => hv.below hW)
  have HC : Hid (∀ k, k < n → ∀ W, Calls Tryz.prog 28 #[V (kk k) (nn k) (dd k) (ss k)] W fun e w' => e = .returned (.int .i64 0) ∧ Below W.heap.size W w') := fun k hk W => by
    have h9 := r_Check (kk k) (nn k) (dd k) (ss k) W (hall k hk).2
    rw [(hall k hk).1] at h9
    exact h9
  have HK := Lib.hid hK
  have HS := Lib.hid hS
  have HN := Lib.hid hno
  have HZ0 : Hid ((ss 0).size ≤ 9223372036854775807) := (hall 0 (by omega)).2
  have HZ1 : Hid ((ss 1).size ≤ 9223372036854775807) := (hall 1 (by omega)).2
  have HO1 := Lib.hid ho
  have HN1 := Lib.hid hn1
  clear ho hn1
  clear hall hK hS hno
  obtain ⟨W0, hW0, hB0, hz0, KR⟩ := valz_box w
  have HB0 := Lib.hid hB0
  have e1 : ((n : Int) == 0) = false := by rw [beq_eq_false_iff_ne]; omega
  have i5 : (n : Int) ≤ 5 := by omega
  clear hB0 hop hv
  unfold DoIs
  go_enter Tryz.func6, Tryz.ntmps6
  go_wp2_with fail
  refine (HO.out _).mono ?_
  rintro e w1 ⟨rfl, hb1⟩
  have B1 := Lib.hid hb1
  clear hb1
  go_wp2_with fail
  refine (HO.out _).mono ?_
  rintro e w2 ⟨rfl, hb2⟩
  have B2 := Lib.hid (btr B1.out hb2)
  clear hb2 HO
  go_wp2
  go_loopw [6] (fun i wr => ∃ k : Nat, k ≤ n ∧ i = .int .i64 k ∧ Hid (Below W0.heap.size W0 wr)) (fun i _ => n - (intOf i).toNat)
  case atStart => exact ⟨0, Nat.zero_le _, rfl, B2.out⟩
  case round =>
    obtain ⟨k, hk, rfl, HB⟩ := hrel
    by_cases hlt : k < n
    · have hkn : k < n := by omega
      obtain ⟨b, o, rfl, hlb, hc⟩ := HV.out wr (btr HB0.out HB.out) (by omega)
      obtain ⟨c0, c1, c2, c3⟩ := hc k hkn
      have hC := HC.out k hlt
      clear hc
      generalize kk k = k0 at *
      generalize nn k = n0 at *
      generalize dd k = d0 at *
      generalize ss k = s0 at *
      go_wp2_with fail
      refine (hC wr).mono ?_
      rintro e w3 ⟨rfl, hb3⟩
      have HB3 : Hid (Below W0.heap.size W0 w3) := btr HB.out hb3
      clear hb3 c0 c1 c2 c3
      go_wp2
      exact ⟨⟨k + 1, by omega, by go_num, HB3⟩, by simp [intOf]; omega⟩
    · obtain rfl : n = k := by omega
      clear HC
      go_wp2_with fail
      refine (HK.out wr (btr HB0.out HB.out)).mono ?_
      rintro e w3 ⟨rfl, hb3⟩
      have B3 := Lib.hid (btr HB.out hb3)
      clear hb3
      go_wp2_with fail
      refine (HS.out w3 (btr HB0.out B3.out)).mono ?_
      rintro e w4 ⟨rfl, hb4⟩
      obtain ⟨w5, hw5, hb5, KV⟩ := kinds_of rk rn rd rs w4
      have B5 := Lib.hid (btr B3.out (btr hb4 hb5))
      clear hb4 hb5
      go_wp2
      go_loopw [9] (fun i wr => ∃ k : Nat, k ≤ n ∧ i = .int .i64 k ∧ Hid (Below W0.heap.size W0 wr)) (fun i _ => n - (intOf i).toNat)
      case atStart => exact ⟨0, Nat.zero_le _, rfl, B5.out⟩
      case round =>
        obtain ⟨i, hi, rfl, HB⟩ := hrel
        by_cases hlt : i < n
        · obtain ⟨b, o, rfl, hlb, hc⟩ := HV.out wr (btr HB0.out HB.out) (by omega)
          obtain ⟨c0, c1, c2, c3⟩ := hc i hlt
          clear hc
          have hk0 : (kk i == 0) = false := by rw [beq_eq_false_iff_ne]; exact HN.out i hlt
          generalize kk i = k0 at *
          go_wp2
          exact ⟨⟨i + 1, by omega, by go_num, HB⟩, by simp [intOf]; omega⟩
        · obtain rfl : n = i := by omega
          have ho := HO1.out
          subst ho
          have hn0 : (0 : Int) < n := by have := HN1.out; omega
          have hn02 : (n : Int) ≤ 5 := by have := HN1.out; omega
          obtain ⟨b, o, rfl, hlb, hc⟩ := HV.out wr (btr HB0.out HB.out) (by omega)
          have h0 : ValIn wr b o (kk 0) (nn 0) (dd 0) (ss 0) := hc 0 (by omega)
          obtain ⟨c0, c1, c2, c3⟩ := h0
          have HNu := Lib.hid (fun W => r_Number (kk 0) (nn 0) (dd 0) (ss 0) W HZ0.out)
          have HC0 : Hid (∀ W, Below wr.heap.size wr W → ValIn W b o (kk 0) (nn 0) (dd 0) (ss 0)) := fun W hW => (hc 0 (by omega)).below hW hlb
          go_wp2_with fail
          refine (HNu.out wr).mono ?_
          rintro e w6 ⟨r, rfl, ⟨sb, A5, m5, c5, A6, m6, c6, rfl⟩, hr, hb6⟩
          obtain ⟨w7, hw7, hb7, hz7, KX⟩ := ref_box w6 sb (.slice A5 m5 c5) (.slice A6 m6 c6)
          have HR := Lib.hid hr
          have B67 := Lib.hid hb7
          have B7 := Lib.hid (btr HB.out (btr hb6 hb7))
          have Bw := Lib.hid (btr hb6 hb7)
          clear hb6 hb7 hr c0 c1 c2 c3
          have HT := Lib.hid (fun W => r_TruthB false W)
          go_wp2_with fail
          refine (HT.out _).mono ?_
          rintro e w8 ⟨rfl, hb8⟩
          have B8 := Lib.hid (btr B7.out hb8)
          clear hb8
          have hcell := KR.out w8 B8.out
          have hBf := btr HB0.out B8.out
          go_wp2_with (refine wpList_store_row 25 _ _ rfl rfl rfl w.heap.size 25 rfl [.int .i64 1, .int .i64 0, .int .i64 0, .string noS] rfl _ hcell rfl info_val (val_one _ _ _ _) ?_; intro wz hhz hgz hzz; have HBz : Hid (Below w.heap.size w wz) := hBf.grown hgz hBf.size (fun j hj => by injection hj with hj; omega); clear hzz hgz hcell)
          exact bodyPost_ret (v := .tuple #[V 1 0 0 noS, .int .i64 0]) (results_cell_tmp Tryz.results6 _ _ w.heap.size 25 _ (0, 0) _ rfl hhz Tryz.underlying25 rfl (by rw [info_val]; rfl)) rfl ⟨rfl, HBz.out⟩
set_option maxRecDepth 100000 in
set_option maxHeartbeats 1000000 in
theorem R_run5 (w : World) (op : Int) (A : Option Addr) (n cap : Nat) (kk nn dd : Nat → Int) (ss : Nat → ByteArray) (hop : opn op = n) (hn : n ≠ 0) (hn5 : n ≤ 5) (hv : Vals w A n kk nn dd ss) (ho : op = 5) (hn1 : n = 1) (hall : AllOk n kk nn dd ss) (hK : KindsIs w op A n cap true) (rk rn rd : Int) (rs : ByteArray) (hS : SpecIs w op A n cap rk rn rd rs false) (hno : ∀ k, k < n → kk k ≠ 0) (hz : (okB (kk 0) (nn 0) (dd 0) (ss 0) && kk 0 == 2) = true) : DoIs w op A n cap (valK (-qV (nn 0) (dd 0))) (valN (-qV (nn 0) (dd 0))) (valD (-qV (nn 0) (dd 0))) noS 0 := by
  have HO : Hid (∀ W, Calls Tryz.prog 27 #[.int .i64 op] W fun e w' => e = .returned (.int .i64 (n : Int)) ∧ Below W.heap.size W w') := fun W => by rw [← hop]; exact r_operands op W
  have HV := Lib.hid (fun W (hW : Below w.heap.size w W) => hv.below hW)
  have HC : Hid (∀ k, k < n → ∀ W, Calls Tryz.prog 28 #[V (kk k) (nn k) (dd k) (ss k)] W fun e w' => e = .returned (.int .i64 0) ∧ Below W.heap.size W w') := fun k hk W => by
    have h9 := r_Check (kk k) (nn k) (dd k) (ss k) W (hall k hk).2
    rw [(hall k hk).1] at h9
    exact h9
  have HK := Lib.hid hK
  have HS := Lib.hid hS
  have HN := Lib.hid hno
  have HZ0 : Hid ((ss 0).size ≤ 9223372036854775807) := (hall 0 (by omega)).2
  have HG0 := Lib.hid hz
  clear hz
  have HO1 := Lib.hid ho
  have HN1 := Lib.hid hn1
  clear ho hn1
  clear hall hK hS hno
  obtain ⟨W0, hW0, hB0, hz0, KR⟩ := valz_box w
  have HB0 := Lib.hid hB0
  have e1 : ((n : Int) == 0) = false := by rw [beq_eq_false_iff_ne]; omega
  have i5 : (n : Int) ≤ 5 := by omega
  clear hB0 hop hv
  unfold DoIs
  go_enter Tryz.func6, Tryz.ntmps6
  go_wp2_with fail
  refine (HO.out _).mono ?_
  rintro e w1 ⟨rfl, hb1⟩
  have B1 := Lib.hid hb1
  clear hb1
  go_wp2_with fail
  refine (HO.out _).mono ?_
  rintro e w2 ⟨rfl, hb2⟩
  have B2 := Lib.hid (btr B1.out hb2)
  clear hb2 HO
  go_wp2
  go_loopw [6] (fun i wr => ∃ k : Nat, k ≤ n ∧ i = .int .i64 k ∧ Hid (Below W0.heap.size W0 wr)) (fun i _ => n - (intOf i).toNat)
  case atStart => exact ⟨0, Nat.zero_le _, rfl, B2.out⟩
  case round =>
    obtain ⟨k, hk, rfl, HB⟩ := hrel
    by_cases hlt : k < n
    · have hkn : k < n := by omega
      obtain ⟨b, o, rfl, hlb, hc⟩ := HV.out wr (btr HB0.out HB.out) (by omega)
      obtain ⟨c0, c1, c2, c3⟩ := hc k hkn
      have hC := HC.out k hlt
      clear hc
      generalize kk k = k0 at *
      generalize nn k = n0 at *
      generalize dd k = d0 at *
      generalize ss k = s0 at *
      go_wp2_with fail
      refine (hC wr).mono ?_
      rintro e w3 ⟨rfl, hb3⟩
      have HB3 : Hid (Below W0.heap.size W0 w3) := btr HB.out hb3
      clear hb3 c0 c1 c2 c3
      go_wp2
      exact ⟨⟨k + 1, by omega, by go_num, HB3⟩, by simp [intOf]; omega⟩
    · obtain rfl : n = k := by omega
      clear HC
      go_wp2_with fail
      refine (HK.out wr (btr HB0.out HB.out)).mono ?_
      rintro e w3 ⟨rfl, hb3⟩
      have B3 := Lib.hid (btr HB.out hb3)
      clear hb3
      go_wp2_with fail
      refine (HS.out w3 (btr HB0.out B3.out)).mono ?_
      rintro e w4 ⟨rfl, hb4⟩
      obtain ⟨w5, hw5, hb5, KV⟩ := kinds_of rk rn rd rs w4
      have B5 := Lib.hid (btr B3.out (btr hb4 hb5))
      clear hb4 hb5
      go_wp2
      go_loopw [9] (fun i wr => ∃ k : Nat, k ≤ n ∧ i = .int .i64 k ∧ Hid (Below W0.heap.size W0 wr)) (fun i _ => n - (intOf i).toNat)
      case atStart => exact ⟨0, Nat.zero_le _, rfl, B5.out⟩
      case round =>
        obtain ⟨i, hi, rfl, HB⟩ := hrel
        by_cases hlt : i < n
        · obtain ⟨b, o, rfl, hlb, hc⟩ := HV.out wr (btr HB0.out HB.out) (by omega)
          obtain ⟨c0, c1, c2, c3⟩ := hc i hlt
          clear hc
          have hk0 : (kk i == 0) = false := by rw [beq_eq_false_iff_ne]; exact HN.out i hlt
          generalize kk i = k0 at *
          go_wp2
          exact ⟨⟨i + 1, by omega, by go_num, HB⟩, by simp [intOf]; omega⟩
        · obtain rfl : n = i := by omega
          have ho := HO1.out
          subst ho
          have hn0 : (0 : Int) < n := by have := HN1.out; omega
          have hn02 : (n : Int) ≤ 5 := by have := HN1.out; omega
          obtain ⟨b, o, rfl, hlb, hc⟩ := HV.out wr (btr HB0.out HB.out) (by omega)
          have h0 : ValIn wr b o (kk 0) (nn 0) (dd 0) (ss 0) := hc 0 (by omega)
          obtain ⟨c0, c1, c2, c3⟩ := h0
          have HNu := Lib.hid (fun W => r_Number (kk 0) (nn 0) (dd 0) (ss 0) W HZ0.out)
          have HC0 : Hid (∀ W, Below wr.heap.size wr W → ValIn W b o (kk 0) (nn 0) (dd 0) (ss 0)) := fun W hW => (hc 0 (by omega)).below hW hlb
          go_wp2_with fail
          refine (HNu.out wr).mono ?_
          rintro e w6 ⟨r, rfl, ⟨sb, A5, m5, c5, A6, m6, c6, rfl⟩, hr, hb6⟩
          obtain ⟨w7, hw7, hb7, hz7, KX⟩ := ref_box w6 sb (.slice A5 m5 c5) (.slice A6 m6 c6)
          have HR := Lib.hid hr
          have B67 := Lib.hid hb7
          have B7 := Lib.hid (btr HB.out (btr hb6 hb7))
          have Bw := Lib.hid (btr hb6 hb7)
          clear hb6 hb7 hr c0 c1 c2 c3
          have hq : RefV w6 (.agg #[.bool sb, .slice A5 m5 c5, .slice A6 m6 c6]) (qV (nn 0) (dd 0)) := HR.out HG0.out
          have HQ := Lib.hid (hq.below B67.out)
          clear hq
          have HOp := Lib.hid (fun W r (h : RefV W r (qV (nn 0) (dd 0))) => r_Neg W r (qV (nn 0) (dd 0)) h)
          have HVv := Lib.hid (fun W r (h : RefV W r (-qV (nn 0) (dd 0))) => r_Value W r (-qV (nn 0) (dd 0)) h)
          obtain ⟨x0, x1, x2⟩ := KX.out w7 (Below.refl _ _)
          go_wp2_with fail
          refine (HOp.out _ _ HQ.out).mono ?_
          rintro e w8 ⟨r2, rfl, hr2, hb8⟩
          have B8 := Lib.hid (btr B7.out hb8)
          have HR2 := Lib.hid hr2
          clear hb8 hr2 x0 x1 x2
          go_wp2_with fail
          refine (HVv.out _ _ HR2.out).mono ?_
          rintro e w9 ⟨rfl, hb9⟩
          have B9 := Lib.hid (btr B8.out hb9)
          clear hb9
          have hcell := KR.out w9 B9.out
          have hBf := btr HB0.out B9.out
          go_wp2_with (refine wpList_store_row 25 _ _ rfl rfl rfl w.heap.size 25 rfl [.int .i64 (valK (-qV (nn 0) (dd 0))), .int .i64 (valN (-qV (nn 0) (dd 0))), .int .i64 (valD (-qV (nn 0) (dd 0))), .string noS] rfl _ hcell rfl info_val (val_one _ _ _ _) ?_; intro wz hhz hgz hzz; have HBz : Hid (Below w.heap.size w wz) := hBf.grown hgz hBf.size (fun j hj => by injection hj with hj; omega); clear hzz hgz hcell)
          exact bodyPost_ret (v := .tuple #[V (valK (-qV (nn 0) (dd 0))) (valN (-qV (nn 0) (dd 0))) (valD (-qV (nn 0) (dd 0))) noS, .int .i64 0]) (results_cell_tmp Tryz.results6 _ _ w.heap.size 25 _ (0, 0) _ rfl hhz Tryz.underlying25 rfl (by rw [info_val]; rfl)) rfl ⟨rfl, HBz.out⟩
set_option maxRecDepth 100000 in
set_option maxHeartbeats 1000000 in
theorem R_run6 (w : World) (op : Int) (A : Option Addr) (n cap : Nat) (kk nn dd : Nat → Int) (ss : Nat → ByteArray) (hop : opn op = n) (hn : n ≠ 0) (hn5 : n ≤ 5) (hv : Vals w A n kk nn dd ss) (ho : op = 6) (hn1 : n = 1) (hall : AllOk n kk nn dd ss) (hK : KindsIs w op A n cap true) (rk rn rd : Int) (rs : ByteArray) (hS : SpecIs w op A n cap rk rn rd rs false) (hno : ∀ k, k < n → kk k ≠ 0) (hz : (okB (kk 0) (nn 0) (dd 0) (ss 0) && kk 0 == 2) = true) : DoIs w op A n cap (valK (((qV (nn 0) (dd 0)).floor : Int) : Rat)) (valN (((qV (nn 0) (dd 0)).floor : Int) : Rat)) (valD (((qV (nn 0) (dd 0)).floor : Int) : Rat)) noS 0 := by
  have HO : Hid (∀ W, Calls Tryz.prog 27 #[.int .i64 op] W fun e w' => e = .returned (.int .i64 (n : Int)) ∧ Below W.heap.size W w') := fun W => by rw [← hop]; exact r_operands op W
  have HV := Lib.hid (fun W (hW : Below w.heap.size w W) => hv.below hW)
  have HC : Hid (∀ k, k < n → ∀ W, Calls Tryz.prog 28 #[V (kk k) (nn k) (dd k) (ss k)] W fun e w' => e = .returned (.int .i64 0) ∧ Below W.heap.size W w') := fun k hk W => by
    have h9 := r_Check (kk k) (nn k) (dd k) (ss k) W (hall k hk).2
    rw [(hall k hk).1] at h9
    exact h9
  have HK := Lib.hid hK
  have HS := Lib.hid hS
  have HN := Lib.hid hno
  have HZ0 : Hid ((ss 0).size ≤ 9223372036854775807) := (hall 0 (by omega)).2
  have HG0 := Lib.hid hz
  clear hz
  have HO1 := Lib.hid ho
  have HN1 := Lib.hid hn1
  clear ho hn1
  clear hall hK hS hno
  obtain ⟨W0, hW0, hB0, hz0, KR⟩ := valz_box w
  have HB0 := Lib.hid hB0
  have e1 : ((n : Int) == 0) = false := by rw [beq_eq_false_iff_ne]; omega
  have i5 : (n : Int) ≤ 5 := by omega
  clear hB0 hop hv
  unfold DoIs
  go_enter Tryz.func6, Tryz.ntmps6
  go_wp2_with fail
  refine (HO.out _).mono ?_
  rintro e w1 ⟨rfl, hb1⟩
  have B1 := Lib.hid hb1
  clear hb1
  go_wp2_with fail
  refine (HO.out _).mono ?_
  rintro e w2 ⟨rfl, hb2⟩
  have B2 := Lib.hid (btr B1.out hb2)
  clear hb2 HO
  go_wp2
  go_loopw [6] (fun i wr => ∃ k : Nat, k ≤ n ∧ i = .int .i64 k ∧ Hid (Below W0.heap.size W0 wr)) (fun i _ => n - (intOf i).toNat)
  case atStart => exact ⟨0, Nat.zero_le _, rfl, B2.out⟩
  case round =>
    obtain ⟨k, hk, rfl, HB⟩ := hrel
    by_cases hlt : k < n
    · have hkn : k < n := by omega
      obtain ⟨b, o, rfl, hlb, hc⟩ := HV.out wr (btr HB0.out HB.out) (by omega)
      obtain ⟨c0, c1, c2, c3⟩ := hc k hkn
      have hC := HC.out k hlt
      clear hc
      generalize kk k = k0 at *
      generalize nn k = n0 at *
      generalize dd k = d0 at *
      generalize ss k = s0 at *
      go_wp2_with fail
      refine (hC wr).mono ?_
      rintro e w3 ⟨rfl, hb3⟩
      have HB3 : Hid (Below W0.heap.size W0 w3) := btr HB.out hb3
      clear hb3 c0 c1 c2 c3
      go_wp2
      exact ⟨⟨k + 1, by omega, by go_num, HB3⟩, by simp [intOf]; omega⟩
    · obtain rfl : n = k := by omega
      clear HC
      go_wp2_with fail
      refine (HK.out wr (btr HB0.out HB.out)).mono ?_
      rintro e w3 ⟨rfl, hb3⟩
      have B3 := Lib.hid (btr HB.out hb3)
      clear hb3
      go_wp2_with fail
      refine (HS.out w3 (btr HB0.out B3.out)).mono ?_
      rintro e w4 ⟨rfl, hb4⟩
      obtain ⟨w5, hw5, hb5, KV⟩ := kinds_of rk rn rd rs w4
      have B5 := Lib.hid (btr B3.out (btr hb4 hb5))
      clear hb4 hb5
      go_wp2
      go_loopw [9] (fun i wr => ∃ k : Nat, k ≤ n ∧ i = .int .i64 k ∧ Hid (Below W0.heap.size W0 wr)) (fun i _ => n - (intOf i).toNat)
      case atStart => exact ⟨0, Nat.zero_le _, rfl, B5.out⟩
      case round =>
        obtain ⟨i, hi, rfl, HB⟩ := hrel
        by_cases hlt : i < n
        · obtain ⟨b, o, rfl, hlb, hc⟩ := HV.out wr (btr HB0.out HB.out) (by omega)
          obtain ⟨c0, c1, c2, c3⟩ := hc i hlt
          clear hc
          have hk0 : (kk i == 0) = false := by rw [beq_eq_false_iff_ne]; exact HN.out i hlt
          generalize kk i = k0 at *
          go_wp2
          exact ⟨⟨i + 1, by omega, by go_num, HB⟩, by simp [intOf]; omega⟩
        · obtain rfl : n = i := by omega
          have ho := HO1.out
          subst ho
          have hn0 : (0 : Int) < n := by have := HN1.out; omega
          have hn02 : (n : Int) ≤ 5 := by have := HN1.out; omega
          obtain ⟨b, o, rfl, hlb, hc⟩ := HV.out wr (btr HB0.out HB.out) (by omega)
          have h0 : ValIn wr b o (kk 0) (nn 0) (dd 0) (ss 0) := hc 0 (by omega)
          obtain ⟨c0, c1, c2, c3⟩ := h0
          have HNu := Lib.hid (fun W => r_Number (kk 0) (nn 0) (dd 0) (ss 0) W HZ0.out)
          have HC0 : Hid (∀ W, Below wr.heap.size wr W → ValIn W b o (kk 0) (nn 0) (dd 0) (ss 0)) := fun W hW => (hc 0 (by omega)).below hW hlb
          go_wp2_with fail
          refine (HNu.out wr).mono ?_
          rintro e w6 ⟨r, rfl, ⟨sb, A5, m5, c5, A6, m6, c6, rfl⟩, hr, hb6⟩
          obtain ⟨w7, hw7, hb7, hz7, KX⟩ := ref_box w6 sb (.slice A5 m5 c5) (.slice A6 m6 c6)
          have HR := Lib.hid hr
          have B67 := Lib.hid hb7
          have B7 := Lib.hid (btr HB.out (btr hb6 hb7))
          have Bw := Lib.hid (btr hb6 hb7)
          clear hb6 hb7 hr c0 c1 c2 c3
          have hq : RefV w6 (.agg #[.bool sb, .slice A5 m5 c5, .slice A6 m6 c6]) (qV (nn 0) (dd 0)) := HR.out HG0.out
          have HQ := Lib.hid (hq.below B67.out)
          clear hq
          have hl0 := low_of HG0.out
          obtain ⟨f1, f2, f3⟩ := floor_parts (qV (nn 0) (dd 0))
          have hw9 := low_w9 hl0
          have HOp : Hid (∀ W r, RefV W r (qV (nn 0) (dd 0)) → Calls Tryz.prog 35 #[r] W fun e w' => ∃ u, e = .returned u ∧ RefV w' u (((qV (nn 0) (dd 0)).floor : Int) : Rat) ∧ Below W.heap.size W w') := fun W r h => by
            refine (r_Floor W r _ _ _ h (Nat.le_trans hw9.1 (by omega)) (Nat.le_trans hw9.2 (by omega)) (qV (nn 0) (dd 0)).den_pos).mono ?_
            rintro e w' ⟨u, rfl, hu, hb⟩
            refine ⟨u, rfl, ?_, hb⟩
            unfold RefV
            rw [f1, f2] at hu
            rw [← f3]
            exact hu
          have HVv := Lib.hid (fun W r (h : RefV W r (((qV (nn 0) (dd 0)).floor : Int) : Rat)) => r_Value W r _ h)
          clear hl0 f1 f2 f3 hw9
          obtain ⟨x0, x1, x2⟩ := KX.out w7 (Below.refl _ _)
          go_wp2_with fail
          refine (HOp.out _ _ HQ.out).mono ?_
          rintro e w8 ⟨r2, rfl, hr2, hb8⟩
          have B8 := Lib.hid (btr B7.out hb8)
          have HR2 := Lib.hid hr2
          clear hb8 hr2 x0 x1 x2
          go_wp2_with fail
          refine (HVv.out _ _ HR2.out).mono ?_
          rintro e w9 ⟨rfl, hb9⟩
          have B9 := Lib.hid (btr B8.out hb9)
          clear hb9
          have hcell := KR.out w9 B9.out
          have hBf := btr HB0.out B9.out
          go_wp2_with (refine wpList_store_row 25 _ _ rfl rfl rfl w.heap.size 25 rfl [.int .i64 (valK ((((qV (nn 0) (dd 0)).floor : Int) : Rat))), .int .i64 (valN ((((qV (nn 0) (dd 0)).floor : Int) : Rat))), .int .i64 (valD ((((qV (nn 0) (dd 0)).floor : Int) : Rat))), .string noS] rfl _ hcell rfl info_val (val_one _ _ _ _) ?_; intro wz hhz hgz hzz; have HBz : Hid (Below w.heap.size w wz) := hBf.grown hgz hBf.size (fun j hj => by injection hj with hj; omega); clear hzz hgz hcell)
          exact bodyPost_ret (v := .tuple #[V (valK ((((qV (nn 0) (dd 0)).floor : Int) : Rat))) (valN ((((qV (nn 0) (dd 0)).floor : Int) : Rat))) (valD ((((qV (nn 0) (dd 0)).floor : Int) : Rat))) noS, .int .i64 0]) (results_cell_tmp Tryz.results6 _ _ w.heap.size 25 _ (0, 0) _ rfl hhz Tryz.underlying25 rfl (by rw [info_val]; rfl)) rfl ⟨rfl, HBz.out⟩
set_option maxRecDepth 100000 in
set_option maxHeartbeats 1000000 in
theorem R_run4f (w : World) (op : Int) (A : Option Addr) (n cap : Nat) (kk nn dd : Nat → Int) (ss : Nat → ByteArray) (hop : opn op = n) (hn : n ≠ 0) (hn5 : n ≤ 5) (hv : Vals w A n kk nn dd ss) (ho : op = 4) (hn1 : n = 1) (hall : AllOk n kk nn dd ss) (hK : KindsIs w op A n cap true) (rk rn rd : Int) (rs : ByteArray) (hS : SpecIs w op A n cap rk rn rd rs false) (hno : ∀ k, k < n → kk k ≠ 0) (hz : kk 0 = 1 ∧ nn 0 = 0 ∧ dd 0 = 0 ∧ ss 0 = noS) : DoIs w op A n cap 1 (bit true) 0 noS 0 := by
  have HO : Hid (∀ W, Calls Tryz.prog 27 #[.int .i64 op] W fun e w' => e = .returned (.int .i64 (n : Int)) ∧ Below W.heap.size W w') := fun W => by rw [← hop]; exact r_operands op W
  have HV := Lib.hid (fun W (hW : Below w.heap.size w W) => hv.below hW)
  have HC : Hid (∀ k, k < n → ∀ W, Calls Tryz.prog 28 #[V (kk k) (nn k) (dd k) (ss k)] W fun e w' => e = .returned (.int .i64 0) ∧ Below W.heap.size W w') := fun k hk W => by
    have h9 := r_Check (kk k) (nn k) (dd k) (ss k) W (hall k hk).2
    rw [(hall k hk).1] at h9
    exact h9
  have HK := Lib.hid hK
  have HS := Lib.hid hS
  have HN := Lib.hid hno
  have HZ0 : Hid ((ss 0).size ≤ 9223372036854775807) := (hall 0 (by omega)).2
  have HG0 := Lib.hid hz
  clear hz
  have HO1 := Lib.hid ho
  have HN1 := Lib.hid hn1
  clear ho hn1
  clear hall hK hS hno
  obtain ⟨W0, hW0, hB0, hz0, KR⟩ := valz_box w
  have HB0 := Lib.hid hB0
  have e1 : ((n : Int) == 0) = false := by rw [beq_eq_false_iff_ne]; omega
  have i5 : (n : Int) ≤ 5 := by omega
  clear hB0 hop hv
  unfold DoIs
  go_enter Tryz.func6, Tryz.ntmps6
  go_wp2_with fail
  refine (HO.out _).mono ?_
  rintro e w1 ⟨rfl, hb1⟩
  have B1 := Lib.hid hb1
  clear hb1
  go_wp2_with fail
  refine (HO.out _).mono ?_
  rintro e w2 ⟨rfl, hb2⟩
  have B2 := Lib.hid (btr B1.out hb2)
  clear hb2 HO
  go_wp2
  go_loopw [6] (fun i wr => ∃ k : Nat, k ≤ n ∧ i = .int .i64 k ∧ Hid (Below W0.heap.size W0 wr)) (fun i _ => n - (intOf i).toNat)
  case atStart => exact ⟨0, Nat.zero_le _, rfl, B2.out⟩
  case round =>
    obtain ⟨k, hk, rfl, HB⟩ := hrel
    by_cases hlt : k < n
    · have hkn : k < n := by omega
      obtain ⟨b, o, rfl, hlb, hc⟩ := HV.out wr (btr HB0.out HB.out) (by omega)
      obtain ⟨c0, c1, c2, c3⟩ := hc k hkn
      have hC := HC.out k hlt
      clear hc
      generalize kk k = k0 at *
      generalize nn k = n0 at *
      generalize dd k = d0 at *
      generalize ss k = s0 at *
      go_wp2_with fail
      refine (hC wr).mono ?_
      rintro e w3 ⟨rfl, hb3⟩
      have HB3 : Hid (Below W0.heap.size W0 w3) := btr HB.out hb3
      clear hb3 c0 c1 c2 c3
      go_wp2
      exact ⟨⟨k + 1, by omega, by go_num, HB3⟩, by simp [intOf]; omega⟩
    · obtain rfl : n = k := by omega
      clear HC
      go_wp2_with fail
      refine (HK.out wr (btr HB0.out HB.out)).mono ?_
      rintro e w3 ⟨rfl, hb3⟩
      have B3 := Lib.hid (btr HB.out hb3)
      clear hb3
      go_wp2_with fail
      refine (HS.out w3 (btr HB0.out B3.out)).mono ?_
      rintro e w4 ⟨rfl, hb4⟩
      obtain ⟨w5, hw5, hb5, KV⟩ := kinds_of rk rn rd rs w4
      have B5 := Lib.hid (btr B3.out (btr hb4 hb5))
      clear hb4 hb5
      go_wp2
      go_loopw [9] (fun i wr => ∃ k : Nat, k ≤ n ∧ i = .int .i64 k ∧ Hid (Below W0.heap.size W0 wr)) (fun i _ => n - (intOf i).toNat)
      case atStart => exact ⟨0, Nat.zero_le _, rfl, B5.out⟩
      case round =>
        obtain ⟨i, hi, rfl, HB⟩ := hrel
        by_cases hlt : i < n
        · obtain ⟨b, o, rfl, hlb, hc⟩ := HV.out wr (btr HB0.out HB.out) (by omega)
          obtain ⟨c0, c1, c2, c3⟩ := hc i hlt
          clear hc
          have hk0 : (kk i == 0) = false := by rw [beq_eq_false_iff_ne]; exact HN.out i hlt
          generalize kk i = k0 at *
          go_wp2
          exact ⟨⟨i + 1, by omega, by go_num, HB⟩, by simp [intOf]; omega⟩
        · obtain rfl : n = i := by omega
          have ho := HO1.out
          subst ho
          have hn0 : (0 : Int) < n := by have := HN1.out; omega
          have hnN : 0 < n := by have := HN1.out; omega
          have hn02 : (n : Int) ≤ 5 := by have := HN1.out; omega
          obtain ⟨b, o, rfl, hlb, hc⟩ := HV.out wr (btr HB0.out HB.out) (by omega)
          have h0 : ValIn wr b o (kk 0) (nn 0) (dd 0) (ss 0) := hc 0 (by omega)
          obtain ⟨c0, c1, c2, c3⟩ := h0
          have HNu := Lib.hid (fun W => r_Number (kk 0) (nn 0) (dd 0) (ss 0) W HZ0.out)
          have HC0 : Hid (∀ W, Below wr.heap.size wr W → ValIn W b o (kk 0) (nn 0) (dd 0) (ss 0)) := fun W hW => (hc 0 (by omega)).below hW hlb
          go_wp2_with fail
          refine (HNu.out wr).mono ?_
          rintro e w6 ⟨r, rfl, ⟨sb, A5, m5, c5, A6, m6, c6, rfl⟩, hr, hb6⟩
          obtain ⟨w7, hw7, hb7, hz7, KX⟩ := ref_box w6 sb (.slice A5 m5 c5) (.slice A6 m6 c6)
          have HR := Lib.hid hr
          have B67 := Lib.hid hb7
          have B7 := Lib.hid (btr HB.out (btr hb6 hb7))
          have Bw := Lib.hid (btr hb6 hb7)
          clear hb6 hb7 hr c0 c1 c2 c3
          obtain ⟨b', o', e', hlb', hc'⟩ := HV.out w (Below.refl _ _) (by omega)
          obtain ⟨rfl, rfl⟩ : b = b' ∧ o = o' := by simpa using e'
          have HCw : Hid (∀ W, Below w.heap.size w W → W.cell? ⟨b, o, none⟩ = some (.int .i64 1) ∧ W.cell? ⟨b, o + 1, none⟩ = some (.int .i64 0) ∧ W.cell? ⟨b, o + 2, none⟩ = some (.int .i64 0) ∧ W.cell? ⟨b, o + 3, none⟩ = some (.string noS)) := fun W hW => by
            have h9 := (hc' 0 (by omega)).below hW hlb'
            rw [HG0.out.1, HG0.out.2.1, HG0.out.2.2.1, HG0.out.2.2.2] at h9
            exact h9
          have HM : Hid (∀ W, Below w7.heap.size w7 W → Below w.heap.size w W) := fun W hW => btr HB0.out (btr B7.out hW)
          have HT := Lib.hid (fun t W => r_TruthB t W)
          have HKR : Hid (∀ W, Below w7.heap.size w7 W → W.heap[w.heap.size]? = some (.cells #[.int .i64 0, .int .i64 0, .int .i64 0, .string ⟨#[]⟩] 25 (0, 0))) := fun W hW => KR.out W (btr B7.out hW)
          clear hc hc'
          go_wp2_with fail
          have B7d : Below w7.heap.size w7 w7.drew := Below.drew (Below.refl _ _)
          go_region_held3 (fun W => W.cell? ⟨b, o, none⟩ = some (.int .i64 1) ∧ W.cell? ⟨b, o + 1, none⟩ = some (.int .i64 0) ∧ W.cell? ⟨b, o + 2, none⟩ = some (.int .i64 0) ∧ W.cell? ⟨b, o + 3, none⟩ = some (.string noS))
            (first | exact HCw.out _ (below4 (HM.out _ C2) _ (Nat.le_refl _) _ _ _ _) | exact HCw.out _ (HM.out _ C2) | exact HCw.out _ (HM.out _ C1) | exact HCw.out _ (HM.out _ B7d) | exact HCw.out _ (HM.out _ (Below.refl _ _)))
            (first
              | (go_at_call 32; refine (HT.out _ _).mono ?_; rintro e w9 ⟨rfl, hb9⟩; have C2 : Below w7.heap.size w7 w9 := btr C1 hb9; obtain ⟨r0, r1, r2, r3, f0, f1, f2, f3⟩ := res_at (HKR.out _ C2))
              | (go_at_call 32; refine (HT.out _ _).mono ?_; rintro e w8 ⟨rfl, hb8⟩; rw [show bit false = 0 from rfl]; have C1 : Below w7.heap.size w7 w8 := btr B7d hb8))
          all_goals
            have hrow := HKR.out _ C2
            have HL := Lib.hid (HM.out _ C2)
            clear r0 r1 r2 r3 f0 f1 f2 f3
            go_wp2
            refine bodyPost_ret (v := .tuple #[V 1 (bit true) 0 noS, .int .i64 0]) (results_cell_tmp Tryz.results6 _ _ w.heap.size 25 _ (0, 0) _ rfl (put4 hrow _ _ _ _) Tryz.underlying25 rfl (by rw [info_v4]; rfl)) rfl ⟨rfl, below4 HL.out _ (Nat.le_refl _) _ _ _ _⟩
set_option maxRecDepth 100000 in
set_option maxHeartbeats 1000000 in
theorem R_run4t (w : World) (op : Int) (A : Option Addr) (n cap : Nat) (kk nn dd : Nat → Int) (ss : Nat → ByteArray) (hop : opn op = n) (hn : n ≠ 0) (hn5 : n ≤ 5) (hv : Vals w A n kk nn dd ss) (ho : op = 4) (hn1 : n = 1) (hall : AllOk n kk nn dd ss) (hK : KindsIs w op A n cap true) (rk rn rd : Int) (rs : ByteArray) (hS : SpecIs w op A n cap rk rn rd rs false) (hno : ∀ k, k < n → kk k ≠ 0) (hz : kk 0 = 1 ∧ nn 0 = 1 ∧ dd 0 = 0 ∧ ss 0 = noS) : DoIs w op A n cap 1 (bit false) 0 noS 0 := by
  have HO : Hid (∀ W, Calls Tryz.prog 27 #[.int .i64 op] W fun e w' => e = .returned (.int .i64 (n : Int)) ∧ Below W.heap.size W w') := fun W => by rw [← hop]; exact r_operands op W
  have HV := Lib.hid (fun W (hW : Below w.heap.size w W) => hv.below hW)
  have HC : Hid (∀ k, k < n → ∀ W, Calls Tryz.prog 28 #[V (kk k) (nn k) (dd k) (ss k)] W fun e w' => e = .returned (.int .i64 0) ∧ Below W.heap.size W w') := fun k hk W => by
    have h9 := r_Check (kk k) (nn k) (dd k) (ss k) W (hall k hk).2
    rw [(hall k hk).1] at h9
    exact h9
  have HK := Lib.hid hK
  have HS := Lib.hid hS
  have HN := Lib.hid hno
  have HZ0 : Hid ((ss 0).size ≤ 9223372036854775807) := (hall 0 (by omega)).2
  have HG0 := Lib.hid hz
  clear hz
  have HO1 := Lib.hid ho
  have HN1 := Lib.hid hn1
  clear ho hn1
  clear hall hK hS hno
  obtain ⟨W0, hW0, hB0, hz0, KR⟩ := valz_box w
  have HB0 := Lib.hid hB0
  have e1 : ((n : Int) == 0) = false := by rw [beq_eq_false_iff_ne]; omega
  have i5 : (n : Int) ≤ 5 := by omega
  clear hB0 hop hv
  unfold DoIs
  go_enter Tryz.func6, Tryz.ntmps6
  go_wp2_with fail
  refine (HO.out _).mono ?_
  rintro e w1 ⟨rfl, hb1⟩
  have B1 := Lib.hid hb1
  clear hb1
  go_wp2_with fail
  refine (HO.out _).mono ?_
  rintro e w2 ⟨rfl, hb2⟩
  have B2 := Lib.hid (btr B1.out hb2)
  clear hb2 HO
  go_wp2
  go_loopw [6] (fun i wr => ∃ k : Nat, k ≤ n ∧ i = .int .i64 k ∧ Hid (Below W0.heap.size W0 wr)) (fun i _ => n - (intOf i).toNat)
  case atStart => exact ⟨0, Nat.zero_le _, rfl, B2.out⟩
  case round =>
    obtain ⟨k, hk, rfl, HB⟩ := hrel
    by_cases hlt : k < n
    · have hkn : k < n := by omega
      obtain ⟨b, o, rfl, hlb, hc⟩ := HV.out wr (btr HB0.out HB.out) (by omega)
      obtain ⟨c0, c1, c2, c3⟩ := hc k hkn
      have hC := HC.out k hlt
      clear hc
      generalize kk k = k0 at *
      generalize nn k = n0 at *
      generalize dd k = d0 at *
      generalize ss k = s0 at *
      go_wp2_with fail
      refine (hC wr).mono ?_
      rintro e w3 ⟨rfl, hb3⟩
      have HB3 : Hid (Below W0.heap.size W0 w3) := btr HB.out hb3
      clear hb3 c0 c1 c2 c3
      go_wp2
      exact ⟨⟨k + 1, by omega, by go_num, HB3⟩, by simp [intOf]; omega⟩
    · obtain rfl : n = k := by omega
      clear HC
      go_wp2_with fail
      refine (HK.out wr (btr HB0.out HB.out)).mono ?_
      rintro e w3 ⟨rfl, hb3⟩
      have B3 := Lib.hid (btr HB.out hb3)
      clear hb3
      go_wp2_with fail
      refine (HS.out w3 (btr HB0.out B3.out)).mono ?_
      rintro e w4 ⟨rfl, hb4⟩
      obtain ⟨w5, hw5, hb5, KV⟩ := kinds_of rk rn rd rs w4
      have B5 := Lib.hid (btr B3.out (btr hb4 hb5))
      clear hb4 hb5
      go_wp2
      go_loopw [9] (fun i wr => ∃ k : Nat, k ≤ n ∧ i = .int .i64 k ∧ Hid (Below W0.heap.size W0 wr)) (fun i _ => n - (intOf i).toNat)
      case atStart => exact ⟨0, Nat.zero_le _, rfl, B5.out⟩
      case round =>
        obtain ⟨i, hi, rfl, HB⟩ := hrel
        by_cases hlt : i < n
        · obtain ⟨b, o, rfl, hlb, hc⟩ := HV.out wr (btr HB0.out HB.out) (by omega)
          obtain ⟨c0, c1, c2, c3⟩ := hc i hlt
          clear hc
          have hk0 : (kk i == 0) = false := by rw [beq_eq_false_iff_ne]; exact HN.out i hlt
          generalize kk i = k0 at *
          go_wp2
          exact ⟨⟨i + 1, by omega, by go_num, HB⟩, by simp [intOf]; omega⟩
        · obtain rfl : n = i := by omega
          have ho := HO1.out
          subst ho
          have hn0 : (0 : Int) < n := by have := HN1.out; omega
          have hnN : 0 < n := by have := HN1.out; omega
          have hn02 : (n : Int) ≤ 5 := by have := HN1.out; omega
          obtain ⟨b, o, rfl, hlb, hc⟩ := HV.out wr (btr HB0.out HB.out) (by omega)
          have h0 : ValIn wr b o (kk 0) (nn 0) (dd 0) (ss 0) := hc 0 (by omega)
          obtain ⟨c0, c1, c2, c3⟩ := h0
          have HNu := Lib.hid (fun W => r_Number (kk 0) (nn 0) (dd 0) (ss 0) W HZ0.out)
          have HC0 : Hid (∀ W, Below wr.heap.size wr W → ValIn W b o (kk 0) (nn 0) (dd 0) (ss 0)) := fun W hW => (hc 0 (by omega)).below hW hlb
          go_wp2_with fail
          refine (HNu.out wr).mono ?_
          rintro e w6 ⟨r, rfl, ⟨sb, A5, m5, c5, A6, m6, c6, rfl⟩, hr, hb6⟩
          obtain ⟨w7, hw7, hb7, hz7, KX⟩ := ref_box w6 sb (.slice A5 m5 c5) (.slice A6 m6 c6)
          have HR := Lib.hid hr
          have B67 := Lib.hid hb7
          have B7 := Lib.hid (btr HB.out (btr hb6 hb7))
          have Bw := Lib.hid (btr hb6 hb7)
          clear hb6 hb7 hr c0 c1 c2 c3
          obtain ⟨b', o', e', hlb', hc'⟩ := HV.out w (Below.refl _ _) (by omega)
          obtain ⟨rfl, rfl⟩ : b = b' ∧ o = o' := by simpa using e'
          have HCw : Hid (∀ W, Below w.heap.size w W → W.cell? ⟨b, o, none⟩ = some (.int .i64 1) ∧ W.cell? ⟨b, o + 1, none⟩ = some (.int .i64 1) ∧ W.cell? ⟨b, o + 2, none⟩ = some (.int .i64 0) ∧ W.cell? ⟨b, o + 3, none⟩ = some (.string noS)) := fun W hW => by
            have h9 := (hc' 0 (by omega)).below hW hlb'
            rw [HG0.out.1, HG0.out.2.1, HG0.out.2.2.1, HG0.out.2.2.2] at h9
            exact h9
          have HM : Hid (∀ W, Below w7.heap.size w7 W → Below w.heap.size w W) := fun W hW => btr HB0.out (btr B7.out hW)
          have HT := Lib.hid (fun t W => r_TruthB t W)
          have HKR : Hid (∀ W, Below w7.heap.size w7 W → W.heap[w.heap.size]? = some (.cells #[.int .i64 0, .int .i64 0, .int .i64 0, .string ⟨#[]⟩] 25 (0, 0))) := fun W hW => KR.out W (btr B7.out hW)
          clear hc hc'
          go_wp2_with fail
          have B7d : Below w7.heap.size w7 w7.drew := Below.drew (Below.refl _ _)
          go_region_held3 (fun W => W.cell? ⟨b, o, none⟩ = some (.int .i64 1) ∧ W.cell? ⟨b, o + 1, none⟩ = some (.int .i64 1) ∧ W.cell? ⟨b, o + 2, none⟩ = some (.int .i64 0) ∧ W.cell? ⟨b, o + 3, none⟩ = some (.string noS))
            (first | exact HCw.out _ (below4 (HM.out _ C2) _ (Nat.le_refl _) _ _ _ _) | exact HCw.out _ (HM.out _ C2) | exact HCw.out _ (HM.out _ C1) | exact HCw.out _ (HM.out _ B7d) | exact HCw.out _ (HM.out _ (Below.refl _ _)))
            (first
              | (go_at_call 32; refine (HT.out _ _).mono ?_; rintro e w9 ⟨rfl, hb9⟩; have C2 : Below w7.heap.size w7 w9 := btr C1 hb9; obtain ⟨r0, r1, r2, r3, f0, f1, f2, f3⟩ := res_at (HKR.out _ C2))
              | (go_at_call 32; refine (HT.out _ _).mono ?_; rintro e w8 ⟨rfl, hb8⟩; rw [show bit false = 0 from rfl]; have C1 : Below w7.heap.size w7 w8 := btr B7d hb8))
          all_goals
            have hrow := HKR.out _ C2
            have HL := Lib.hid (HM.out _ C2)
            clear r0 r1 r2 r3 f0 f1 f2 f3
            go_wp2
            refine bodyPost_ret (v := .tuple #[V 1 (bit false) 0 noS, .int .i64 0]) (results_cell_tmp Tryz.results6 _ _ w.heap.size 25 _ (0, 0) _ rfl (put4 hrow _ _ _ _) Tryz.underlying25 rfl (by rw [info_v4]; rfl)) rfl ⟨rfl, below4 HL.out _ (Nat.le_refl _) _ _ _ _⟩
end Go.Proofs.YtnfncdalneifnaaGreatDoor
end

/- The reference's Do: further operations' own results. -/
section
namespace Go.Proofs.YtnfncdalneifnaaGreatDoor
open Go Go.RowKit Go.Deep

set_option maxRecDepth 100000 in
set_option maxHeartbeats 1000000 in
theorem R_run9 (w : World) (op : Int) (A : Option Addr) (n cap : Nat) (kk nn dd : Nat → Int) (ss : Nat → ByteArray) (hop : opn op = n) (hn : n ≠ 0) (hn5 : n ≤ 5) (hv : Vals w A n kk nn dd ss) (ho : op = 9) (hn1 : n = 2) (hall : AllOk n kk nn dd ss) (hK : KindsIs w op A n cap true) (rk rn rd : Int) (rs : ByteArray) (hS : SpecIs w op A n cap rk rn rd rs false) (hno : ∀ k, k < n → kk k ≠ 0) (hz : (okB (kk 0) (nn 0) (dd 0) (ss 0) && kk 0 == 2) = true) (hz1 : (okB (kk 1) (nn 1) (dd 1) (ss 1) && kk 1 == 2) = true) : DoIs w op A n cap (valK (qV (nn 0) (dd 0) + qV (nn 1) (dd 1))) (valN (qV (nn 0) (dd 0) + qV (nn 1) (dd 1))) (valD (qV (nn 0) (dd 0) + qV (nn 1) (dd 1))) noS 0 := by
  have HO : Hid (∀ W, Calls Tryz.prog 27 #[.int .i64 op] W fun e w' => e = .returned (.int .i64 (n : Int)) ∧ Below W.heap.size W w') := fun W => by rw [← hop]; exact r_operands op W
  have HV := Lib.hid (fun W (hW : Below w.heap.size w W) => hv.below hW)
  have HC : Hid (∀ k, k < n → ∀ W, Calls Tryz.prog 28 #[V (kk k) (nn k) (dd k) (ss k)] W fun e w' => e = .returned (.int .i64 0) ∧ Below W.heap.size W w') := fun k hk W => by
    have h9 := r_Check (kk k) (nn k) (dd k) (ss k) W (hall k hk).2
    rw [(hall k hk).1] at h9
    exact h9
  have HK := Lib.hid hK
  have HS := Lib.hid hS
  have HN := Lib.hid hno
  have HZ0 : Hid ((ss 0).size ≤ 9223372036854775807) := (hall 0 (by omega)).2
  have HZ1 : Hid ((ss 1).size ≤ 9223372036854775807) := (hall 1 (by omega)).2
  have HG0 := Lib.hid hz
  have HG1 := Lib.hid hz1
  clear hz hz1
  have HO1 := Lib.hid ho
  have HN1 := Lib.hid hn1
  clear ho hn1
  clear hall hK hS hno
  obtain ⟨W0, hW0, hB0, hz0, KR⟩ := valz_box w
  have HB0 := Lib.hid hB0
  have e1 : ((n : Int) == 0) = false := by rw [beq_eq_false_iff_ne]; omega
  have i5 : (n : Int) ≤ 5 := by omega
  clear hB0 hop hv
  unfold DoIs
  go_enter Tryz.func6, Tryz.ntmps6
  go_wp2_with fail
  refine (HO.out _).mono ?_
  rintro e w1 ⟨rfl, hb1⟩
  have B1 := Lib.hid hb1
  clear hb1
  go_wp2_with fail
  refine (HO.out _).mono ?_
  rintro e w2 ⟨rfl, hb2⟩
  have B2 := Lib.hid (btr B1.out hb2)
  clear hb2 HO
  go_wp2
  go_loopw [6] (fun i wr => ∃ k : Nat, k ≤ n ∧ i = .int .i64 k ∧ Hid (Below W0.heap.size W0 wr)) (fun i _ => n - (intOf i).toNat)
  case atStart => exact ⟨0, Nat.zero_le _, rfl, B2.out⟩
  case round =>
    obtain ⟨k, hk, rfl, HB⟩ := hrel
    by_cases hlt : k < n
    · have hkn : k < n := by omega
      obtain ⟨b, o, rfl, hlb, hc⟩ := HV.out wr (btr HB0.out HB.out) (by omega)
      obtain ⟨c0, c1, c2, c3⟩ := hc k hkn
      have hC := HC.out k hlt
      clear hc
      generalize kk k = k0 at *
      generalize nn k = n0 at *
      generalize dd k = d0 at *
      generalize ss k = s0 at *
      go_wp2_with fail
      refine (hC wr).mono ?_
      rintro e w3 ⟨rfl, hb3⟩
      have HB3 : Hid (Below W0.heap.size W0 w3) := btr HB.out hb3
      clear hb3 c0 c1 c2 c3
      go_wp2
      exact ⟨⟨k + 1, by omega, by go_num, HB3⟩, by simp [intOf]; omega⟩
    · obtain rfl : n = k := by omega
      clear HC
      go_wp2_with fail
      refine (HK.out wr (btr HB0.out HB.out)).mono ?_
      rintro e w3 ⟨rfl, hb3⟩
      have B3 := Lib.hid (btr HB.out hb3)
      clear hb3
      go_wp2_with fail
      refine (HS.out w3 (btr HB0.out B3.out)).mono ?_
      rintro e w4 ⟨rfl, hb4⟩
      obtain ⟨w5, hw5, hb5, KV⟩ := kinds_of rk rn rd rs w4
      have B5 := Lib.hid (btr B3.out (btr hb4 hb5))
      clear hb4 hb5
      go_wp2
      go_loopw [9] (fun i wr => ∃ k : Nat, k ≤ n ∧ i = .int .i64 k ∧ Hid (Below W0.heap.size W0 wr)) (fun i _ => n - (intOf i).toNat)
      case atStart => exact ⟨0, Nat.zero_le _, rfl, B5.out⟩
      case round =>
        obtain ⟨i, hi, rfl, HB⟩ := hrel
        by_cases hlt : i < n
        · obtain ⟨b, o, rfl, hlb, hc⟩ := HV.out wr (btr HB0.out HB.out) (by omega)
          obtain ⟨c0, c1, c2, c3⟩ := hc i hlt
          clear hc
          have hk0 : (kk i == 0) = false := by rw [beq_eq_false_iff_ne]; exact HN.out i hlt
          generalize kk i = k0 at *
          go_wp2
          exact ⟨⟨i + 1, by omega, by go_num, HB⟩, by simp [intOf]; omega⟩
        · obtain rfl : n = i := by omega
          have ho := HO1.out
          subst ho
          have hn0 : (0 : Int) < n := by have := HN1.out; omega
          have hn02 : (n : Int) ≤ 5 := by have := HN1.out; omega
          obtain ⟨b, o, rfl, hlb, hc⟩ := HV.out wr (btr HB0.out HB.out) (by omega)
          have h0 : ValIn wr b o (kk 0) (nn 0) (dd 0) (ss 0) := hc 0 (by omega)
          obtain ⟨c0, c1, c2, c3⟩ := h0
          have HNu := Lib.hid (fun W => r_Number (kk 0) (nn 0) (dd 0) (ss 0) W HZ0.out)
          have HC0 : Hid (∀ W, Below wr.heap.size wr W → ValIn W b o (kk 0) (nn 0) (dd 0) (ss 0)) := fun W hW => (hc 0 (by omega)).below hW hlb
          go_wp2_with fail
          refine (HNu.out wr).mono ?_
          rintro e w6 ⟨r, rfl, ⟨sb, A5, m5, c5, A6, m6, c6, rfl⟩, hr, hb6⟩
          obtain ⟨w7, hw7, hb7, hz7, KX⟩ := ref_box w6 sb (.slice A5 m5 c5) (.slice A6 m6 c6)
          have HR := Lib.hid hr
          have B67 := Lib.hid hb7
          have B7 := Lib.hid (btr HB.out (btr hb6 hb7))
          have Bw := Lib.hid (btr hb6 hb7)
          clear hb6 hb7 hr c0 c1 c2 c3
          have hq : RefV w6 (.agg #[.bool sb, .slice A5 m5 c5, .slice A6 m6 c6]) (qV (nn 0) (dd 0)) := HR.out HG0.out
          have HQ := Lib.hid (hq.below B67.out)
          clear hq
          have h1 : ValIn wr b (o + 4) (kk 1) (nn 1) (dd 1) (ss 1) := hc 1 (by have := HN1.out; omega)
          obtain ⟨d0, d1, d2, d3⟩ := h1.below Bw.out hlb
          have hn1 : (1 : Int) < n := by have := HN1.out; omega
          have HNv := Lib.hid (fun W => r_Number (kk 1) (nn 1) (dd 1) (ss 1) W HZ1.out)
          go_wp2_with fail
          refine (HNv.out w7).mono ?_
          rintro e w8 ⟨r, rfl, ⟨sc, A7, m7, c7, A8, m8, c8, rfl⟩, hr, hb8⟩
          obtain ⟨w9, hw9, hb9, hz9, KY⟩ := ref_box w8 sc (.slice A7 m7 c7) (.slice A8 m8 c8)
          have B79 := Lib.hid (btr hb8 hb9)
          have B9 := Lib.hid (btr B7.out B79.out)
          have HX9 := Lib.hid (HQ.out.below B79.out)
          have HY9 := Lib.hid ((hr HG1.out).below hb9)
          clear hb8 hb9 hr d0 d1 d2 d3
          have kx := low_w (low_of HG0.out)
          have ky := low_w (low_of HG1.out)
          have HAr := Lib.hid (r_arith9 w9 _ _ _ _ HX9.out HY9.out kx ky)
          clear kx ky
          obtain ⟨x0, x1, x2⟩ := KX.out w9 B79.out
          obtain ⟨y0, y1, y2⟩ := KY.out w9 (Below.refl _ _)
          go_wp2_with fail
          refine HAr.out.mono ?_
          rintro e w10 ⟨rfl, hb10⟩
          have B10 := Lib.hid (btr B9.out hb10)
          clear hb10 x0 x1 x2 y0 y1 y2
          have hcell := KR.out w10 B10.out
          have hBf := btr HB0.out B10.out
          go_wp2_with (refine wpList_store_row 25 _ _ rfl rfl rfl w.heap.size 25 rfl [.int .i64 (valK (qV (nn 0) (dd 0) + qV (nn 1) (dd 1))), .int .i64 (valN (qV (nn 0) (dd 0) + qV (nn 1) (dd 1))), .int .i64 (valD (qV (nn 0) (dd 0) + qV (nn 1) (dd 1))), .string noS] rfl _ hcell rfl info_val (val_one _ _ _ _) ?_; intro wz hhz hgz hzz; have HBz : Hid (Below w.heap.size w wz) := hBf.grown hgz hBf.size (fun j hj => by injection hj with hj; omega); clear hzz hgz hcell)
          exact bodyPost_ret (v := .tuple #[V (valK (qV (nn 0) (dd 0) + qV (nn 1) (dd 1))) (valN (qV (nn 0) (dd 0) + qV (nn 1) (dd 1))) (valD (qV (nn 0) (dd 0) + qV (nn 1) (dd 1))) noS, .int .i64 0]) (results_cell_tmp Tryz.results6 _ _ w.heap.size 25 _ (0, 0) _ rfl hhz Tryz.underlying25 rfl (by rw [info_val]; rfl)) rfl ⟨rfl, HBz.out⟩
set_option maxRecDepth 100000 in
set_option maxHeartbeats 1000000 in
theorem R_run10 (w : World) (op : Int) (A : Option Addr) (n cap : Nat) (kk nn dd : Nat → Int) (ss : Nat → ByteArray) (hop : opn op = n) (hn : n ≠ 0) (hn5 : n ≤ 5) (hv : Vals w A n kk nn dd ss) (ho : op = 10) (hn1 : n = 2) (hall : AllOk n kk nn dd ss) (hK : KindsIs w op A n cap true) (rk rn rd : Int) (rs : ByteArray) (hS : SpecIs w op A n cap rk rn rd rs false) (hno : ∀ k, k < n → kk k ≠ 0) (hz : (okB (kk 0) (nn 0) (dd 0) (ss 0) && kk 0 == 2) = true) (hz1 : (okB (kk 1) (nn 1) (dd 1) (ss 1) && kk 1 == 2) = true) : DoIs w op A n cap (valK (qV (nn 0) (dd 0) - qV (nn 1) (dd 1))) (valN (qV (nn 0) (dd 0) - qV (nn 1) (dd 1))) (valD (qV (nn 0) (dd 0) - qV (nn 1) (dd 1))) noS 0 := by
  have HO : Hid (∀ W, Calls Tryz.prog 27 #[.int .i64 op] W fun e w' => e = .returned (.int .i64 (n : Int)) ∧ Below W.heap.size W w') := fun W => by rw [← hop]; exact r_operands op W
  have HV := Lib.hid (fun W (hW : Below w.heap.size w W) => hv.below hW)
  have HC : Hid (∀ k, k < n → ∀ W, Calls Tryz.prog 28 #[V (kk k) (nn k) (dd k) (ss k)] W fun e w' => e = .returned (.int .i64 0) ∧ Below W.heap.size W w') := fun k hk W => by
    have h9 := r_Check (kk k) (nn k) (dd k) (ss k) W (hall k hk).2
    rw [(hall k hk).1] at h9
    exact h9
  have HK := Lib.hid hK
  have HS := Lib.hid hS
  have HN := Lib.hid hno
  have HZ0 : Hid ((ss 0).size ≤ 9223372036854775807) := (hall 0 (by omega)).2
  have HZ1 : Hid ((ss 1).size ≤ 9223372036854775807) := (hall 1 (by omega)).2
  have HG0 := Lib.hid hz
  have HG1 := Lib.hid hz1
  clear hz hz1
  have HO1 := Lib.hid ho
  have HN1 := Lib.hid hn1
  clear ho hn1
  clear hall hK hS hno
  obtain ⟨W0, hW0, hB0, hz0, KR⟩ := valz_box w
  have HB0 := Lib.hid hB0
  have e1 : ((n : Int) == 0) = false := by rw [beq_eq_false_iff_ne]; omega
  have i5 : (n : Int) ≤ 5 := by omega
  clear hB0 hop hv
  unfold DoIs
  go_enter Tryz.func6, Tryz.ntmps6
  go_wp2_with fail
  refine (HO.out _).mono ?_
  rintro e w1 ⟨rfl, hb1⟩
  have B1 := Lib.hid hb1
  clear hb1
  go_wp2_with fail
  refine (HO.out _).mono ?_
  rintro e w2 ⟨rfl, hb2⟩
  have B2 := Lib.hid (btr B1.out hb2)
  clear hb2 HO
  go_wp2
  go_loopw [6] (fun i wr => ∃ k : Nat, k ≤ n ∧ i = .int .i64 k ∧ Hid (Below W0.heap.size W0 wr)) (fun i _ => n - (intOf i).toNat)
  case atStart => exact ⟨0, Nat.zero_le _, rfl, B2.out⟩
  case round =>
    obtain ⟨k, hk, rfl, HB⟩ := hrel
    by_cases hlt : k < n
    · have hkn : k < n := by omega
      obtain ⟨b, o, rfl, hlb, hc⟩ := HV.out wr (btr HB0.out HB.out) (by omega)
      obtain ⟨c0, c1, c2, c3⟩ := hc k hkn
      have hC := HC.out k hlt
      clear hc
      generalize kk k = k0 at *
      generalize nn k = n0 at *
      generalize dd k = d0 at *
      generalize ss k = s0 at *
      go_wp2_with fail
      refine (hC wr).mono ?_
      rintro e w3 ⟨rfl, hb3⟩
      have HB3 : Hid (Below W0.heap.size W0 w3) := btr HB.out hb3
      clear hb3 c0 c1 c2 c3
      go_wp2
      exact ⟨⟨k + 1, by omega, by go_num, HB3⟩, by simp [intOf]; omega⟩
    · obtain rfl : n = k := by omega
      clear HC
      go_wp2_with fail
      refine (HK.out wr (btr HB0.out HB.out)).mono ?_
      rintro e w3 ⟨rfl, hb3⟩
      have B3 := Lib.hid (btr HB.out hb3)
      clear hb3
      go_wp2_with fail
      refine (HS.out w3 (btr HB0.out B3.out)).mono ?_
      rintro e w4 ⟨rfl, hb4⟩
      obtain ⟨w5, hw5, hb5, KV⟩ := kinds_of rk rn rd rs w4
      have B5 := Lib.hid (btr B3.out (btr hb4 hb5))
      clear hb4 hb5
      go_wp2
      go_loopw [9] (fun i wr => ∃ k : Nat, k ≤ n ∧ i = .int .i64 k ∧ Hid (Below W0.heap.size W0 wr)) (fun i _ => n - (intOf i).toNat)
      case atStart => exact ⟨0, Nat.zero_le _, rfl, B5.out⟩
      case round =>
        obtain ⟨i, hi, rfl, HB⟩ := hrel
        by_cases hlt : i < n
        · obtain ⟨b, o, rfl, hlb, hc⟩ := HV.out wr (btr HB0.out HB.out) (by omega)
          obtain ⟨c0, c1, c2, c3⟩ := hc i hlt
          clear hc
          have hk0 : (kk i == 0) = false := by rw [beq_eq_false_iff_ne]; exact HN.out i hlt
          generalize kk i = k0 at *
          go_wp2
          exact ⟨⟨i + 1, by omega, by go_num, HB⟩, by simp [intOf]; omega⟩
        · obtain rfl : n = i := by omega
          have ho := HO1.out
          subst ho
          have hn0 : (0 : Int) < n := by have := HN1.out; omega
          have hn02 : (n : Int) ≤ 5 := by have := HN1.out; omega
          obtain ⟨b, o, rfl, hlb, hc⟩ := HV.out wr (btr HB0.out HB.out) (by omega)
          have h0 : ValIn wr b o (kk 0) (nn 0) (dd 0) (ss 0) := hc 0 (by omega)
          obtain ⟨c0, c1, c2, c3⟩ := h0
          have HNu := Lib.hid (fun W => r_Number (kk 0) (nn 0) (dd 0) (ss 0) W HZ0.out)
          have HC0 : Hid (∀ W, Below wr.heap.size wr W → ValIn W b o (kk 0) (nn 0) (dd 0) (ss 0)) := fun W hW => (hc 0 (by omega)).below hW hlb
          go_wp2_with fail
          refine (HNu.out wr).mono ?_
          rintro e w6 ⟨r, rfl, ⟨sb, A5, m5, c5, A6, m6, c6, rfl⟩, hr, hb6⟩
          obtain ⟨w7, hw7, hb7, hz7, KX⟩ := ref_box w6 sb (.slice A5 m5 c5) (.slice A6 m6 c6)
          have HR := Lib.hid hr
          have B67 := Lib.hid hb7
          have B7 := Lib.hid (btr HB.out (btr hb6 hb7))
          have Bw := Lib.hid (btr hb6 hb7)
          clear hb6 hb7 hr c0 c1 c2 c3
          have hq : RefV w6 (.agg #[.bool sb, .slice A5 m5 c5, .slice A6 m6 c6]) (qV (nn 0) (dd 0)) := HR.out HG0.out
          have HQ := Lib.hid (hq.below B67.out)
          clear hq
          have h1 : ValIn wr b (o + 4) (kk 1) (nn 1) (dd 1) (ss 1) := hc 1 (by have := HN1.out; omega)
          obtain ⟨d0, d1, d2, d3⟩ := h1.below Bw.out hlb
          have hn1 : (1 : Int) < n := by have := HN1.out; omega
          have HNv := Lib.hid (fun W => r_Number (kk 1) (nn 1) (dd 1) (ss 1) W HZ1.out)
          go_wp2_with fail
          refine (HNv.out w7).mono ?_
          rintro e w8 ⟨r, rfl, ⟨sc, A7, m7, c7, A8, m8, c8, rfl⟩, hr, hb8⟩
          obtain ⟨w9, hw9, hb9, hz9, KY⟩ := ref_box w8 sc (.slice A7 m7 c7) (.slice A8 m8 c8)
          have B79 := Lib.hid (btr hb8 hb9)
          have B9 := Lib.hid (btr B7.out B79.out)
          have HX9 := Lib.hid (HQ.out.below B79.out)
          have HY9 := Lib.hid ((hr HG1.out).below hb9)
          clear hb8 hb9 hr d0 d1 d2 d3
          have kx := low_w (low_of HG0.out)
          have ky := low_w (low_of HG1.out)
          have HAr := Lib.hid (r_arith10 w9 _ _ _ _ HX9.out HY9.out kx ky)
          clear kx ky
          obtain ⟨x0, x1, x2⟩ := KX.out w9 B79.out
          obtain ⟨y0, y1, y2⟩ := KY.out w9 (Below.refl _ _)
          go_wp2_with fail
          refine HAr.out.mono ?_
          rintro e w10 ⟨rfl, hb10⟩
          have B10 := Lib.hid (btr B9.out hb10)
          clear hb10 x0 x1 x2 y0 y1 y2
          have hcell := KR.out w10 B10.out
          have hBf := btr HB0.out B10.out
          go_wp2_with (refine wpList_store_row 25 _ _ rfl rfl rfl w.heap.size 25 rfl [.int .i64 (valK (qV (nn 0) (dd 0) - qV (nn 1) (dd 1))), .int .i64 (valN (qV (nn 0) (dd 0) - qV (nn 1) (dd 1))), .int .i64 (valD (qV (nn 0) (dd 0) - qV (nn 1) (dd 1))), .string noS] rfl _ hcell rfl info_val (val_one _ _ _ _) ?_; intro wz hhz hgz hzz; have HBz : Hid (Below w.heap.size w wz) := hBf.grown hgz hBf.size (fun j hj => by injection hj with hj; omega); clear hzz hgz hcell)
          exact bodyPost_ret (v := .tuple #[V (valK (qV (nn 0) (dd 0) - qV (nn 1) (dd 1))) (valN (qV (nn 0) (dd 0) - qV (nn 1) (dd 1))) (valD (qV (nn 0) (dd 0) - qV (nn 1) (dd 1))) noS, .int .i64 0]) (results_cell_tmp Tryz.results6 _ _ w.heap.size 25 _ (0, 0) _ rfl hhz Tryz.underlying25 rfl (by rw [info_val]; rfl)) rfl ⟨rfl, HBz.out⟩
set_option maxRecDepth 100000 in
set_option maxHeartbeats 1000000 in
theorem R_run11 (w : World) (op : Int) (A : Option Addr) (n cap : Nat) (kk nn dd : Nat → Int) (ss : Nat → ByteArray) (hop : opn op = n) (hn : n ≠ 0) (hn5 : n ≤ 5) (hv : Vals w A n kk nn dd ss) (ho : op = 11) (hn1 : n = 2) (hall : AllOk n kk nn dd ss) (hK : KindsIs w op A n cap true) (rk rn rd : Int) (rs : ByteArray) (hS : SpecIs w op A n cap rk rn rd rs false) (hno : ∀ k, k < n → kk k ≠ 0) (hz : (okB (kk 0) (nn 0) (dd 0) (ss 0) && kk 0 == 2) = true) (hz1 : (okB (kk 1) (nn 1) (dd 1) (ss 1) && kk 1 == 2) = true) : DoIs w op A n cap (valK (qV (nn 0) (dd 0) * qV (nn 1) (dd 1))) (valN (qV (nn 0) (dd 0) * qV (nn 1) (dd 1))) (valD (qV (nn 0) (dd 0) * qV (nn 1) (dd 1))) noS 0 := by
  have HO : Hid (∀ W, Calls Tryz.prog 27 #[.int .i64 op] W fun e w' => e = .returned (.int .i64 (n : Int)) ∧ Below W.heap.size W w') := fun W => by rw [← hop]; exact r_operands op W
  have HV := Lib.hid (fun W (hW : Below w.heap.size w W) => hv.below hW)
  have HC : Hid (∀ k, k < n → ∀ W, Calls Tryz.prog 28 #[V (kk k) (nn k) (dd k) (ss k)] W fun e w' => e = .returned (.int .i64 0) ∧ Below W.heap.size W w') := fun k hk W => by
    have h9 := r_Check (kk k) (nn k) (dd k) (ss k) W (hall k hk).2
    rw [(hall k hk).1] at h9
    exact h9
  have HK := Lib.hid hK
  have HS := Lib.hid hS
  have HN := Lib.hid hno
  have HZ0 : Hid ((ss 0).size ≤ 9223372036854775807) := (hall 0 (by omega)).2
  have HZ1 : Hid ((ss 1).size ≤ 9223372036854775807) := (hall 1 (by omega)).2
  have HG0 := Lib.hid hz
  have HG1 := Lib.hid hz1
  clear hz hz1
  have HO1 := Lib.hid ho
  have HN1 := Lib.hid hn1
  clear ho hn1
  clear hall hK hS hno
  obtain ⟨W0, hW0, hB0, hz0, KR⟩ := valz_box w
  have HB0 := Lib.hid hB0
  have e1 : ((n : Int) == 0) = false := by rw [beq_eq_false_iff_ne]; omega
  have i5 : (n : Int) ≤ 5 := by omega
  clear hB0 hop hv
  unfold DoIs
  go_enter Tryz.func6, Tryz.ntmps6
  go_wp2_with fail
  refine (HO.out _).mono ?_
  rintro e w1 ⟨rfl, hb1⟩
  have B1 := Lib.hid hb1
  clear hb1
  go_wp2_with fail
  refine (HO.out _).mono ?_
  rintro e w2 ⟨rfl, hb2⟩
  have B2 := Lib.hid (btr B1.out hb2)
  clear hb2 HO
  go_wp2
  go_loopw [6] (fun i wr => ∃ k : Nat, k ≤ n ∧ i = .int .i64 k ∧ Hid (Below W0.heap.size W0 wr)) (fun i _ => n - (intOf i).toNat)
  case atStart => exact ⟨0, Nat.zero_le _, rfl, B2.out⟩
  case round =>
    obtain ⟨k, hk, rfl, HB⟩ := hrel
    by_cases hlt : k < n
    · have hkn : k < n := by omega
      obtain ⟨b, o, rfl, hlb, hc⟩ := HV.out wr (btr HB0.out HB.out) (by omega)
      obtain ⟨c0, c1, c2, c3⟩ := hc k hkn
      have hC := HC.out k hlt
      clear hc
      generalize kk k = k0 at *
      generalize nn k = n0 at *
      generalize dd k = d0 at *
      generalize ss k = s0 at *
      go_wp2_with fail
      refine (hC wr).mono ?_
      rintro e w3 ⟨rfl, hb3⟩
      have HB3 : Hid (Below W0.heap.size W0 w3) := btr HB.out hb3
      clear hb3 c0 c1 c2 c3
      go_wp2
      exact ⟨⟨k + 1, by omega, by go_num, HB3⟩, by simp [intOf]; omega⟩
    · obtain rfl : n = k := by omega
      clear HC
      go_wp2_with fail
      refine (HK.out wr (btr HB0.out HB.out)).mono ?_
      rintro e w3 ⟨rfl, hb3⟩
      have B3 := Lib.hid (btr HB.out hb3)
      clear hb3
      go_wp2_with fail
      refine (HS.out w3 (btr HB0.out B3.out)).mono ?_
      rintro e w4 ⟨rfl, hb4⟩
      obtain ⟨w5, hw5, hb5, KV⟩ := kinds_of rk rn rd rs w4
      have B5 := Lib.hid (btr B3.out (btr hb4 hb5))
      clear hb4 hb5
      go_wp2
      go_loopw [9] (fun i wr => ∃ k : Nat, k ≤ n ∧ i = .int .i64 k ∧ Hid (Below W0.heap.size W0 wr)) (fun i _ => n - (intOf i).toNat)
      case atStart => exact ⟨0, Nat.zero_le _, rfl, B5.out⟩
      case round =>
        obtain ⟨i, hi, rfl, HB⟩ := hrel
        by_cases hlt : i < n
        · obtain ⟨b, o, rfl, hlb, hc⟩ := HV.out wr (btr HB0.out HB.out) (by omega)
          obtain ⟨c0, c1, c2, c3⟩ := hc i hlt
          clear hc
          have hk0 : (kk i == 0) = false := by rw [beq_eq_false_iff_ne]; exact HN.out i hlt
          generalize kk i = k0 at *
          go_wp2
          exact ⟨⟨i + 1, by omega, by go_num, HB⟩, by simp [intOf]; omega⟩
        · obtain rfl : n = i := by omega
          have ho := HO1.out
          subst ho
          have hn0 : (0 : Int) < n := by have := HN1.out; omega
          have hn02 : (n : Int) ≤ 5 := by have := HN1.out; omega
          obtain ⟨b, o, rfl, hlb, hc⟩ := HV.out wr (btr HB0.out HB.out) (by omega)
          have h0 : ValIn wr b o (kk 0) (nn 0) (dd 0) (ss 0) := hc 0 (by omega)
          obtain ⟨c0, c1, c2, c3⟩ := h0
          have HNu := Lib.hid (fun W => r_Number (kk 0) (nn 0) (dd 0) (ss 0) W HZ0.out)
          have HC0 : Hid (∀ W, Below wr.heap.size wr W → ValIn W b o (kk 0) (nn 0) (dd 0) (ss 0)) := fun W hW => (hc 0 (by omega)).below hW hlb
          go_wp2_with fail
          refine (HNu.out wr).mono ?_
          rintro e w6 ⟨r, rfl, ⟨sb, A5, m5, c5, A6, m6, c6, rfl⟩, hr, hb6⟩
          obtain ⟨w7, hw7, hb7, hz7, KX⟩ := ref_box w6 sb (.slice A5 m5 c5) (.slice A6 m6 c6)
          have HR := Lib.hid hr
          have B67 := Lib.hid hb7
          have B7 := Lib.hid (btr HB.out (btr hb6 hb7))
          have Bw := Lib.hid (btr hb6 hb7)
          clear hb6 hb7 hr c0 c1 c2 c3
          have hq : RefV w6 (.agg #[.bool sb, .slice A5 m5 c5, .slice A6 m6 c6]) (qV (nn 0) (dd 0)) := HR.out HG0.out
          have HQ := Lib.hid (hq.below B67.out)
          clear hq
          have h1 : ValIn wr b (o + 4) (kk 1) (nn 1) (dd 1) (ss 1) := hc 1 (by have := HN1.out; omega)
          obtain ⟨d0, d1, d2, d3⟩ := h1.below Bw.out hlb
          have hn1 : (1 : Int) < n := by have := HN1.out; omega
          have HNv := Lib.hid (fun W => r_Number (kk 1) (nn 1) (dd 1) (ss 1) W HZ1.out)
          go_wp2_with fail
          refine (HNv.out w7).mono ?_
          rintro e w8 ⟨r, rfl, ⟨sc, A7, m7, c7, A8, m8, c8, rfl⟩, hr, hb8⟩
          obtain ⟨w9, hw9, hb9, hz9, KY⟩ := ref_box w8 sc (.slice A7 m7 c7) (.slice A8 m8 c8)
          have B79 := Lib.hid (btr hb8 hb9)
          have B9 := Lib.hid (btr B7.out B79.out)
          have HX9 := Lib.hid (HQ.out.below B79.out)
          have HY9 := Lib.hid ((hr HG1.out).below hb9)
          clear hb8 hb9 hr d0 d1 d2 d3
          have kx := low_w (low_of HG0.out)
          have ky := low_w (low_of HG1.out)
          have HAr := Lib.hid (r_arith11 w9 _ _ _ _ HX9.out HY9.out kx ky)
          clear kx ky
          obtain ⟨x0, x1, x2⟩ := KX.out w9 B79.out
          obtain ⟨y0, y1, y2⟩ := KY.out w9 (Below.refl _ _)
          go_wp2_with fail
          refine HAr.out.mono ?_
          rintro e w10 ⟨rfl, hb10⟩
          have B10 := Lib.hid (btr B9.out hb10)
          clear hb10 x0 x1 x2 y0 y1 y2
          have hcell := KR.out w10 B10.out
          have hBf := btr HB0.out B10.out
          go_wp2_with (refine wpList_store_row 25 _ _ rfl rfl rfl w.heap.size 25 rfl [.int .i64 (valK (qV (nn 0) (dd 0) * qV (nn 1) (dd 1))), .int .i64 (valN (qV (nn 0) (dd 0) * qV (nn 1) (dd 1))), .int .i64 (valD (qV (nn 0) (dd 0) * qV (nn 1) (dd 1))), .string noS] rfl _ hcell rfl info_val (val_one _ _ _ _) ?_; intro wz hhz hgz hzz; have HBz : Hid (Below w.heap.size w wz) := hBf.grown hgz hBf.size (fun j hj => by injection hj with hj; omega); clear hzz hgz hcell)
          exact bodyPost_ret (v := .tuple #[V (valK (qV (nn 0) (dd 0) * qV (nn 1) (dd 1))) (valN (qV (nn 0) (dd 0) * qV (nn 1) (dd 1))) (valD (qV (nn 0) (dd 0) * qV (nn 1) (dd 1))) noS, .int .i64 0]) (results_cell_tmp Tryz.results6 _ _ w.heap.size 25 _ (0, 0) _ rfl hhz Tryz.underlying25 rfl (by rw [info_val]; rfl)) rfl ⟨rfl, HBz.out⟩
set_option maxRecDepth 100000 in
set_option maxHeartbeats 1000000 in
theorem R_run12 (w : World) (op : Int) (A : Option Addr) (n cap : Nat) (kk nn dd : Nat → Int) (ss : Nat → ByteArray) (hop : opn op = n) (hn : n ≠ 0) (hn5 : n ≤ 5) (hv : Vals w A n kk nn dd ss) (ho : op = 12) (hn1 : n = 2) (hall : AllOk n kk nn dd ss) (hK : KindsIs w op A n cap true) (rk rn rd : Int) (rs : ByteArray) (hS : SpecIs w op A n cap rk rn rd rs false) (hno : ∀ k, k < n → kk k ≠ 0) (hz : (okB (kk 0) (nn 0) (dd 0) (ss 0) && kk 0 == 2) = true) (hz1 : (okB (kk 1) (nn 1) (dd 1) (ss 1) && kk 1 == 2) = true) (hnz : qV (nn 1) (dd 1) ≠ 0) : DoIs w op A n cap (valK (qV (nn 0) (dd 0) / qV (nn 1) (dd 1))) (valN (qV (nn 0) (dd 0) / qV (nn 1) (dd 1))) (valD (qV (nn 0) (dd 0) / qV (nn 1) (dd 1))) noS 0 := by
  have HO : Hid (∀ W, Calls Tryz.prog 27 #[.int .i64 op] W fun e w' => e = .returned (.int .i64 (n : Int)) ∧ Below W.heap.size W w') := fun W => by rw [← hop]; exact r_operands op W
  have HV := Lib.hid (fun W (hW : Below w.heap.size w W) => hv.below hW)
  have HC : Hid (∀ k, k < n → ∀ W, Calls Tryz.prog 28 #[V (kk k) (nn k) (dd k) (ss k)] W fun e w' => e = .returned (.int .i64 0) ∧ Below W.heap.size W w') := fun k hk W => by
    have h9 := r_Check (kk k) (nn k) (dd k) (ss k) W (hall k hk).2
    rw [(hall k hk).1] at h9
    exact h9
  have HK := Lib.hid hK
  have HS := Lib.hid hS
  have HN := Lib.hid hno
  have HZ0 : Hid ((ss 0).size ≤ 9223372036854775807) := (hall 0 (by omega)).2
  have HZ1 : Hid ((ss 1).size ≤ 9223372036854775807) := (hall 1 (by omega)).2
  have HG0 := Lib.hid hz
  have HG1 := Lib.hid hz1
  clear hz hz1
  have HNZ := Lib.hid hnz
  clear hnz
  have HO1 := Lib.hid ho
  have HN1 := Lib.hid hn1
  clear ho hn1
  clear hall hK hS hno
  obtain ⟨W0, hW0, hB0, hz0, KR⟩ := valz_box w
  have HB0 := Lib.hid hB0
  have e1 : ((n : Int) == 0) = false := by rw [beq_eq_false_iff_ne]; omega
  have i5 : (n : Int) ≤ 5 := by omega
  clear hB0 hop hv
  unfold DoIs
  go_enter Tryz.func6, Tryz.ntmps6
  go_wp2_with fail
  refine (HO.out _).mono ?_
  rintro e w1 ⟨rfl, hb1⟩
  have B1 := Lib.hid hb1
  clear hb1
  go_wp2_with fail
  refine (HO.out _).mono ?_
  rintro e w2 ⟨rfl, hb2⟩
  have B2 := Lib.hid (btr B1.out hb2)
  clear hb2 HO
  go_wp2
  go_loopw [6] (fun i wr => ∃ k : Nat, k ≤ n ∧ i = .int .i64 k ∧ Hid (Below W0.heap.size W0 wr)) (fun i _ => n - (intOf i).toNat)
  case atStart => exact ⟨0, Nat.zero_le _, rfl, B2.out⟩
  case round =>
    obtain ⟨k, hk, rfl, HB⟩ := hrel
    by_cases hlt : k < n
    · have hkn : k < n := by omega
      obtain ⟨b, o, rfl, hlb, hc⟩ := HV.out wr (btr HB0.out HB.out) (by omega)
      obtain ⟨c0, c1, c2, c3⟩ := hc k hkn
      have hC := HC.out k hlt
      clear hc
      generalize kk k = k0 at *
      generalize nn k = n0 at *
      generalize dd k = d0 at *
      generalize ss k = s0 at *
      go_wp2_with fail
      refine (hC wr).mono ?_
      rintro e w3 ⟨rfl, hb3⟩
      have HB3 : Hid (Below W0.heap.size W0 w3) := btr HB.out hb3
      clear hb3 c0 c1 c2 c3
      go_wp2
      exact ⟨⟨k + 1, by omega, by go_num, HB3⟩, by simp [intOf]; omega⟩
    · obtain rfl : n = k := by omega
      clear HC
      go_wp2_with fail
      refine (HK.out wr (btr HB0.out HB.out)).mono ?_
      rintro e w3 ⟨rfl, hb3⟩
      have B3 := Lib.hid (btr HB.out hb3)
      clear hb3
      go_wp2_with fail
      refine (HS.out w3 (btr HB0.out B3.out)).mono ?_
      rintro e w4 ⟨rfl, hb4⟩
      obtain ⟨w5, hw5, hb5, KV⟩ := kinds_of rk rn rd rs w4
      have B5 := Lib.hid (btr B3.out (btr hb4 hb5))
      clear hb4 hb5
      go_wp2
      go_loopw [9] (fun i wr => ∃ k : Nat, k ≤ n ∧ i = .int .i64 k ∧ Hid (Below W0.heap.size W0 wr)) (fun i _ => n - (intOf i).toNat)
      case atStart => exact ⟨0, Nat.zero_le _, rfl, B5.out⟩
      case round =>
        obtain ⟨i, hi, rfl, HB⟩ := hrel
        by_cases hlt : i < n
        · obtain ⟨b, o, rfl, hlb, hc⟩ := HV.out wr (btr HB0.out HB.out) (by omega)
          obtain ⟨c0, c1, c2, c3⟩ := hc i hlt
          clear hc
          have hk0 : (kk i == 0) = false := by rw [beq_eq_false_iff_ne]; exact HN.out i hlt
          generalize kk i = k0 at *
          go_wp2
          exact ⟨⟨i + 1, by omega, by go_num, HB⟩, by simp [intOf]; omega⟩
        · obtain rfl : n = i := by omega
          have ho := HO1.out
          subst ho
          have hn0 : (0 : Int) < n := by have := HN1.out; omega
          have hn02 : (n : Int) ≤ 5 := by have := HN1.out; omega
          obtain ⟨b, o, rfl, hlb, hc⟩ := HV.out wr (btr HB0.out HB.out) (by omega)
          have h0 : ValIn wr b o (kk 0) (nn 0) (dd 0) (ss 0) := hc 0 (by omega)
          obtain ⟨c0, c1, c2, c3⟩ := h0
          have HNu := Lib.hid (fun W => r_Number (kk 0) (nn 0) (dd 0) (ss 0) W HZ0.out)
          have HC0 : Hid (∀ W, Below wr.heap.size wr W → ValIn W b o (kk 0) (nn 0) (dd 0) (ss 0)) := fun W hW => (hc 0 (by omega)).below hW hlb
          go_wp2_with fail
          refine (HNu.out wr).mono ?_
          rintro e w6 ⟨r, rfl, ⟨sb, A5, m5, c5, A6, m6, c6, rfl⟩, hr, hb6⟩
          obtain ⟨w7, hw7, hb7, hz7, KX⟩ := ref_box w6 sb (.slice A5 m5 c5) (.slice A6 m6 c6)
          have HR := Lib.hid hr
          have B67 := Lib.hid hb7
          have B7 := Lib.hid (btr HB.out (btr hb6 hb7))
          have Bw := Lib.hid (btr hb6 hb7)
          clear hb6 hb7 hr c0 c1 c2 c3
          have hq : RefV w6 (.agg #[.bool sb, .slice A5 m5 c5, .slice A6 m6 c6]) (qV (nn 0) (dd 0)) := HR.out HG0.out
          have HQ := Lib.hid (hq.below B67.out)
          clear hq
          have h1 : ValIn wr b (o + 4) (kk 1) (nn 1) (dd 1) (ss 1) := hc 1 (by have := HN1.out; omega)
          obtain ⟨d0, d1, d2, d3⟩ := h1.below Bw.out hlb
          have hn1 : (1 : Int) < n := by have := HN1.out; omega
          have HNv := Lib.hid (fun W => r_Number (kk 1) (nn 1) (dd 1) (ss 1) W HZ1.out)
          go_wp2_with fail
          refine (HNv.out w7).mono ?_
          rintro e w8 ⟨r, rfl, ⟨sc, A7, m7, c7, A8, m8, c8, rfl⟩, hr, hb8⟩
          obtain ⟨w9, hw9, hb9, hz9, KY⟩ := ref_box w8 sc (.slice A7 m7 c7) (.slice A8 m8 c8)
          have B79 := Lib.hid (btr hb8 hb9)
          have B9 := Lib.hid (btr B7.out B79.out)
          have HX9 := Lib.hid (HQ.out.below B79.out)
          have HY9 := Lib.hid ((hr HG1.out).below hb9)
          clear hb8 hb9 hr d0 d1 d2 d3
          have kx := low_w (low_of HG0.out)
          have ky := low_w (low_of HG1.out)
          have HAr := Lib.hid (r_arith12 w9 _ _ _ _ HX9.out HY9.out kx ky HNZ.out)
          clear kx ky
          obtain ⟨x0, x1, x2⟩ := KX.out w9 B79.out
          obtain ⟨y0, y1, y2⟩ := KY.out w9 (Below.refl _ _)
          go_wp2_with fail
          refine HAr.out.mono ?_
          rintro e w10 ⟨rfl, hb10⟩
          have B10 := Lib.hid (btr B9.out hb10)
          clear hb10 x0 x1 x2 y0 y1 y2
          have hcell := KR.out w10 B10.out
          have hBf := btr HB0.out B10.out
          go_wp2_with (refine wpList_store_row 25 _ _ rfl rfl rfl w.heap.size 25 rfl [.int .i64 (valK (qV (nn 0) (dd 0) / qV (nn 1) (dd 1))), .int .i64 (valN (qV (nn 0) (dd 0) / qV (nn 1) (dd 1))), .int .i64 (valD (qV (nn 0) (dd 0) / qV (nn 1) (dd 1))), .string noS] rfl _ hcell rfl info_val (val_one _ _ _ _) ?_; intro wz hhz hgz hzz; have HBz : Hid (Below w.heap.size w wz) := hBf.grown hgz hBf.size (fun j hj => by injection hj with hj; omega); clear hzz hgz hcell)
          exact bodyPost_ret (v := .tuple #[V (valK (qV (nn 0) (dd 0) / qV (nn 1) (dd 1))) (valN (qV (nn 0) (dd 0) / qV (nn 1) (dd 1))) (valD (qV (nn 0) (dd 0) / qV (nn 1) (dd 1))) noS, .int .i64 0]) (results_cell_tmp Tryz.results6 _ _ w.heap.size 25 _ (0, 0) _ rfl hhz Tryz.underlying25 rfl (by rw [info_val]; rfl)) rfl ⟨rfl, HBz.out⟩
set_option maxRecDepth 100000 in
set_option maxHeartbeats 1000000 in
theorem R_run12z (w : World) (op : Int) (A : Option Addr) (n cap : Nat) (kk nn dd : Nat → Int) (ss : Nat → ByteArray) (hop : opn op = n) (hn : n ≠ 0) (hn5 : n ≤ 5) (hv : Vals w A n kk nn dd ss) (ho : op = 12) (hn1 : n = 2) (hall : AllOk n kk nn dd ss) (hK : KindsIs w op A n cap true) (rk rn rd : Int) (rs : ByteArray) (hS : SpecIs w op A n cap rk rn rd rs false) (hno : ∀ k, k < n → kk k ≠ 0) (hz : (okB (kk 0) (nn 0) (dd 0) (ss 0) && kk 0 == 2) = true) (hz1 : (okB (kk 1) (nn 1) (dd 1) (ss 1) && kk 1 == 2) = true) (hnz : qV (nn 1) (dd 1) = 0) : DoIs w op A n cap 0 3 0 noS 0 := by
  have HO : Hid (∀ W, Calls Tryz.prog 27 #[.int .i64 op] W fun e w' => e = .returned (.int .i64 (n : Int)) ∧ Below W.heap.size W w') := fun W => by rw [← hop]; exact r_operands op W
  have HV := Lib.hid (fun W (hW : Below w.heap.size w W) => hv.below hW)
  have HC : Hid (∀ k, k < n → ∀ W, Calls Tryz.prog 28 #[V (kk k) (nn k) (dd k) (ss k)] W fun e w' => e = .returned (.int .i64 0) ∧ Below W.heap.size W w') := fun k hk W => by
    have h9 := r_Check (kk k) (nn k) (dd k) (ss k) W (hall k hk).2
    rw [(hall k hk).1] at h9
    exact h9
  have HK := Lib.hid hK
  have HS := Lib.hid hS
  have HN := Lib.hid hno
  have HZ0 : Hid ((ss 0).size ≤ 9223372036854775807) := (hall 0 (by omega)).2
  have HZ1 : Hid ((ss 1).size ≤ 9223372036854775807) := (hall 1 (by omega)).2
  have HG0 := Lib.hid hz
  have HG1 := Lib.hid hz1
  clear hz hz1
  have HNZ := Lib.hid hnz
  clear hnz
  have HO1 := Lib.hid ho
  have HN1 := Lib.hid hn1
  clear ho hn1
  clear hall hK hS hno
  obtain ⟨W0, hW0, hB0, hz0, KR⟩ := valz_box w
  have HB0 := Lib.hid hB0
  have e1 : ((n : Int) == 0) = false := by rw [beq_eq_false_iff_ne]; omega
  have i5 : (n : Int) ≤ 5 := by omega
  clear hB0 hop hv
  unfold DoIs
  go_enter Tryz.func6, Tryz.ntmps6
  go_wp2_with fail
  refine (HO.out _).mono ?_
  rintro e w1 ⟨rfl, hb1⟩
  have B1 := Lib.hid hb1
  clear hb1
  go_wp2_with fail
  refine (HO.out _).mono ?_
  rintro e w2 ⟨rfl, hb2⟩
  have B2 := Lib.hid (btr B1.out hb2)
  clear hb2 HO
  go_wp2
  go_loopw [6] (fun i wr => ∃ k : Nat, k ≤ n ∧ i = .int .i64 k ∧ Hid (Below W0.heap.size W0 wr)) (fun i _ => n - (intOf i).toNat)
  case atStart => exact ⟨0, Nat.zero_le _, rfl, B2.out⟩
  case round =>
    obtain ⟨k, hk, rfl, HB⟩ := hrel
    by_cases hlt : k < n
    · have hkn : k < n := by omega
      obtain ⟨b, o, rfl, hlb, hc⟩ := HV.out wr (btr HB0.out HB.out) (by omega)
      obtain ⟨c0, c1, c2, c3⟩ := hc k hkn
      have hC := HC.out k hlt
      clear hc
      generalize kk k = k0 at *
      generalize nn k = n0 at *
      generalize dd k = d0 at *
      generalize ss k = s0 at *
      go_wp2_with fail
      refine (hC wr).mono ?_
      rintro e w3 ⟨rfl, hb3⟩
      have HB3 : Hid (Below W0.heap.size W0 w3) := btr HB.out hb3
      clear hb3 c0 c1 c2 c3
      go_wp2
      exact ⟨⟨k + 1, by omega, by go_num, HB3⟩, by simp [intOf]; omega⟩
    · obtain rfl : n = k := by omega
      clear HC
      go_wp2_with fail
      refine (HK.out wr (btr HB0.out HB.out)).mono ?_
      rintro e w3 ⟨rfl, hb3⟩
      have B3 := Lib.hid (btr HB.out hb3)
      clear hb3
      go_wp2_with fail
      refine (HS.out w3 (btr HB0.out B3.out)).mono ?_
      rintro e w4 ⟨rfl, hb4⟩
      obtain ⟨w5, hw5, hb5, KV⟩ := kinds_of rk rn rd rs w4
      have B5 := Lib.hid (btr B3.out (btr hb4 hb5))
      clear hb4 hb5
      go_wp2
      go_loopw [9] (fun i wr => ∃ k : Nat, k ≤ n ∧ i = .int .i64 k ∧ Hid (Below W0.heap.size W0 wr)) (fun i _ => n - (intOf i).toNat)
      case atStart => exact ⟨0, Nat.zero_le _, rfl, B5.out⟩
      case round =>
        obtain ⟨i, hi, rfl, HB⟩ := hrel
        by_cases hlt : i < n
        · obtain ⟨b, o, rfl, hlb, hc⟩ := HV.out wr (btr HB0.out HB.out) (by omega)
          obtain ⟨c0, c1, c2, c3⟩ := hc i hlt
          clear hc
          have hk0 : (kk i == 0) = false := by rw [beq_eq_false_iff_ne]; exact HN.out i hlt
          generalize kk i = k0 at *
          go_wp2
          exact ⟨⟨i + 1, by omega, by go_num, HB⟩, by simp [intOf]; omega⟩
        · obtain rfl : n = i := by omega
          have ho := HO1.out
          subst ho
          have hn0 : (0 : Int) < n := by have := HN1.out; omega
          have hn02 : (n : Int) ≤ 5 := by have := HN1.out; omega
          obtain ⟨b, o, rfl, hlb, hc⟩ := HV.out wr (btr HB0.out HB.out) (by omega)
          have h0 : ValIn wr b o (kk 0) (nn 0) (dd 0) (ss 0) := hc 0 (by omega)
          obtain ⟨c0, c1, c2, c3⟩ := h0
          have HNu := Lib.hid (fun W => r_Number (kk 0) (nn 0) (dd 0) (ss 0) W HZ0.out)
          have HC0 : Hid (∀ W, Below wr.heap.size wr W → ValIn W b o (kk 0) (nn 0) (dd 0) (ss 0)) := fun W hW => (hc 0 (by omega)).below hW hlb
          go_wp2_with fail
          refine (HNu.out wr).mono ?_
          rintro e w6 ⟨r, rfl, ⟨sb, A5, m5, c5, A6, m6, c6, rfl⟩, hr, hb6⟩
          obtain ⟨w7, hw7, hb7, hz7, KX⟩ := ref_box w6 sb (.slice A5 m5 c5) (.slice A6 m6 c6)
          have HR := Lib.hid hr
          have B67 := Lib.hid hb7
          have B7 := Lib.hid (btr HB.out (btr hb6 hb7))
          have Bw := Lib.hid (btr hb6 hb7)
          clear hb6 hb7 hr c0 c1 c2 c3
          have hq : RefV w6 (.agg #[.bool sb, .slice A5 m5 c5, .slice A6 m6 c6]) (qV (nn 0) (dd 0)) := HR.out HG0.out
          have HQ := Lib.hid (hq.below B67.out)
          clear hq
          have h1 : ValIn wr b (o + 4) (kk 1) (nn 1) (dd 1) (ss 1) := hc 1 (by have := HN1.out; omega)
          obtain ⟨d0, d1, d2, d3⟩ := h1.below Bw.out hlb
          have hn1 : (1 : Int) < n := by have := HN1.out; omega
          have HNv := Lib.hid (fun W => r_Number (kk 1) (nn 1) (dd 1) (ss 1) W HZ1.out)
          go_wp2_with fail
          refine (HNv.out w7).mono ?_
          rintro e w8 ⟨r, rfl, ⟨sc, A7, m7, c7, A8, m8, c8, rfl⟩, hr, hb8⟩
          obtain ⟨w9, hw9, hb9, hz9, KY⟩ := ref_box w8 sc (.slice A7 m7 c7) (.slice A8 m8 c8)
          have B79 := Lib.hid (btr hb8 hb9)
          have B9 := Lib.hid (btr B7.out B79.out)
          have HX9 := Lib.hid (HQ.out.below B79.out)
          have HY9 := Lib.hid ((hr HG1.out).below hb9)
          clear hb8 hb9 hr d0 d1 d2 d3
          have kx := low_w (low_of HG0.out)
          have ky := low_w (low_of HG1.out)
          have hy0 := HY9.out
          rw [HNZ.out] at hy0
          have HAr := Lib.hid (r_arith12z w9 _ _ _ HX9.out hy0)
          clear kx ky hy0
          obtain ⟨x0, x1, x2⟩ := KX.out w9 B79.out
          obtain ⟨y0, y1, y2⟩ := KY.out w9 (Below.refl _ _)
          go_wp2_with fail
          refine HAr.out.mono ?_
          rintro e w10 ⟨rfl, hb10⟩
          have B10 := Lib.hid (btr B9.out hb10)
          clear hb10 x0 x1 x2 y0 y1 y2
          have hcell := KR.out w10 B10.out
          have hBf := btr HB0.out B10.out
          go_wp2_with (refine wpList_store_row 25 _ _ rfl rfl rfl w.heap.size 25 rfl [.int .i64 0, .int .i64 3, .int .i64 0, .string noS] rfl _ hcell rfl info_val (val_one _ _ _ _) ?_; intro wz hhz hgz hzz; have HBz : Hid (Below w.heap.size w wz) := hBf.grown hgz hBf.size (fun j hj => by injection hj with hj; omega); clear hzz hgz hcell)
          exact bodyPost_ret (v := .tuple #[V 0 3 0 noS, .int .i64 0]) (results_cell_tmp Tryz.results6 _ _ w.heap.size 25 _ (0, 0) _ rfl hhz Tryz.underlying25 rfl (by rw [info_val]; rfl)) rfl ⟨rfl, HBz.out⟩
end Go.Proofs.YtnfncdalneifnaaGreatDoor
end

/- The reference's Do: further operations' own results. -/
section
namespace Go.Proofs.YtnfncdalneifnaaGreatDoor
open Go Go.RowKit Go.Deep

set_option maxRecDepth 100000 in
set_option maxHeartbeats 1000000 in
theorem R_run13 (w : World) (op : Int) (A : Option Addr) (n cap : Nat) (kk nn dd : Nat → Int) (ss : Nat → ByteArray) (hop : opn op = n) (hn : n ≠ 0) (hn5 : n ≤ 5) (hv : Vals w A n kk nn dd ss) (ho : op = 13) (hn1 : n = 2) (hall : AllOk n kk nn dd ss) (hK : KindsIs w op A n cap true) (rk rn rd : Int) (rs : ByteArray) (hS : SpecIs w op A n cap rk rn rd rs false) (hno : ∀ k, k < n → kk k ≠ 0)  : DoIs w op A n cap 1 (bit ((ordV (kk 0) (nn 0) (dd 0) (ss 0) (kk 1) (nn 1) (dd 1) (ss 1)) == 0)) 0 noS 0 := by
  have HO : Hid (∀ W, Calls Tryz.prog 27 #[.int .i64 op] W fun e w' => e = .returned (.int .i64 (n : Int)) ∧ Below W.heap.size W w') := fun W => by rw [← hop]; exact r_operands op W
  have HV := Lib.hid (fun W (hW : Below w.heap.size w W) => hv.below hW)
  have HC : Hid (∀ k, k < n → ∀ W, Calls Tryz.prog 28 #[V (kk k) (nn k) (dd k) (ss k)] W fun e w' => e = .returned (.int .i64 0) ∧ Below W.heap.size W w') := fun k hk W => by
    have h9 := r_Check (kk k) (nn k) (dd k) (ss k) W (hall k hk).2
    rw [(hall k hk).1] at h9
    exact h9
  have HK := Lib.hid hK
  have HS := Lib.hid hS
  have HN := Lib.hid hno
  have HZ0 : Hid ((ss 0).size ≤ 9223372036854775807) := (hall 0 (by omega)).2
  have HZ1 : Hid ((ss 1).size ≤ 9223372036854775807) := (hall 1 (by omega)).2
  have HO1 := Lib.hid ho
  have HN1 := Lib.hid hn1
  clear ho hn1
  clear hall hK hS hno
  obtain ⟨W0, hW0, hB0, hz0, KR⟩ := valz_box w
  have HB0 := Lib.hid hB0
  have e1 : ((n : Int) == 0) = false := by rw [beq_eq_false_iff_ne]; omega
  have i5 : (n : Int) ≤ 5 := by omega
  clear hB0 hop hv
  unfold DoIs
  go_enter Tryz.func6, Tryz.ntmps6
  go_wp2_with fail
  refine (HO.out _).mono ?_
  rintro e w1 ⟨rfl, hb1⟩
  have B1 := Lib.hid hb1
  clear hb1
  go_wp2_with fail
  refine (HO.out _).mono ?_
  rintro e w2 ⟨rfl, hb2⟩
  have B2 := Lib.hid (btr B1.out hb2)
  clear hb2 HO
  go_wp2
  go_loopw [6] (fun i wr => ∃ k : Nat, k ≤ n ∧ i = .int .i64 k ∧ Hid (Below W0.heap.size W0 wr)) (fun i _ => n - (intOf i).toNat)
  case atStart => exact ⟨0, Nat.zero_le _, rfl, B2.out⟩
  case round =>
    obtain ⟨k, hk, rfl, HB⟩ := hrel
    by_cases hlt : k < n
    · have hkn : k < n := by omega
      obtain ⟨b, o, rfl, hlb, hc⟩ := HV.out wr (btr HB0.out HB.out) (by omega)
      obtain ⟨c0, c1, c2, c3⟩ := hc k hkn
      have hC := HC.out k hlt
      clear hc
      generalize kk k = k0 at *
      generalize nn k = n0 at *
      generalize dd k = d0 at *
      generalize ss k = s0 at *
      go_wp2_with fail
      refine (hC wr).mono ?_
      rintro e w3 ⟨rfl, hb3⟩
      have HB3 : Hid (Below W0.heap.size W0 w3) := btr HB.out hb3
      clear hb3 c0 c1 c2 c3
      go_wp2
      exact ⟨⟨k + 1, by omega, by go_num, HB3⟩, by simp [intOf]; omega⟩
    · obtain rfl : n = k := by omega
      clear HC
      go_wp2_with fail
      refine (HK.out wr (btr HB0.out HB.out)).mono ?_
      rintro e w3 ⟨rfl, hb3⟩
      have B3 := Lib.hid (btr HB.out hb3)
      clear hb3
      go_wp2_with fail
      refine (HS.out w3 (btr HB0.out B3.out)).mono ?_
      rintro e w4 ⟨rfl, hb4⟩
      obtain ⟨w5, hw5, hb5, KV⟩ := kinds_of rk rn rd rs w4
      have B5 := Lib.hid (btr B3.out (btr hb4 hb5))
      clear hb4 hb5
      go_wp2
      go_loopw [9] (fun i wr => ∃ k : Nat, k ≤ n ∧ i = .int .i64 k ∧ Hid (Below W0.heap.size W0 wr)) (fun i _ => n - (intOf i).toNat)
      case atStart => exact ⟨0, Nat.zero_le _, rfl, B5.out⟩
      case round =>
        obtain ⟨i, hi, rfl, HB⟩ := hrel
        by_cases hlt : i < n
        · obtain ⟨b, o, rfl, hlb, hc⟩ := HV.out wr (btr HB0.out HB.out) (by omega)
          obtain ⟨c0, c1, c2, c3⟩ := hc i hlt
          clear hc
          have hk0 : (kk i == 0) = false := by rw [beq_eq_false_iff_ne]; exact HN.out i hlt
          generalize kk i = k0 at *
          go_wp2
          exact ⟨⟨i + 1, by omega, by go_num, HB⟩, by simp [intOf]; omega⟩
        · obtain rfl : n = i := by omega
          have ho := HO1.out
          subst ho
          have hn0 : (0 : Int) < n := by have := HN1.out; omega
          have hnN : 0 < n := by have := HN1.out; omega
          have hn02 : (n : Int) ≤ 5 := by have := HN1.out; omega
          obtain ⟨b, o, rfl, hlb, hc⟩ := HV.out wr (btr HB0.out HB.out) (by omega)
          have h0 : ValIn wr b o (kk 0) (nn 0) (dd 0) (ss 0) := hc 0 (by omega)
          obtain ⟨c0, c1, c2, c3⟩ := h0
          have HNu := Lib.hid (fun W => r_Number (kk 0) (nn 0) (dd 0) (ss 0) W HZ0.out)
          have HC0 : Hid (∀ W, Below wr.heap.size wr W → ValIn W b o (kk 0) (nn 0) (dd 0) (ss 0)) := fun W hW => (hc 0 (by omega)).below hW hlb
          go_wp2_with fail
          refine (HNu.out wr).mono ?_
          rintro e w6 ⟨r, rfl, ⟨sb, A5, m5, c5, A6, m6, c6, rfl⟩, hr, hb6⟩
          obtain ⟨w7, hw7, hb7, hz7, KX⟩ := ref_box w6 sb (.slice A5 m5 c5) (.slice A6 m6 c6)
          have HR := Lib.hid hr
          have B67 := Lib.hid hb7
          have B7 := Lib.hid (btr HB.out (btr hb6 hb7))
          have Bw := Lib.hid (btr hb6 hb7)
          clear hb6 hb7 hr c0 c1 c2 c3
          obtain ⟨b', o', e', hlb', hc'⟩ := HV.out w (Below.refl _ _) (by omega)
          obtain ⟨rfl, rfl⟩ : b = b' ∧ o = o' := by simpa using e'
          have hn1 : (1 : Int) < n := by have := HN1.out; omega
          have HCw : Hid (∀ W, Below w.heap.size w W → (W.cell? ⟨b, o, none⟩ = some (.int .i64 (kk 0)) ∧ W.cell? ⟨b, o + 1, none⟩ = some (.int .i64 (nn 0)) ∧ W.cell? ⟨b, o + 2, none⟩ = some (.int .i64 (dd 0)) ∧ W.cell? ⟨b, o + 3, none⟩ = some (.string (ss 0))) ∧ (W.cell? ⟨b, o + 4, none⟩ = some (.int .i64 (kk 1)) ∧ W.cell? ⟨b, o + 5, none⟩ = some (.int .i64 (nn 1)) ∧ W.cell? ⟨b, o + 6, none⟩ = some (.int .i64 (dd 1)) ∧ W.cell? ⟨b, o + 7, none⟩ = some (.string (ss 1)))) := fun W hW => ⟨(hc' 0 (by omega)).below hW hlb', (hc' 1 (by have := HN1.out; omega)).below hW hlb'⟩
          have HM : Hid (∀ W, Below w7.heap.size w7 W → Below w.heap.size w W) := fun W hW => btr HB0.out (btr B7.out hW)
          have HOr := Lib.hid (fun W => r_Order W (kk 0) (nn 0) (dd 0) (ss 0) (kk 1) (nn 1) (dd 1) (ss 1) HZ0.out HZ1.out)
          have HT := Lib.hid (fun t W => r_TruthB t W)
          have HKR : Hid (∀ W, Below w7.heap.size w7 W → W.heap[w.heap.size]? = some (.cells #[.int .i64 0, .int .i64 0, .int .i64 0, .string ⟨#[]⟩] 25 (0, 0))) := fun W hW => KR.out W (btr B7.out hW)
          clear hc hc'
          go_wp2_with fail
          have B7d : Below w7.heap.size w7 w7.drew := Below.drew (Below.refl _ _)
          go_region_held3 (fun W => (W.cell? ⟨b, o, none⟩ = some (.int .i64 (kk 0)) ∧ W.cell? ⟨b, o + 1, none⟩ = some (.int .i64 (nn 0)) ∧ W.cell? ⟨b, o + 2, none⟩ = some (.int .i64 (dd 0)) ∧ W.cell? ⟨b, o + 3, none⟩ = some (.string (ss 0))) ∧ (W.cell? ⟨b, o + 4, none⟩ = some (.int .i64 (kk 1)) ∧ W.cell? ⟨b, o + 5, none⟩ = some (.int .i64 (nn 1)) ∧ W.cell? ⟨b, o + 6, none⟩ = some (.int .i64 (dd 1)) ∧ W.cell? ⟨b, o + 7, none⟩ = some (.string (ss 1))))
            (first | exact HCw.out _ (below4 (HM.out _ C2) _ (Nat.le_refl _) _ _ _ _) | exact HCw.out _ (HM.out _ C2) | exact HCw.out _ (HM.out _ C1) | exact HCw.out _ (HM.out _ B7d) | exact HCw.out _ (HM.out _ (Below.refl _ _)))
            (first
              | (go_at_call 36; refine (HOr.out _).mono ?_; rintro e w8 ⟨rfl, hb8⟩; have C1 : Below w7.heap.size w7 w8 := btr B7d hb8)
              | (go_at_call 32; refine (HT.out _ _).mono ?_; rintro e w9 ⟨rfl, hb9⟩; have C2 : Below w7.heap.size w7 w9 := btr C1 hb9; obtain ⟨r0, r1, r2, r3, f0, f1, f2, f3⟩ := res_at (HKR.out _ C2)))
          all_goals
            have hrow := HKR.out _ C2
            have HL := Lib.hid (HM.out _ C2)
            clear r0 r1 r2 r3 f0 f1 f2 f3
            go_wp2
            refine bodyPost_ret (v := .tuple #[V 1 (bit ((ordV (kk 0) (nn 0) (dd 0) (ss 0) (kk 1) (nn 1) (dd 1) (ss 1)) == 0)) 0 noS, .int .i64 0]) (results_cell_tmp Tryz.results6 _ _ w.heap.size 25 _ (0, 0) _ rfl (put4 hrow _ _ _ _) Tryz.underlying25 rfl (by rw [info_v4]; rfl)) rfl ⟨rfl, below4 HL.out _ (Nat.le_refl _) _ _ _ _⟩
set_option maxRecDepth 100000 in
set_option maxHeartbeats 1000000 in
theorem R_run14 (w : World) (op : Int) (A : Option Addr) (n cap : Nat) (kk nn dd : Nat → Int) (ss : Nat → ByteArray) (hop : opn op = n) (hn : n ≠ 0) (hn5 : n ≤ 5) (hv : Vals w A n kk nn dd ss) (ho : op = 14) (hn1 : n = 2) (hall : AllOk n kk nn dd ss) (hK : KindsIs w op A n cap true) (rk rn rd : Int) (rs : ByteArray) (hS : SpecIs w op A n cap rk rn rd rs false) (hno : ∀ k, k < n → kk k ≠ 0)  : DoIs w op A n cap 1 (bit ((ordV (kk 0) (nn 0) (dd 0) (ss 0) (kk 1) (nn 1) (dd 1) (ss 1)) != 0)) 0 noS 0 := by
  have HO : Hid (∀ W, Calls Tryz.prog 27 #[.int .i64 op] W fun e w' => e = .returned (.int .i64 (n : Int)) ∧ Below W.heap.size W w') := fun W => by rw [← hop]; exact r_operands op W
  have HV := Lib.hid (fun W (hW : Below w.heap.size w W) => hv.below hW)
  have HC : Hid (∀ k, k < n → ∀ W, Calls Tryz.prog 28 #[V (kk k) (nn k) (dd k) (ss k)] W fun e w' => e = .returned (.int .i64 0) ∧ Below W.heap.size W w') := fun k hk W => by
    have h9 := r_Check (kk k) (nn k) (dd k) (ss k) W (hall k hk).2
    rw [(hall k hk).1] at h9
    exact h9
  have HK := Lib.hid hK
  have HS := Lib.hid hS
  have HN := Lib.hid hno
  have HZ0 : Hid ((ss 0).size ≤ 9223372036854775807) := (hall 0 (by omega)).2
  have HZ1 : Hid ((ss 1).size ≤ 9223372036854775807) := (hall 1 (by omega)).2
  have HO1 := Lib.hid ho
  have HN1 := Lib.hid hn1
  clear ho hn1
  clear hall hK hS hno
  obtain ⟨W0, hW0, hB0, hz0, KR⟩ := valz_box w
  have HB0 := Lib.hid hB0
  have e1 : ((n : Int) == 0) = false := by rw [beq_eq_false_iff_ne]; omega
  have i5 : (n : Int) ≤ 5 := by omega
  clear hB0 hop hv
  unfold DoIs
  go_enter Tryz.func6, Tryz.ntmps6
  go_wp2_with fail
  refine (HO.out _).mono ?_
  rintro e w1 ⟨rfl, hb1⟩
  have B1 := Lib.hid hb1
  clear hb1
  go_wp2_with fail
  refine (HO.out _).mono ?_
  rintro e w2 ⟨rfl, hb2⟩
  have B2 := Lib.hid (btr B1.out hb2)
  clear hb2 HO
  go_wp2
  go_loopw [6] (fun i wr => ∃ k : Nat, k ≤ n ∧ i = .int .i64 k ∧ Hid (Below W0.heap.size W0 wr)) (fun i _ => n - (intOf i).toNat)
  case atStart => exact ⟨0, Nat.zero_le _, rfl, B2.out⟩
  case round =>
    obtain ⟨k, hk, rfl, HB⟩ := hrel
    by_cases hlt : k < n
    · have hkn : k < n := by omega
      obtain ⟨b, o, rfl, hlb, hc⟩ := HV.out wr (btr HB0.out HB.out) (by omega)
      obtain ⟨c0, c1, c2, c3⟩ := hc k hkn
      have hC := HC.out k hlt
      clear hc
      generalize kk k = k0 at *
      generalize nn k = n0 at *
      generalize dd k = d0 at *
      generalize ss k = s0 at *
      go_wp2_with fail
      refine (hC wr).mono ?_
      rintro e w3 ⟨rfl, hb3⟩
      have HB3 : Hid (Below W0.heap.size W0 w3) := btr HB.out hb3
      clear hb3 c0 c1 c2 c3
      go_wp2
      exact ⟨⟨k + 1, by omega, by go_num, HB3⟩, by simp [intOf]; omega⟩
    · obtain rfl : n = k := by omega
      clear HC
      go_wp2_with fail
      refine (HK.out wr (btr HB0.out HB.out)).mono ?_
      rintro e w3 ⟨rfl, hb3⟩
      have B3 := Lib.hid (btr HB.out hb3)
      clear hb3
      go_wp2_with fail
      refine (HS.out w3 (btr HB0.out B3.out)).mono ?_
      rintro e w4 ⟨rfl, hb4⟩
      obtain ⟨w5, hw5, hb5, KV⟩ := kinds_of rk rn rd rs w4
      have B5 := Lib.hid (btr B3.out (btr hb4 hb5))
      clear hb4 hb5
      go_wp2
      go_loopw [9] (fun i wr => ∃ k : Nat, k ≤ n ∧ i = .int .i64 k ∧ Hid (Below W0.heap.size W0 wr)) (fun i _ => n - (intOf i).toNat)
      case atStart => exact ⟨0, Nat.zero_le _, rfl, B5.out⟩
      case round =>
        obtain ⟨i, hi, rfl, HB⟩ := hrel
        by_cases hlt : i < n
        · obtain ⟨b, o, rfl, hlb, hc⟩ := HV.out wr (btr HB0.out HB.out) (by omega)
          obtain ⟨c0, c1, c2, c3⟩ := hc i hlt
          clear hc
          have hk0 : (kk i == 0) = false := by rw [beq_eq_false_iff_ne]; exact HN.out i hlt
          generalize kk i = k0 at *
          go_wp2
          exact ⟨⟨i + 1, by omega, by go_num, HB⟩, by simp [intOf]; omega⟩
        · obtain rfl : n = i := by omega
          have ho := HO1.out
          subst ho
          have hn0 : (0 : Int) < n := by have := HN1.out; omega
          have hnN : 0 < n := by have := HN1.out; omega
          have hn02 : (n : Int) ≤ 5 := by have := HN1.out; omega
          obtain ⟨b, o, rfl, hlb, hc⟩ := HV.out wr (btr HB0.out HB.out) (by omega)
          have h0 : ValIn wr b o (kk 0) (nn 0) (dd 0) (ss 0) := hc 0 (by omega)
          obtain ⟨c0, c1, c2, c3⟩ := h0
          have HNu := Lib.hid (fun W => r_Number (kk 0) (nn 0) (dd 0) (ss 0) W HZ0.out)
          have HC0 : Hid (∀ W, Below wr.heap.size wr W → ValIn W b o (kk 0) (nn 0) (dd 0) (ss 0)) := fun W hW => (hc 0 (by omega)).below hW hlb
          go_wp2_with fail
          refine (HNu.out wr).mono ?_
          rintro e w6 ⟨r, rfl, ⟨sb, A5, m5, c5, A6, m6, c6, rfl⟩, hr, hb6⟩
          obtain ⟨w7, hw7, hb7, hz7, KX⟩ := ref_box w6 sb (.slice A5 m5 c5) (.slice A6 m6 c6)
          have HR := Lib.hid hr
          have B67 := Lib.hid hb7
          have B7 := Lib.hid (btr HB.out (btr hb6 hb7))
          have Bw := Lib.hid (btr hb6 hb7)
          clear hb6 hb7 hr c0 c1 c2 c3
          obtain ⟨b', o', e', hlb', hc'⟩ := HV.out w (Below.refl _ _) (by omega)
          obtain ⟨rfl, rfl⟩ : b = b' ∧ o = o' := by simpa using e'
          have hn1 : (1 : Int) < n := by have := HN1.out; omega
          have HCw : Hid (∀ W, Below w.heap.size w W → (W.cell? ⟨b, o, none⟩ = some (.int .i64 (kk 0)) ∧ W.cell? ⟨b, o + 1, none⟩ = some (.int .i64 (nn 0)) ∧ W.cell? ⟨b, o + 2, none⟩ = some (.int .i64 (dd 0)) ∧ W.cell? ⟨b, o + 3, none⟩ = some (.string (ss 0))) ∧ (W.cell? ⟨b, o + 4, none⟩ = some (.int .i64 (kk 1)) ∧ W.cell? ⟨b, o + 5, none⟩ = some (.int .i64 (nn 1)) ∧ W.cell? ⟨b, o + 6, none⟩ = some (.int .i64 (dd 1)) ∧ W.cell? ⟨b, o + 7, none⟩ = some (.string (ss 1)))) := fun W hW => ⟨(hc' 0 (by omega)).below hW hlb', (hc' 1 (by have := HN1.out; omega)).below hW hlb'⟩
          have HM : Hid (∀ W, Below w7.heap.size w7 W → Below w.heap.size w W) := fun W hW => btr HB0.out (btr B7.out hW)
          have HOr := Lib.hid (fun W => r_Order W (kk 0) (nn 0) (dd 0) (ss 0) (kk 1) (nn 1) (dd 1) (ss 1) HZ0.out HZ1.out)
          have HT := Lib.hid (fun t W => r_TruthB t W)
          have HKR : Hid (∀ W, Below w7.heap.size w7 W → W.heap[w.heap.size]? = some (.cells #[.int .i64 0, .int .i64 0, .int .i64 0, .string ⟨#[]⟩] 25 (0, 0))) := fun W hW => KR.out W (btr B7.out hW)
          clear hc hc'
          go_wp2_with fail
          have B7d : Below w7.heap.size w7 w7.drew := Below.drew (Below.refl _ _)
          go_region_held3 (fun W => (W.cell? ⟨b, o, none⟩ = some (.int .i64 (kk 0)) ∧ W.cell? ⟨b, o + 1, none⟩ = some (.int .i64 (nn 0)) ∧ W.cell? ⟨b, o + 2, none⟩ = some (.int .i64 (dd 0)) ∧ W.cell? ⟨b, o + 3, none⟩ = some (.string (ss 0))) ∧ (W.cell? ⟨b, o + 4, none⟩ = some (.int .i64 (kk 1)) ∧ W.cell? ⟨b, o + 5, none⟩ = some (.int .i64 (nn 1)) ∧ W.cell? ⟨b, o + 6, none⟩ = some (.int .i64 (dd 1)) ∧ W.cell? ⟨b, o + 7, none⟩ = some (.string (ss 1))))
            (first | exact HCw.out _ (below4 (HM.out _ C2) _ (Nat.le_refl _) _ _ _ _) | exact HCw.out _ (HM.out _ C2) | exact HCw.out _ (HM.out _ C1) | exact HCw.out _ (HM.out _ B7d) | exact HCw.out _ (HM.out _ (Below.refl _ _)))
            (first
              | (go_at_call 36; refine (HOr.out _).mono ?_; rintro e w8 ⟨rfl, hb8⟩; have C1 : Below w7.heap.size w7 w8 := btr B7d hb8)
              | (go_at_call 32; refine (HT.out _ _).mono ?_; rintro e w9 ⟨rfl, hb9⟩; have C2 : Below w7.heap.size w7 w9 := btr C1 hb9; obtain ⟨r0, r1, r2, r3, f0, f1, f2, f3⟩ := res_at (HKR.out _ C2)))
          all_goals
            have hrow := HKR.out _ C2
            have HL := Lib.hid (HM.out _ C2)
            clear r0 r1 r2 r3 f0 f1 f2 f3
            go_wp2
            refine bodyPost_ret (v := .tuple #[V 1 (bit ((ordV (kk 0) (nn 0) (dd 0) (ss 0) (kk 1) (nn 1) (dd 1) (ss 1)) != 0)) 0 noS, .int .i64 0]) (results_cell_tmp Tryz.results6 _ _ w.heap.size 25 _ (0, 0) _ rfl (put4 hrow _ _ _ _) Tryz.underlying25 rfl (by rw [info_v4]; rfl)) rfl ⟨rfl, below4 HL.out _ (Nat.le_refl _) _ _ _ _⟩
set_option maxRecDepth 100000 in
set_option maxHeartbeats 1000000 in
theorem R_run15 (w : World) (op : Int) (A : Option Addr) (n cap : Nat) (kk nn dd : Nat → Int) (ss : Nat → ByteArray) (hop : opn op = n) (hn : n ≠ 0) (hn5 : n ≤ 5) (hv : Vals w A n kk nn dd ss) (ho : op = 15) (hn1 : n = 2) (hall : AllOk n kk nn dd ss) (hK : KindsIs w op A n cap true) (rk rn rd : Int) (rs : ByteArray) (hS : SpecIs w op A n cap rk rn rd rs false) (hno : ∀ k, k < n → kk k ≠ 0)  : DoIs w op A n cap 1 (bit (decide ((ordV (kk 0) (nn 0) (dd 0) (ss 0) (kk 1) (nn 1) (dd 1) (ss 1)) < 0))) 0 noS 0 := by
  have HO : Hid (∀ W, Calls Tryz.prog 27 #[.int .i64 op] W fun e w' => e = .returned (.int .i64 (n : Int)) ∧ Below W.heap.size W w') := fun W => by rw [← hop]; exact r_operands op W
  have HV := Lib.hid (fun W (hW : Below w.heap.size w W) => hv.below hW)
  have HC : Hid (∀ k, k < n → ∀ W, Calls Tryz.prog 28 #[V (kk k) (nn k) (dd k) (ss k)] W fun e w' => e = .returned (.int .i64 0) ∧ Below W.heap.size W w') := fun k hk W => by
    have h9 := r_Check (kk k) (nn k) (dd k) (ss k) W (hall k hk).2
    rw [(hall k hk).1] at h9
    exact h9
  have HK := Lib.hid hK
  have HS := Lib.hid hS
  have HN := Lib.hid hno
  have HZ0 : Hid ((ss 0).size ≤ 9223372036854775807) := (hall 0 (by omega)).2
  have HZ1 : Hid ((ss 1).size ≤ 9223372036854775807) := (hall 1 (by omega)).2
  have HO1 := Lib.hid ho
  have HN1 := Lib.hid hn1
  clear ho hn1
  clear hall hK hS hno
  obtain ⟨W0, hW0, hB0, hz0, KR⟩ := valz_box w
  have HB0 := Lib.hid hB0
  have e1 : ((n : Int) == 0) = false := by rw [beq_eq_false_iff_ne]; omega
  have i5 : (n : Int) ≤ 5 := by omega
  clear hB0 hop hv
  unfold DoIs
  go_enter Tryz.func6, Tryz.ntmps6
  go_wp2_with fail
  refine (HO.out _).mono ?_
  rintro e w1 ⟨rfl, hb1⟩
  have B1 := Lib.hid hb1
  clear hb1
  go_wp2_with fail
  refine (HO.out _).mono ?_
  rintro e w2 ⟨rfl, hb2⟩
  have B2 := Lib.hid (btr B1.out hb2)
  clear hb2 HO
  go_wp2
  go_loopw [6] (fun i wr => ∃ k : Nat, k ≤ n ∧ i = .int .i64 k ∧ Hid (Below W0.heap.size W0 wr)) (fun i _ => n - (intOf i).toNat)
  case atStart => exact ⟨0, Nat.zero_le _, rfl, B2.out⟩
  case round =>
    obtain ⟨k, hk, rfl, HB⟩ := hrel
    by_cases hlt : k < n
    · have hkn : k < n := by omega
      obtain ⟨b, o, rfl, hlb, hc⟩ := HV.out wr (btr HB0.out HB.out) (by omega)
      obtain ⟨c0, c1, c2, c3⟩ := hc k hkn
      have hC := HC.out k hlt
      clear hc
      generalize kk k = k0 at *
      generalize nn k = n0 at *
      generalize dd k = d0 at *
      generalize ss k = s0 at *
      go_wp2_with fail
      refine (hC wr).mono ?_
      rintro e w3 ⟨rfl, hb3⟩
      have HB3 : Hid (Below W0.heap.size W0 w3) := btr HB.out hb3
      clear hb3 c0 c1 c2 c3
      go_wp2
      exact ⟨⟨k + 1, by omega, by go_num, HB3⟩, by simp [intOf]; omega⟩
    · obtain rfl : n = k := by omega
      clear HC
      go_wp2_with fail
      refine (HK.out wr (btr HB0.out HB.out)).mono ?_
      rintro e w3 ⟨rfl, hb3⟩
      have B3 := Lib.hid (btr HB.out hb3)
      clear hb3
      go_wp2_with fail
      refine (HS.out w3 (btr HB0.out B3.out)).mono ?_
      rintro e w4 ⟨rfl, hb4⟩
      obtain ⟨w5, hw5, hb5, KV⟩ := kinds_of rk rn rd rs w4
      have B5 := Lib.hid (btr B3.out (btr hb4 hb5))
      clear hb4 hb5
      go_wp2
      go_loopw [9] (fun i wr => ∃ k : Nat, k ≤ n ∧ i = .int .i64 k ∧ Hid (Below W0.heap.size W0 wr)) (fun i _ => n - (intOf i).toNat)
      case atStart => exact ⟨0, Nat.zero_le _, rfl, B5.out⟩
      case round =>
        obtain ⟨i, hi, rfl, HB⟩ := hrel
        by_cases hlt : i < n
        · obtain ⟨b, o, rfl, hlb, hc⟩ := HV.out wr (btr HB0.out HB.out) (by omega)
          obtain ⟨c0, c1, c2, c3⟩ := hc i hlt
          clear hc
          have hk0 : (kk i == 0) = false := by rw [beq_eq_false_iff_ne]; exact HN.out i hlt
          generalize kk i = k0 at *
          go_wp2
          exact ⟨⟨i + 1, by omega, by go_num, HB⟩, by simp [intOf]; omega⟩
        · obtain rfl : n = i := by omega
          have ho := HO1.out
          subst ho
          have hn0 : (0 : Int) < n := by have := HN1.out; omega
          have hnN : 0 < n := by have := HN1.out; omega
          have hn02 : (n : Int) ≤ 5 := by have := HN1.out; omega
          obtain ⟨b, o, rfl, hlb, hc⟩ := HV.out wr (btr HB0.out HB.out) (by omega)
          have h0 : ValIn wr b o (kk 0) (nn 0) (dd 0) (ss 0) := hc 0 (by omega)
          obtain ⟨c0, c1, c2, c3⟩ := h0
          have HNu := Lib.hid (fun W => r_Number (kk 0) (nn 0) (dd 0) (ss 0) W HZ0.out)
          have HC0 : Hid (∀ W, Below wr.heap.size wr W → ValIn W b o (kk 0) (nn 0) (dd 0) (ss 0)) := fun W hW => (hc 0 (by omega)).below hW hlb
          go_wp2_with fail
          refine (HNu.out wr).mono ?_
          rintro e w6 ⟨r, rfl, ⟨sb, A5, m5, c5, A6, m6, c6, rfl⟩, hr, hb6⟩
          obtain ⟨w7, hw7, hb7, hz7, KX⟩ := ref_box w6 sb (.slice A5 m5 c5) (.slice A6 m6 c6)
          have HR := Lib.hid hr
          have B67 := Lib.hid hb7
          have B7 := Lib.hid (btr HB.out (btr hb6 hb7))
          have Bw := Lib.hid (btr hb6 hb7)
          clear hb6 hb7 hr c0 c1 c2 c3
          obtain ⟨b', o', e', hlb', hc'⟩ := HV.out w (Below.refl _ _) (by omega)
          obtain ⟨rfl, rfl⟩ : b = b' ∧ o = o' := by simpa using e'
          have hn1 : (1 : Int) < n := by have := HN1.out; omega
          have HCw : Hid (∀ W, Below w.heap.size w W → (W.cell? ⟨b, o, none⟩ = some (.int .i64 (kk 0)) ∧ W.cell? ⟨b, o + 1, none⟩ = some (.int .i64 (nn 0)) ∧ W.cell? ⟨b, o + 2, none⟩ = some (.int .i64 (dd 0)) ∧ W.cell? ⟨b, o + 3, none⟩ = some (.string (ss 0))) ∧ (W.cell? ⟨b, o + 4, none⟩ = some (.int .i64 (kk 1)) ∧ W.cell? ⟨b, o + 5, none⟩ = some (.int .i64 (nn 1)) ∧ W.cell? ⟨b, o + 6, none⟩ = some (.int .i64 (dd 1)) ∧ W.cell? ⟨b, o + 7, none⟩ = some (.string (ss 1)))) := fun W hW => ⟨(hc' 0 (by omega)).below hW hlb', (hc' 1 (by have := HN1.out; omega)).below hW hlb'⟩
          have HM : Hid (∀ W, Below w7.heap.size w7 W → Below w.heap.size w W) := fun W hW => btr HB0.out (btr B7.out hW)
          have HOr := Lib.hid (fun W => r_Order W (kk 0) (nn 0) (dd 0) (ss 0) (kk 1) (nn 1) (dd 1) (ss 1) HZ0.out HZ1.out)
          have HT := Lib.hid (fun t W => r_TruthB t W)
          have HKR : Hid (∀ W, Below w7.heap.size w7 W → W.heap[w.heap.size]? = some (.cells #[.int .i64 0, .int .i64 0, .int .i64 0, .string ⟨#[]⟩] 25 (0, 0))) := fun W hW => KR.out W (btr B7.out hW)
          clear hc hc'
          go_wp2_with fail
          have B7d : Below w7.heap.size w7 w7.drew := Below.drew (Below.refl _ _)
          go_region_held3 (fun W => (W.cell? ⟨b, o, none⟩ = some (.int .i64 (kk 0)) ∧ W.cell? ⟨b, o + 1, none⟩ = some (.int .i64 (nn 0)) ∧ W.cell? ⟨b, o + 2, none⟩ = some (.int .i64 (dd 0)) ∧ W.cell? ⟨b, o + 3, none⟩ = some (.string (ss 0))) ∧ (W.cell? ⟨b, o + 4, none⟩ = some (.int .i64 (kk 1)) ∧ W.cell? ⟨b, o + 5, none⟩ = some (.int .i64 (nn 1)) ∧ W.cell? ⟨b, o + 6, none⟩ = some (.int .i64 (dd 1)) ∧ W.cell? ⟨b, o + 7, none⟩ = some (.string (ss 1))))
            (first | exact HCw.out _ (below4 (HM.out _ C2) _ (Nat.le_refl _) _ _ _ _) | exact HCw.out _ (HM.out _ C2) | exact HCw.out _ (HM.out _ C1) | exact HCw.out _ (HM.out _ B7d) | exact HCw.out _ (HM.out _ (Below.refl _ _)))
            (first
              | (go_at_call 36; refine (HOr.out _).mono ?_; rintro e w8 ⟨rfl, hb8⟩; have C1 : Below w7.heap.size w7 w8 := btr B7d hb8)
              | (go_at_call 32; refine (HT.out _ _).mono ?_; rintro e w9 ⟨rfl, hb9⟩; have C2 : Below w7.heap.size w7 w9 := btr C1 hb9; obtain ⟨r0, r1, r2, r3, f0, f1, f2, f3⟩ := res_at (HKR.out _ C2)))
          all_goals
            have hrow := HKR.out _ C2
            have HL := Lib.hid (HM.out _ C2)
            clear r0 r1 r2 r3 f0 f1 f2 f3
            go_wp2
            refine bodyPost_ret (v := .tuple #[V 1 (bit (decide ((ordV (kk 0) (nn 0) (dd 0) (ss 0) (kk 1) (nn 1) (dd 1) (ss 1)) < 0))) 0 noS, .int .i64 0]) (results_cell_tmp Tryz.results6 _ _ w.heap.size 25 _ (0, 0) _ rfl (put4 hrow _ _ _ _) Tryz.underlying25 rfl (by rw [info_v4]; rfl)) rfl ⟨rfl, below4 HL.out _ (Nat.le_refl _) _ _ _ _⟩
set_option maxRecDepth 100000 in
set_option maxHeartbeats 1000000 in
theorem R_run16 (w : World) (op : Int) (A : Option Addr) (n cap : Nat) (kk nn dd : Nat → Int) (ss : Nat → ByteArray) (hop : opn op = n) (hn : n ≠ 0) (hn5 : n ≤ 5) (hv : Vals w A n kk nn dd ss) (ho : op = 16) (hn1 : n = 2) (hall : AllOk n kk nn dd ss) (hK : KindsIs w op A n cap true) (rk rn rd : Int) (rs : ByteArray) (hS : SpecIs w op A n cap rk rn rd rs false) (hno : ∀ k, k < n → kk k ≠ 0)  : DoIs w op A n cap 1 (bit (decide ((ordV (kk 0) (nn 0) (dd 0) (ss 0) (kk 1) (nn 1) (dd 1) (ss 1)) ≤ 0))) 0 noS 0 := by
  have HO : Hid (∀ W, Calls Tryz.prog 27 #[.int .i64 op] W fun e w' => e = .returned (.int .i64 (n : Int)) ∧ Below W.heap.size W w') := fun W => by rw [← hop]; exact r_operands op W
  have HV := Lib.hid (fun W (hW : Below w.heap.size w W) => hv.below hW)
  have HC : Hid (∀ k, k < n → ∀ W, Calls Tryz.prog 28 #[V (kk k) (nn k) (dd k) (ss k)] W fun e w' => e = .returned (.int .i64 0) ∧ Below W.heap.size W w') := fun k hk W => by
    have h9 := r_Check (kk k) (nn k) (dd k) (ss k) W (hall k hk).2
    rw [(hall k hk).1] at h9
    exact h9
  have HK := Lib.hid hK
  have HS := Lib.hid hS
  have HN := Lib.hid hno
  have HZ0 : Hid ((ss 0).size ≤ 9223372036854775807) := (hall 0 (by omega)).2
  have HZ1 : Hid ((ss 1).size ≤ 9223372036854775807) := (hall 1 (by omega)).2
  have HO1 := Lib.hid ho
  have HN1 := Lib.hid hn1
  clear ho hn1
  clear hall hK hS hno
  obtain ⟨W0, hW0, hB0, hz0, KR⟩ := valz_box w
  have HB0 := Lib.hid hB0
  have e1 : ((n : Int) == 0) = false := by rw [beq_eq_false_iff_ne]; omega
  have i5 : (n : Int) ≤ 5 := by omega
  clear hB0 hop hv
  unfold DoIs
  go_enter Tryz.func6, Tryz.ntmps6
  go_wp2_with fail
  refine (HO.out _).mono ?_
  rintro e w1 ⟨rfl, hb1⟩
  have B1 := Lib.hid hb1
  clear hb1
  go_wp2_with fail
  refine (HO.out _).mono ?_
  rintro e w2 ⟨rfl, hb2⟩
  have B2 := Lib.hid (btr B1.out hb2)
  clear hb2 HO
  go_wp2
  go_loopw [6] (fun i wr => ∃ k : Nat, k ≤ n ∧ i = .int .i64 k ∧ Hid (Below W0.heap.size W0 wr)) (fun i _ => n - (intOf i).toNat)
  case atStart => exact ⟨0, Nat.zero_le _, rfl, B2.out⟩
  case round =>
    obtain ⟨k, hk, rfl, HB⟩ := hrel
    by_cases hlt : k < n
    · have hkn : k < n := by omega
      obtain ⟨b, o, rfl, hlb, hc⟩ := HV.out wr (btr HB0.out HB.out) (by omega)
      obtain ⟨c0, c1, c2, c3⟩ := hc k hkn
      have hC := HC.out k hlt
      clear hc
      generalize kk k = k0 at *
      generalize nn k = n0 at *
      generalize dd k = d0 at *
      generalize ss k = s0 at *
      go_wp2_with fail
      refine (hC wr).mono ?_
      rintro e w3 ⟨rfl, hb3⟩
      have HB3 : Hid (Below W0.heap.size W0 w3) := btr HB.out hb3
      clear hb3 c0 c1 c2 c3
      go_wp2
      exact ⟨⟨k + 1, by omega, by go_num, HB3⟩, by simp [intOf]; omega⟩
    · obtain rfl : n = k := by omega
      clear HC
      go_wp2_with fail
      refine (HK.out wr (btr HB0.out HB.out)).mono ?_
      rintro e w3 ⟨rfl, hb3⟩
      have B3 := Lib.hid (btr HB.out hb3)
      clear hb3
      go_wp2_with fail
      refine (HS.out w3 (btr HB0.out B3.out)).mono ?_
      rintro e w4 ⟨rfl, hb4⟩
      obtain ⟨w5, hw5, hb5, KV⟩ := kinds_of rk rn rd rs w4
      have B5 := Lib.hid (btr B3.out (btr hb4 hb5))
      clear hb4 hb5
      go_wp2
      go_loopw [9] (fun i wr => ∃ k : Nat, k ≤ n ∧ i = .int .i64 k ∧ Hid (Below W0.heap.size W0 wr)) (fun i _ => n - (intOf i).toNat)
      case atStart => exact ⟨0, Nat.zero_le _, rfl, B5.out⟩
      case round =>
        obtain ⟨i, hi, rfl, HB⟩ := hrel
        by_cases hlt : i < n
        · obtain ⟨b, o, rfl, hlb, hc⟩ := HV.out wr (btr HB0.out HB.out) (by omega)
          obtain ⟨c0, c1, c2, c3⟩ := hc i hlt
          clear hc
          have hk0 : (kk i == 0) = false := by rw [beq_eq_false_iff_ne]; exact HN.out i hlt
          generalize kk i = k0 at *
          go_wp2
          exact ⟨⟨i + 1, by omega, by go_num, HB⟩, by simp [intOf]; omega⟩
        · obtain rfl : n = i := by omega
          have ho := HO1.out
          subst ho
          have hn0 : (0 : Int) < n := by have := HN1.out; omega
          have hnN : 0 < n := by have := HN1.out; omega
          have hn02 : (n : Int) ≤ 5 := by have := HN1.out; omega
          obtain ⟨b, o, rfl, hlb, hc⟩ := HV.out wr (btr HB0.out HB.out) (by omega)
          have h0 : ValIn wr b o (kk 0) (nn 0) (dd 0) (ss 0) := hc 0 (by omega)
          obtain ⟨c0, c1, c2, c3⟩ := h0
          have HNu := Lib.hid (fun W => r_Number (kk 0) (nn 0) (dd 0) (ss 0) W HZ0.out)
          have HC0 : Hid (∀ W, Below wr.heap.size wr W → ValIn W b o (kk 0) (nn 0) (dd 0) (ss 0)) := fun W hW => (hc 0 (by omega)).below hW hlb
          go_wp2_with fail
          refine (HNu.out wr).mono ?_
          rintro e w6 ⟨r, rfl, ⟨sb, A5, m5, c5, A6, m6, c6, rfl⟩, hr, hb6⟩
          obtain ⟨w7, hw7, hb7, hz7, KX⟩ := ref_box w6 sb (.slice A5 m5 c5) (.slice A6 m6 c6)
          have HR := Lib.hid hr
          have B67 := Lib.hid hb7
          have B7 := Lib.hid (btr HB.out (btr hb6 hb7))
          have Bw := Lib.hid (btr hb6 hb7)
          clear hb6 hb7 hr c0 c1 c2 c3
          obtain ⟨b', o', e', hlb', hc'⟩ := HV.out w (Below.refl _ _) (by omega)
          obtain ⟨rfl, rfl⟩ : b = b' ∧ o = o' := by simpa using e'
          have hn1 : (1 : Int) < n := by have := HN1.out; omega
          have HCw : Hid (∀ W, Below w.heap.size w W → (W.cell? ⟨b, o, none⟩ = some (.int .i64 (kk 0)) ∧ W.cell? ⟨b, o + 1, none⟩ = some (.int .i64 (nn 0)) ∧ W.cell? ⟨b, o + 2, none⟩ = some (.int .i64 (dd 0)) ∧ W.cell? ⟨b, o + 3, none⟩ = some (.string (ss 0))) ∧ (W.cell? ⟨b, o + 4, none⟩ = some (.int .i64 (kk 1)) ∧ W.cell? ⟨b, o + 5, none⟩ = some (.int .i64 (nn 1)) ∧ W.cell? ⟨b, o + 6, none⟩ = some (.int .i64 (dd 1)) ∧ W.cell? ⟨b, o + 7, none⟩ = some (.string (ss 1)))) := fun W hW => ⟨(hc' 0 (by omega)).below hW hlb', (hc' 1 (by have := HN1.out; omega)).below hW hlb'⟩
          have HM : Hid (∀ W, Below w7.heap.size w7 W → Below w.heap.size w W) := fun W hW => btr HB0.out (btr B7.out hW)
          have HOr := Lib.hid (fun W => r_Order W (kk 0) (nn 0) (dd 0) (ss 0) (kk 1) (nn 1) (dd 1) (ss 1) HZ0.out HZ1.out)
          have HT := Lib.hid (fun t W => r_TruthB t W)
          have HKR : Hid (∀ W, Below w7.heap.size w7 W → W.heap[w.heap.size]? = some (.cells #[.int .i64 0, .int .i64 0, .int .i64 0, .string ⟨#[]⟩] 25 (0, 0))) := fun W hW => KR.out W (btr B7.out hW)
          clear hc hc'
          go_wp2_with fail
          have B7d : Below w7.heap.size w7 w7.drew := Below.drew (Below.refl _ _)
          go_region_held3 (fun W => (W.cell? ⟨b, o, none⟩ = some (.int .i64 (kk 0)) ∧ W.cell? ⟨b, o + 1, none⟩ = some (.int .i64 (nn 0)) ∧ W.cell? ⟨b, o + 2, none⟩ = some (.int .i64 (dd 0)) ∧ W.cell? ⟨b, o + 3, none⟩ = some (.string (ss 0))) ∧ (W.cell? ⟨b, o + 4, none⟩ = some (.int .i64 (kk 1)) ∧ W.cell? ⟨b, o + 5, none⟩ = some (.int .i64 (nn 1)) ∧ W.cell? ⟨b, o + 6, none⟩ = some (.int .i64 (dd 1)) ∧ W.cell? ⟨b, o + 7, none⟩ = some (.string (ss 1))))
            (first | exact HCw.out _ (below4 (HM.out _ C2) _ (Nat.le_refl _) _ _ _ _) | exact HCw.out _ (HM.out _ C2) | exact HCw.out _ (HM.out _ C1) | exact HCw.out _ (HM.out _ B7d) | exact HCw.out _ (HM.out _ (Below.refl _ _)))
            (first
              | (go_at_call 36; refine (HOr.out _).mono ?_; rintro e w8 ⟨rfl, hb8⟩; have C1 : Below w7.heap.size w7 w8 := btr B7d hb8)
              | (go_at_call 32; refine (HT.out _ _).mono ?_; rintro e w9 ⟨rfl, hb9⟩; have C2 : Below w7.heap.size w7 w9 := btr C1 hb9; obtain ⟨r0, r1, r2, r3, f0, f1, f2, f3⟩ := res_at (HKR.out _ C2)))
          all_goals
            have hrow := HKR.out _ C2
            have HL := Lib.hid (HM.out _ C2)
            clear r0 r1 r2 r3 f0 f1 f2 f3
            go_wp2
            refine bodyPost_ret (v := .tuple #[V 1 (bit (decide ((ordV (kk 0) (nn 0) (dd 0) (ss 0) (kk 1) (nn 1) (dd 1) (ss 1)) ≤ 0))) 0 noS, .int .i64 0]) (results_cell_tmp Tryz.results6 _ _ w.heap.size 25 _ (0, 0) _ rfl (put4 hrow _ _ _ _) Tryz.underlying25 rfl (by rw [info_v4]; rfl)) rfl ⟨rfl, below4 HL.out _ (Nat.le_refl _) _ _ _ _⟩
set_option maxRecDepth 100000 in
set_option maxHeartbeats 1000000 in
theorem R_run17 (w : World) (op : Int) (A : Option Addr) (n cap : Nat) (kk nn dd : Nat → Int) (ss : Nat → ByteArray) (hop : opn op = n) (hn : n ≠ 0) (hn5 : n ≤ 5) (hv : Vals w A n kk nn dd ss) (ho : op = 17) (hn1 : n = 2) (hall : AllOk n kk nn dd ss) (hK : KindsIs w op A n cap true) (rk rn rd : Int) (rs : ByteArray) (hS : SpecIs w op A n cap rk rn rd rs false) (hno : ∀ k, k < n → kk k ≠ 0)  : DoIs w op A n cap 1 (bit (decide (0 < (ordV (kk 0) (nn 0) (dd 0) (ss 0) (kk 1) (nn 1) (dd 1) (ss 1))))) 0 noS 0 := by
  have HO : Hid (∀ W, Calls Tryz.prog 27 #[.int .i64 op] W fun e w' => e = .returned (.int .i64 (n : Int)) ∧ Below W.heap.size W w') := fun W => by rw [← hop]; exact r_operands op W
  have HV := Lib.hid (fun W (hW : Below w.heap.size w W) => hv.below hW)
  have HC : Hid (∀ k, k < n → ∀ W, Calls Tryz.prog 28 #[V (kk k) (nn k) (dd k) (ss k)] W fun e w' => e = .returned (.int .i64 0) ∧ Below W.heap.size W w') := fun k hk W => by
    have h9 := r_Check (kk k) (nn k) (dd k) (ss k) W (hall k hk).2
    rw [(hall k hk).1] at h9
    exact h9
  have HK := Lib.hid hK
  have HS := Lib.hid hS
  have HN := Lib.hid hno
  have HZ0 : Hid ((ss 0).size ≤ 9223372036854775807) := (hall 0 (by omega)).2
  have HZ1 : Hid ((ss 1).size ≤ 9223372036854775807) := (hall 1 (by omega)).2
  have HO1 := Lib.hid ho
  have HN1 := Lib.hid hn1
  clear ho hn1
  clear hall hK hS hno
  obtain ⟨W0, hW0, hB0, hz0, KR⟩ := valz_box w
  have HB0 := Lib.hid hB0
  have e1 : ((n : Int) == 0) = false := by rw [beq_eq_false_iff_ne]; omega
  have i5 : (n : Int) ≤ 5 := by omega
  clear hB0 hop hv
  unfold DoIs
  go_enter Tryz.func6, Tryz.ntmps6
  go_wp2_with fail
  refine (HO.out _).mono ?_
  rintro e w1 ⟨rfl, hb1⟩
  have B1 := Lib.hid hb1
  clear hb1
  go_wp2_with fail
  refine (HO.out _).mono ?_
  rintro e w2 ⟨rfl, hb2⟩
  have B2 := Lib.hid (btr B1.out hb2)
  clear hb2 HO
  go_wp2
  go_loopw [6] (fun i wr => ∃ k : Nat, k ≤ n ∧ i = .int .i64 k ∧ Hid (Below W0.heap.size W0 wr)) (fun i _ => n - (intOf i).toNat)
  case atStart => exact ⟨0, Nat.zero_le _, rfl, B2.out⟩
  case round =>
    obtain ⟨k, hk, rfl, HB⟩ := hrel
    by_cases hlt : k < n
    · have hkn : k < n := by omega
      obtain ⟨b, o, rfl, hlb, hc⟩ := HV.out wr (btr HB0.out HB.out) (by omega)
      obtain ⟨c0, c1, c2, c3⟩ := hc k hkn
      have hC := HC.out k hlt
      clear hc
      generalize kk k = k0 at *
      generalize nn k = n0 at *
      generalize dd k = d0 at *
      generalize ss k = s0 at *
      go_wp2_with fail
      refine (hC wr).mono ?_
      rintro e w3 ⟨rfl, hb3⟩
      have HB3 : Hid (Below W0.heap.size W0 w3) := btr HB.out hb3
      clear hb3 c0 c1 c2 c3
      go_wp2
      exact ⟨⟨k + 1, by omega, by go_num, HB3⟩, by simp [intOf]; omega⟩
    · obtain rfl : n = k := by omega
      clear HC
      go_wp2_with fail
      refine (HK.out wr (btr HB0.out HB.out)).mono ?_
      rintro e w3 ⟨rfl, hb3⟩
      have B3 := Lib.hid (btr HB.out hb3)
      clear hb3
      go_wp2_with fail
      refine (HS.out w3 (btr HB0.out B3.out)).mono ?_
      rintro e w4 ⟨rfl, hb4⟩
      obtain ⟨w5, hw5, hb5, KV⟩ := kinds_of rk rn rd rs w4
      have B5 := Lib.hid (btr B3.out (btr hb4 hb5))
      clear hb4 hb5
      go_wp2
      go_loopw [9] (fun i wr => ∃ k : Nat, k ≤ n ∧ i = .int .i64 k ∧ Hid (Below W0.heap.size W0 wr)) (fun i _ => n - (intOf i).toNat)
      case atStart => exact ⟨0, Nat.zero_le _, rfl, B5.out⟩
      case round =>
        obtain ⟨i, hi, rfl, HB⟩ := hrel
        by_cases hlt : i < n
        · obtain ⟨b, o, rfl, hlb, hc⟩ := HV.out wr (btr HB0.out HB.out) (by omega)
          obtain ⟨c0, c1, c2, c3⟩ := hc i hlt
          clear hc
          have hk0 : (kk i == 0) = false := by rw [beq_eq_false_iff_ne]; exact HN.out i hlt
          generalize kk i = k0 at *
          go_wp2
          exact ⟨⟨i + 1, by omega, by go_num, HB⟩, by simp [intOf]; omega⟩
        · obtain rfl : n = i := by omega
          have ho := HO1.out
          subst ho
          have hn0 : (0 : Int) < n := by have := HN1.out; omega
          have hnN : 0 < n := by have := HN1.out; omega
          have hn02 : (n : Int) ≤ 5 := by have := HN1.out; omega
          obtain ⟨b, o, rfl, hlb, hc⟩ := HV.out wr (btr HB0.out HB.out) (by omega)
          have h0 : ValIn wr b o (kk 0) (nn 0) (dd 0) (ss 0) := hc 0 (by omega)
          obtain ⟨c0, c1, c2, c3⟩ := h0
          have HNu := Lib.hid (fun W => r_Number (kk 0) (nn 0) (dd 0) (ss 0) W HZ0.out)
          have HC0 : Hid (∀ W, Below wr.heap.size wr W → ValIn W b o (kk 0) (nn 0) (dd 0) (ss 0)) := fun W hW => (hc 0 (by omega)).below hW hlb
          go_wp2_with fail
          refine (HNu.out wr).mono ?_
          rintro e w6 ⟨r, rfl, ⟨sb, A5, m5, c5, A6, m6, c6, rfl⟩, hr, hb6⟩
          obtain ⟨w7, hw7, hb7, hz7, KX⟩ := ref_box w6 sb (.slice A5 m5 c5) (.slice A6 m6 c6)
          have HR := Lib.hid hr
          have B67 := Lib.hid hb7
          have B7 := Lib.hid (btr HB.out (btr hb6 hb7))
          have Bw := Lib.hid (btr hb6 hb7)
          clear hb6 hb7 hr c0 c1 c2 c3
          obtain ⟨b', o', e', hlb', hc'⟩ := HV.out w (Below.refl _ _) (by omega)
          obtain ⟨rfl, rfl⟩ : b = b' ∧ o = o' := by simpa using e'
          have hn1 : (1 : Int) < n := by have := HN1.out; omega
          have HCw : Hid (∀ W, Below w.heap.size w W → (W.cell? ⟨b, o, none⟩ = some (.int .i64 (kk 0)) ∧ W.cell? ⟨b, o + 1, none⟩ = some (.int .i64 (nn 0)) ∧ W.cell? ⟨b, o + 2, none⟩ = some (.int .i64 (dd 0)) ∧ W.cell? ⟨b, o + 3, none⟩ = some (.string (ss 0))) ∧ (W.cell? ⟨b, o + 4, none⟩ = some (.int .i64 (kk 1)) ∧ W.cell? ⟨b, o + 5, none⟩ = some (.int .i64 (nn 1)) ∧ W.cell? ⟨b, o + 6, none⟩ = some (.int .i64 (dd 1)) ∧ W.cell? ⟨b, o + 7, none⟩ = some (.string (ss 1)))) := fun W hW => ⟨(hc' 0 (by omega)).below hW hlb', (hc' 1 (by have := HN1.out; omega)).below hW hlb'⟩
          have HM : Hid (∀ W, Below w7.heap.size w7 W → Below w.heap.size w W) := fun W hW => btr HB0.out (btr B7.out hW)
          have HOr := Lib.hid (fun W => r_Order W (kk 0) (nn 0) (dd 0) (ss 0) (kk 1) (nn 1) (dd 1) (ss 1) HZ0.out HZ1.out)
          have HT := Lib.hid (fun t W => r_TruthB t W)
          have HKR : Hid (∀ W, Below w7.heap.size w7 W → W.heap[w.heap.size]? = some (.cells #[.int .i64 0, .int .i64 0, .int .i64 0, .string ⟨#[]⟩] 25 (0, 0))) := fun W hW => KR.out W (btr B7.out hW)
          clear hc hc'
          go_wp2_with fail
          have B7d : Below w7.heap.size w7 w7.drew := Below.drew (Below.refl _ _)
          go_region_held3 (fun W => (W.cell? ⟨b, o, none⟩ = some (.int .i64 (kk 0)) ∧ W.cell? ⟨b, o + 1, none⟩ = some (.int .i64 (nn 0)) ∧ W.cell? ⟨b, o + 2, none⟩ = some (.int .i64 (dd 0)) ∧ W.cell? ⟨b, o + 3, none⟩ = some (.string (ss 0))) ∧ (W.cell? ⟨b, o + 4, none⟩ = some (.int .i64 (kk 1)) ∧ W.cell? ⟨b, o + 5, none⟩ = some (.int .i64 (nn 1)) ∧ W.cell? ⟨b, o + 6, none⟩ = some (.int .i64 (dd 1)) ∧ W.cell? ⟨b, o + 7, none⟩ = some (.string (ss 1))))
            (first | exact HCw.out _ (below4 (HM.out _ C2) _ (Nat.le_refl _) _ _ _ _) | exact HCw.out _ (HM.out _ C2) | exact HCw.out _ (HM.out _ C1) | exact HCw.out _ (HM.out _ B7d) | exact HCw.out _ (HM.out _ (Below.refl _ _)))
            (first
              | (go_at_call 36; refine (HOr.out _).mono ?_; rintro e w8 ⟨rfl, hb8⟩; have C1 : Below w7.heap.size w7 w8 := btr B7d hb8)
              | (go_at_call 32; refine (HT.out _ _).mono ?_; rintro e w9 ⟨rfl, hb9⟩; have C2 : Below w7.heap.size w7 w9 := btr C1 hb9; obtain ⟨r0, r1, r2, r3, f0, f1, f2, f3⟩ := res_at (HKR.out _ C2)))
          all_goals
            have hrow := HKR.out _ C2
            have HL := Lib.hid (HM.out _ C2)
            clear r0 r1 r2 r3 f0 f1 f2 f3
            go_wp2
            refine bodyPost_ret (v := .tuple #[V 1 (bit (decide (0 < (ordV (kk 0) (nn 0) (dd 0) (ss 0) (kk 1) (nn 1) (dd 1) (ss 1))))) 0 noS, .int .i64 0]) (results_cell_tmp Tryz.results6 _ _ w.heap.size 25 _ (0, 0) _ rfl (put4 hrow _ _ _ _) Tryz.underlying25 rfl (by rw [info_v4]; rfl)) rfl ⟨rfl, below4 HL.out _ (Nat.le_refl _) _ _ _ _⟩
set_option maxRecDepth 100000 in
set_option maxHeartbeats 1000000 in
theorem R_run18 (w : World) (op : Int) (A : Option Addr) (n cap : Nat) (kk nn dd : Nat → Int) (ss : Nat → ByteArray) (hop : opn op = n) (hn : n ≠ 0) (hn5 : n ≤ 5) (hv : Vals w A n kk nn dd ss) (ho : op = 18) (hn1 : n = 2) (hall : AllOk n kk nn dd ss) (hK : KindsIs w op A n cap true) (rk rn rd : Int) (rs : ByteArray) (hS : SpecIs w op A n cap rk rn rd rs false) (hno : ∀ k, k < n → kk k ≠ 0)  : DoIs w op A n cap 1 (bit (decide (0 ≤ (ordV (kk 0) (nn 0) (dd 0) (ss 0) (kk 1) (nn 1) (dd 1) (ss 1))))) 0 noS 0 := by
  have HO : Hid (∀ W, Calls Tryz.prog 27 #[.int .i64 op] W fun e w' => e = .returned (.int .i64 (n : Int)) ∧ Below W.heap.size W w') := fun W => by rw [← hop]; exact r_operands op W
  have HV := Lib.hid (fun W (hW : Below w.heap.size w W) => hv.below hW)
  have HC : Hid (∀ k, k < n → ∀ W, Calls Tryz.prog 28 #[V (kk k) (nn k) (dd k) (ss k)] W fun e w' => e = .returned (.int .i64 0) ∧ Below W.heap.size W w') := fun k hk W => by
    have h9 := r_Check (kk k) (nn k) (dd k) (ss k) W (hall k hk).2
    rw [(hall k hk).1] at h9
    exact h9
  have HK := Lib.hid hK
  have HS := Lib.hid hS
  have HN := Lib.hid hno
  have HZ0 : Hid ((ss 0).size ≤ 9223372036854775807) := (hall 0 (by omega)).2
  have HZ1 : Hid ((ss 1).size ≤ 9223372036854775807) := (hall 1 (by omega)).2
  have HO1 := Lib.hid ho
  have HN1 := Lib.hid hn1
  clear ho hn1
  clear hall hK hS hno
  obtain ⟨W0, hW0, hB0, hz0, KR⟩ := valz_box w
  have HB0 := Lib.hid hB0
  have e1 : ((n : Int) == 0) = false := by rw [beq_eq_false_iff_ne]; omega
  have i5 : (n : Int) ≤ 5 := by omega
  clear hB0 hop hv
  unfold DoIs
  go_enter Tryz.func6, Tryz.ntmps6
  go_wp2_with fail
  refine (HO.out _).mono ?_
  rintro e w1 ⟨rfl, hb1⟩
  have B1 := Lib.hid hb1
  clear hb1
  go_wp2_with fail
  refine (HO.out _).mono ?_
  rintro e w2 ⟨rfl, hb2⟩
  have B2 := Lib.hid (btr B1.out hb2)
  clear hb2 HO
  go_wp2
  go_loopw [6] (fun i wr => ∃ k : Nat, k ≤ n ∧ i = .int .i64 k ∧ Hid (Below W0.heap.size W0 wr)) (fun i _ => n - (intOf i).toNat)
  case atStart => exact ⟨0, Nat.zero_le _, rfl, B2.out⟩
  case round =>
    obtain ⟨k, hk, rfl, HB⟩ := hrel
    by_cases hlt : k < n
    · have hkn : k < n := by omega
      obtain ⟨b, o, rfl, hlb, hc⟩ := HV.out wr (btr HB0.out HB.out) (by omega)
      obtain ⟨c0, c1, c2, c3⟩ := hc k hkn
      have hC := HC.out k hlt
      clear hc
      generalize kk k = k0 at *
      generalize nn k = n0 at *
      generalize dd k = d0 at *
      generalize ss k = s0 at *
      go_wp2_with fail
      refine (hC wr).mono ?_
      rintro e w3 ⟨rfl, hb3⟩
      have HB3 : Hid (Below W0.heap.size W0 w3) := btr HB.out hb3
      clear hb3 c0 c1 c2 c3
      go_wp2
      exact ⟨⟨k + 1, by omega, by go_num, HB3⟩, by simp [intOf]; omega⟩
    · obtain rfl : n = k := by omega
      clear HC
      go_wp2_with fail
      refine (HK.out wr (btr HB0.out HB.out)).mono ?_
      rintro e w3 ⟨rfl, hb3⟩
      have B3 := Lib.hid (btr HB.out hb3)
      clear hb3
      go_wp2_with fail
      refine (HS.out w3 (btr HB0.out B3.out)).mono ?_
      rintro e w4 ⟨rfl, hb4⟩
      obtain ⟨w5, hw5, hb5, KV⟩ := kinds_of rk rn rd rs w4
      have B5 := Lib.hid (btr B3.out (btr hb4 hb5))
      clear hb4 hb5
      go_wp2
      go_loopw [9] (fun i wr => ∃ k : Nat, k ≤ n ∧ i = .int .i64 k ∧ Hid (Below W0.heap.size W0 wr)) (fun i _ => n - (intOf i).toNat)
      case atStart => exact ⟨0, Nat.zero_le _, rfl, B5.out⟩
      case round =>
        obtain ⟨i, hi, rfl, HB⟩ := hrel
        by_cases hlt : i < n
        · obtain ⟨b, o, rfl, hlb, hc⟩ := HV.out wr (btr HB0.out HB.out) (by omega)
          obtain ⟨c0, c1, c2, c3⟩ := hc i hlt
          clear hc
          have hk0 : (kk i == 0) = false := by rw [beq_eq_false_iff_ne]; exact HN.out i hlt
          generalize kk i = k0 at *
          go_wp2
          exact ⟨⟨i + 1, by omega, by go_num, HB⟩, by simp [intOf]; omega⟩
        · obtain rfl : n = i := by omega
          have ho := HO1.out
          subst ho
          have hn0 : (0 : Int) < n := by have := HN1.out; omega
          have hnN : 0 < n := by have := HN1.out; omega
          have hn02 : (n : Int) ≤ 5 := by have := HN1.out; omega
          obtain ⟨b, o, rfl, hlb, hc⟩ := HV.out wr (btr HB0.out HB.out) (by omega)
          have h0 : ValIn wr b o (kk 0) (nn 0) (dd 0) (ss 0) := hc 0 (by omega)
          obtain ⟨c0, c1, c2, c3⟩ := h0
          have HNu := Lib.hid (fun W => r_Number (kk 0) (nn 0) (dd 0) (ss 0) W HZ0.out)
          have HC0 : Hid (∀ W, Below wr.heap.size wr W → ValIn W b o (kk 0) (nn 0) (dd 0) (ss 0)) := fun W hW => (hc 0 (by omega)).below hW hlb
          go_wp2_with fail
          refine (HNu.out wr).mono ?_
          rintro e w6 ⟨r, rfl, ⟨sb, A5, m5, c5, A6, m6, c6, rfl⟩, hr, hb6⟩
          obtain ⟨w7, hw7, hb7, hz7, KX⟩ := ref_box w6 sb (.slice A5 m5 c5) (.slice A6 m6 c6)
          have HR := Lib.hid hr
          have B67 := Lib.hid hb7
          have B7 := Lib.hid (btr HB.out (btr hb6 hb7))
          have Bw := Lib.hid (btr hb6 hb7)
          clear hb6 hb7 hr c0 c1 c2 c3
          obtain ⟨b', o', e', hlb', hc'⟩ := HV.out w (Below.refl _ _) (by omega)
          obtain ⟨rfl, rfl⟩ : b = b' ∧ o = o' := by simpa using e'
          have hn1 : (1 : Int) < n := by have := HN1.out; omega
          have HCw : Hid (∀ W, Below w.heap.size w W → (W.cell? ⟨b, o, none⟩ = some (.int .i64 (kk 0)) ∧ W.cell? ⟨b, o + 1, none⟩ = some (.int .i64 (nn 0)) ∧ W.cell? ⟨b, o + 2, none⟩ = some (.int .i64 (dd 0)) ∧ W.cell? ⟨b, o + 3, none⟩ = some (.string (ss 0))) ∧ (W.cell? ⟨b, o + 4, none⟩ = some (.int .i64 (kk 1)) ∧ W.cell? ⟨b, o + 5, none⟩ = some (.int .i64 (nn 1)) ∧ W.cell? ⟨b, o + 6, none⟩ = some (.int .i64 (dd 1)) ∧ W.cell? ⟨b, o + 7, none⟩ = some (.string (ss 1)))) := fun W hW => ⟨(hc' 0 (by omega)).below hW hlb', (hc' 1 (by have := HN1.out; omega)).below hW hlb'⟩
          have HM : Hid (∀ W, Below w7.heap.size w7 W → Below w.heap.size w W) := fun W hW => btr HB0.out (btr B7.out hW)
          have HOr := Lib.hid (fun W => r_Order W (kk 0) (nn 0) (dd 0) (ss 0) (kk 1) (nn 1) (dd 1) (ss 1) HZ0.out HZ1.out)
          have HT := Lib.hid (fun t W => r_TruthB t W)
          have HKR : Hid (∀ W, Below w7.heap.size w7 W → W.heap[w.heap.size]? = some (.cells #[.int .i64 0, .int .i64 0, .int .i64 0, .string ⟨#[]⟩] 25 (0, 0))) := fun W hW => KR.out W (btr B7.out hW)
          clear hc hc'
          go_wp2_with fail
          have B7d : Below w7.heap.size w7 w7.drew := Below.drew (Below.refl _ _)
          go_region_held3 (fun W => (W.cell? ⟨b, o, none⟩ = some (.int .i64 (kk 0)) ∧ W.cell? ⟨b, o + 1, none⟩ = some (.int .i64 (nn 0)) ∧ W.cell? ⟨b, o + 2, none⟩ = some (.int .i64 (dd 0)) ∧ W.cell? ⟨b, o + 3, none⟩ = some (.string (ss 0))) ∧ (W.cell? ⟨b, o + 4, none⟩ = some (.int .i64 (kk 1)) ∧ W.cell? ⟨b, o + 5, none⟩ = some (.int .i64 (nn 1)) ∧ W.cell? ⟨b, o + 6, none⟩ = some (.int .i64 (dd 1)) ∧ W.cell? ⟨b, o + 7, none⟩ = some (.string (ss 1))))
            (first | exact HCw.out _ (below4 (HM.out _ C2) _ (Nat.le_refl _) _ _ _ _) | exact HCw.out _ (HM.out _ C2) | exact HCw.out _ (HM.out _ C1) | exact HCw.out _ (HM.out _ B7d) | exact HCw.out _ (HM.out _ (Below.refl _ _)))
            (first
              | (go_at_call 36; refine (HOr.out _).mono ?_; rintro e w8 ⟨rfl, hb8⟩; have C1 : Below w7.heap.size w7 w8 := btr B7d hb8)
              | (go_at_call 32; refine (HT.out _ _).mono ?_; rintro e w9 ⟨rfl, hb9⟩; have C2 : Below w7.heap.size w7 w9 := btr C1 hb9; obtain ⟨r0, r1, r2, r3, f0, f1, f2, f3⟩ := res_at (HKR.out _ C2)))
          all_goals
            have hrow := HKR.out _ C2
            have HL := Lib.hid (HM.out _ C2)
            clear r0 r1 r2 r3 f0 f1 f2 f3
            go_wp2
            refine bodyPost_ret (v := .tuple #[V 1 (bit (decide (0 ≤ (ordV (kk 0) (nn 0) (dd 0) (ss 0) (kk 1) (nn 1) (dd 1) (ss 1))))) 0 noS, .int .i64 0]) (results_cell_tmp Tryz.results6 _ _ w.heap.size 25 _ (0, 0) _ rfl (put4 hrow _ _ _ _) Tryz.underlying25 rfl (by rw [info_v4]; rfl)) rfl ⟨rfl, below4 HL.out _ (Nat.le_refl _) _ _ _ _⟩
end Go.Proofs.YtnfncdalneifnaaGreatDoor
end

/- The reference's sums of two numbers. -/
import Derived.Test.YtoiihehlgfgikaaGreatDoorZSame
import Derived.Test.YtoiihehlgfgikaaGreatDoorZSumG
import Derived.StillTailTactics

/- The reference's sums of two numbers. -/
section
namespace Go.Proofs.YtoiihehlgfgikaaGreatDoor
open Go.RowKit Go.Deep

/-- The three parts of a sum that is reduced once. -/
theorem ref_add (p q : Rat) : sgn (sumS (decide (p.num < 0)) (p.num.natAbs * q.den) (decide (q.num < 0)) (q.num.natAbs * p.den))
      (sumN (decide (p.num < 0)) (p.num.natAbs * q.den) (decide (q.num < 0)) (q.num.natAbs * p.den) / Nat.gcd (sumN (decide (p.num < 0)) (p.num.natAbs * q.den) (decide (q.num < 0)) (q.num.natAbs * p.den)) (p.den * q.den)) = decide ((p + q).num < 0) ∧
    sumN (decide (p.num < 0)) (p.num.natAbs * q.den) (decide (q.num < 0)) (q.num.natAbs * p.den) / Nat.gcd (sumN (decide (p.num < 0)) (p.num.natAbs * q.den) (decide (q.num < 0)) (q.num.natAbs * p.den)) (p.den * q.den) = (p + q).num.natAbs ∧
    p.den * q.den / Nat.gcd (sumN (decide (p.num < 0)) (p.num.natAbs * q.den) (decide (q.num < 0)) (q.num.natAbs * p.den)) (p.den * q.den) = (p + q).den := by
  have hM : sInt (decide (p.num < 0)) (p.num.natAbs * q.den) + sInt (decide (q.num < 0)) (q.num.natAbs * p.den) = p.num * q.den + q.num * p.den := by
    rw [sInt_mul, sInt_mul, sInt_of, sInt_of]
  have hN := sumN_int (decide (p.num < 0)) (decide (q.num < 0)) (p.num.natAbs * q.den) (q.num.natAbs * p.den)
  have hs := sgn_sum (decide (p.num < 0)) (decide (q.num < 0)) (p.num.natAbs * q.den) (q.num.natAbs * p.den)
  rw [hM] at hN hs
  have hD : 0 < p.den * q.den := Nat.mul_pos p.den_pos q.den_pos
  have hadd := Rat.add_def p q
  rw [Rat.normalize_eq] at hadd
  have en : (p + q).num = (p.num * (q.den : Int) + q.num * (p.den : Int)) / ((Nat.gcd (p.num * (q.den : Int) + q.num * (p.den : Int)).natAbs (p.den * q.den) : Nat) : Int) := by rw [hadd]
  have ed : (p + q).den = p.den * q.den / Nat.gcd (p.num * (q.den : Int) + q.num * (p.den : Int)).natAbs (p.den * q.den) := by rw [hadd]
  rw [en, ed]
  clear hadd en ed
  generalize sumS (decide (p.num < 0)) (p.num.natAbs * q.den) (decide (q.num < 0)) (q.num.natAbs * p.den) = S at *
  rw [hN] at hs ⊢
  have hg0 : 0 < Nat.gcd (p.num * (q.den : Int) + q.num * (p.den : Int)).natAbs (p.den * q.den) := Nat.gcd_pos_of_pos_right _ hD
  have hcM : ((Nat.gcd (p.num * (q.den : Int) + q.num * (p.den : Int)).natAbs (p.den * q.den) : Nat) : Int) ∣ p.num * (q.den : Int) + q.num * (p.den : Int) := by
    rw [← Int.natAbs_dvd_natAbs]; exact Nat.gcd_dvd_left _ _
  generalize hgg : Nat.gcd (p.num * (q.den : Int) + q.num * (p.den : Int)).natAbs (p.den * q.den) = c at *
  generalize p.num * (q.den : Int) + q.num * (p.den : Int) = M at *
  obtain ⟨m, rfl⟩ := hcM
  have hc1 : (c : Int) * m / c = m := Int.mul_ediv_cancel_left _ (by omega)
  have hc2 : ((c : Int) * m).natAbs / c = m.natAbs := by rw [Int.natAbs_mul, Int.natAbs_natCast, Nat.mul_div_cancel_left _ hg0]
  rw [hc1, hc2]
  refine ⟨?_, rfl, rfl⟩
  rw [hs m.natAbs (by rw [Int.natAbs_mul, Int.natAbs_natCast]; exact ⟨fun h => Nat.mul_pos hg0 h, fun h => Nat.pos_of_mul_pos_left h⟩), decide_eq_decide]
  constructor
  · intro h9
    rcases (by omega : m < 0 ∨ 0 ≤ m) with h8 | h8
    · exact h8
    · have := Int.mul_nonneg (show (0 : Int) ≤ c by omega) h8
      omega
  · intro h9
    exact Int.mul_neg_of_pos_of_neg (by omega) h9
theorem refW_mul (a b k l : Nat) (ha : nw9 a ≤ k) (hb : nw9 b ≤ l) : nw9 (a * b) ≤ k + l := Nat.le_trans (nw_mul9 a b) (Nat.add_le_add ha hb)

/-- The result's variable, before anything is stored. -/
theorem res_r {W : World} {r : Nat} (h : W.heap[r]? = some (.cells #[.bool false, .slice none 0 0, .slice none 0 0] 28 (0, 0))) :
    W.cell? ⟨r, 0, none⟩ = some (.bool false) ∧ W.cell? ⟨r, 1, none⟩ = some (.slice none 0 0) ∧ W.cell? ⟨r, 2, none⟩ = some (.slice none 0 0) ∧ W.frozen? ⟨r, 0, none⟩ = false ∧ W.frozen? ⟨r, 1, none⟩ = false ∧ W.frozen? ⟨r, 2, none⟩ = false := by
  refine ⟨by rw [cell_of_row _ _ _ _ _ _ h]; rfl, by rw [cell_of_row _ _ _ _ _ _ h]; rfl, by rw [cell_of_row _ _ _ _ _ _ h]; rfl, ?_, ?_, ?_⟩ <;> simp [World.frozen?, h]
theorem put3 {W : World} {r : Nat} (h : W.heap[r]? = some (.cells #[.bool false, .slice none 0 0, .slice none 0 0] 28 (0, 0))) (a b c : Value) :
    (((W.setCell ⟨r, 0, none⟩ a).setCell ⟨r, 1, none⟩ b).setCell ⟨r, 2, none⟩ c).heap[r]? = some (.cells #[a, b, c] 28 (0, 0)) := by
  simp [World.setCell, Array.getElem?_modify, h]
theorem grown3 (W : World) (r : Nat) (a b c : Value) : W.grownBy (((W.setCell ⟨r, 0, none⟩ a).setCell ⟨r, 1, none⟩ b).setCell ⟨r, 2, none⟩ c) (some r) :=
  ⟨rfl, rfl, rfl, by simp [World.setCell], fun k _ hne => by
    have hk : k ≠ r := fun e => hne (by rw [e])
    rw [Below.heap_setCell _ _ _ _ hk, Below.heap_setCell _ _ _ _ hk, Below.heap_setCell _ _ _ _ hk]⟩

set_option maxHeartbeats 1000000 in
theorem r_Zero (w : World) : Calls Tryz.prog 50 #[] w fun e w' => ∃ r, e = .returned r ∧ RefV w' r 0 ∧ Below w.heap.size w w' := by
  obtain ⟨W0, hW0, hB0, hz0, KR⟩ := zero_box w
  have HB0 := Lib.hid hB0
  clear hB0
  go_enter Tryz.func50, Tryz.ntmps50
  go_wp2_with fail
  refine (r_one W0).mono ?_
  rintro e w1 ⟨o, rfl, ho, hb1⟩
  have HB1 := Lib.hid hb1
  have HO := Lib.hid ho
  obtain ⟨A, c, rfl⟩ := ho.sl
  have hcell := KR.out w1 HB1.out
  have HCell := Lib.hid hcell
  clear ho hb1
  go_wp2_with (refine wpList_store_row 28 _ _ rfl rfl rfl w.heap.size 28 rfl [.bool false, .slice none 0 0, .slice A (nw9 1) c] rfl _ hcell rfl info_ref (ref_one _ _ _ _ _ _ _) ?_; intro wz hhz hgz hzz; have HGz := Lib.hid hgz; have HZz := Lib.hid hzz; clear hzz hgz hcell)
  have hno := ref_noint HCell.out
  have hBf := btr HB0.out HB1.out
  exact bodyPost_ret (v := .agg #[.bool false, .slice none 0 0, .slice A (nw9 1) c]) (results_cell_row Tryz.results50 _ _ w.heap.size 28 _ (0, 0) _ rfl hhz Tryz.underlying28 rfl (by rw [info_ref]; rfl)) rfl
    ⟨_, rfl, ⟨_, _, rfl, ⟨none, 0, by rw [show (0 : Rat).num.natAbs = 0 from rfl, nw_zero9], by rw [show (0 : Rat).num.natAbs = 0 from rfl, nw_zero9]; exact Nat.le_refl _, by omega, by rw [show (0 : Rat).num.natAbs = 0 from rfl, nw_zero9]; exact D9.zero⟩, HO.out.apart hno HGz.out⟩, hBf.grown HGz.out hBf.size (fun j hj => by injection hj with hj; omega)⟩

set_option maxRecDepth 100000 in
set_option maxHeartbeats 4000000 in
theorem r_Add (w : World) (x y : Value) (p q : Rat) (hx : RefV w x p) (hy : RefV w y q) (k1 : RefW p 10000000) (k2 : RefW q 10000000) :
    Calls Tryz.prog 51 #[x, y] w fun e w' => ∃ r, e = .returned r ∧ RefV w' r (p + q) ∧ Below w.heap.size w w' := by
  obtain ⟨e1, e2, e3⟩ := ref_add p q
  have hp0 := p.den_pos
  have hq0 := q.den_pos
  obtain ⟨xu, xv, rfl, hxu, hxv⟩ := hx
  obtain ⟨yu, yv, rfl, hyu, hyv⟩ := hy
  obtain ⟨k1a, k1b⟩ := k1
  obtain ⟨k2a, k2b⟩ := k2
  unfold RefV
  rw [← e1, ← e2, ← e3]
  clear e1 e2 e3
  generalize decide (p.num < 0) = s at *
  generalize decide (q.num < 0) = t at *
  generalize p.num.natAbs = a at *
  generalize q.num.natAbs = b at *
  generalize p.den = c at *
  generalize q.den = d at *
  have HA := Lib.hid (fun W (hW : Below w.heap.size w W) => r_times W xu yv a d (hxu.below hW) (hyv.below hW) (by omega) (by omega))
  have HBm := Lib.hid (fun W (hW : Below w.heap.size w W) => r_times W yu xv b c (hyu.below hW) (hxv.below hW) (by omega) (by omega))
  have HD := Lib.hid (fun W (hW : Below w.heap.size w W) => r_times W xv yv c d (hxv.below hW) (hyv.below hW) (by omega) (by omega))
  have nA := refW_mul a d _ _ k1a k2b
  have nB := refW_mul b c _ _ k2a k1b
  have nD := refW_mul c d _ _ k1b k2b
  have hD0 : 0 < c * d := Nat.mul_pos hp0 hq0
  have HNs := Lib.hid (And.intro nA (And.intro nB (And.intro nD hD0)))
  obtain ⟨A1, c1, rfl⟩ := hxu.sl
  obtain ⟨A2, c2, rfl⟩ := hxv.sl
  obtain ⟨A3, c3, rfl⟩ := hyu.sl
  obtain ⟨A4, c4, rfl⟩ := hyv.sl
  clear hxu hxv hyu hyv nA nB nD hD0 k1a k1b k2a k2b hp0 hq0
  obtain ⟨W0, hW0, hB0, hz0, KX⟩ := ref_box w s (.slice A1 (nw9 a) c1) (.slice A2 (nw9 c) c2)
  obtain ⟨W1, hW1, hB1, hz1, KY⟩ := ref_box W0 t (.slice A3 (nw9 b) c3) (.slice A4 (nw9 d) c4)
  obtain ⟨W2, hW2, hB2, hz2, KR⟩ := zero_box W1
  have HB0 := Lib.hid hB0
  have HB1 := Lib.hid hB1
  have HB2 := Lib.hid hB2
  rw [hz0] at hz1
  rw [hz1] at hz2
  clear hB0 hB1 hB2
  have hgz0 : W0.heap.size = w.heap.size + 1 := hz0
  go_enter Tryz.func51, Tryz.ntmps51
  go_wp2_with fail
  have hX2 : ∀ W, Below W2.heap.size W2 W → W.cell? ⟨w.heap.size, 0, none⟩ = some (.bool s) ∧ W.cell? ⟨w.heap.size, 1, none⟩ = some (.slice A1 (nw9 a) c1) ∧ W.cell? ⟨w.heap.size, 2, none⟩ = some (.slice A2 (nw9 c) c2) ∧
      W.cell? ⟨w.heap.size + 1, 0, none⟩ = some (.bool t) ∧ W.cell? ⟨w.heap.size + 1, 1, none⟩ = some (.slice A3 (nw9 b) c3) ∧ W.cell? ⟨w.heap.size + 1, 2, none⟩ = some (.slice A4 (nw9 d) c4) := fun W hW => by
    obtain ⟨x1, x2, x3⟩ := KX.out W (btr HB1.out (btr HB2.out hW))
    obtain ⟨y1, y2, y3⟩ := KY.out W (btr HB2.out hW)
    rw [hgz0] at y1 y2 y3
    exact ⟨x1, x2, x3, y1, y2, y3⟩
  have HX2 := Lib.hid hX2
  have HX1 : Hid (∀ W, Below W1.heap.size W1 W → W.cell? ⟨w.heap.size, 0, none⟩ = some (.bool s) ∧ W.cell? ⟨w.heap.size, 1, none⟩ = some (.slice A1 (nw9 a) c1) ∧ W.cell? ⟨w.heap.size, 2, none⟩ = some (.slice A2 (nw9 c) c2) ∧
      W.cell? ⟨w.heap.size + 1, 0, none⟩ = some (.bool t) ∧ W.cell? ⟨w.heap.size + 1, 1, none⟩ = some (.slice A3 (nw9 b) c3) ∧ W.cell? ⟨w.heap.size + 1, 2, none⟩ = some (.slice A4 (nw9 d) c4)) := fun W hW => by
    obtain ⟨x1, x2, x3⟩ := KX.out W (btr HB1.out hW)
    obtain ⟨y1, y2, y3⟩ := KY.out W hW
    rw [hgz0] at y1 y2 y3
    exact ⟨x1, x2, x3, y1, y2, y3⟩
  have KR2 : Hid (∀ W, Below W2.heap.size W2 W → W.heap[w.heap.size + 1 + 1]? = some (.cells #[.bool false, .slice none 0 0, .slice none 0 0] 28 (0, 0))) := fun W hW => by rw [← hz1]; exact KR.out W hW
  have HLe : Hid (W1.heap.size ≤ w.heap.size + 1 + 1) := by show _ ≤ _; omega
  have HM : Hid (∀ W, Below W2.heap.size W2 W → Below w.heap.size w W) := fun W h => btr HB0.out (btr HB1.out (btr HB2.out h))
  have B2d : Below W2.heap.size W2 W2.drew := Below.drew (Below.refl _ _)
  clear hX2
  go_region_held3 (fun w' => w'.cell? ⟨w.heap.size, 0, none⟩ = some (.bool s) ∧ w'.cell? ⟨w.heap.size, 1, none⟩ = some (.slice A1 (nw9 a) c1) ∧ w'.cell? ⟨w.heap.size, 2, none⟩ = some (.slice A2 (nw9 c) c2) ∧
      w'.cell? ⟨w.heap.size + 1, 0, none⟩ = some (.bool t) ∧ w'.cell? ⟨w.heap.size + 1, 1, none⟩ = some (.slice A3 (nw9 b) c3) ∧ w'.cell? ⟨w.heap.size + 1, 2, none⟩ = some (.slice A4 (nw9 d) c4))
    (first | exact HX2.out _ C2 | exact HX2.out _ C1 | exact HX2.out _ B2d | exact HX2.out _ (Below.refl _ _))
    (first
      | (go_at_call_of 86 (Value.slice A1 (nw9 a) c1); refine (HA.out _ (HM.out _ B2d)).mono ?_; rintro e w3 ⟨va, rfl, hva, hb3⟩; have C1 : Below W2.heap.size W2 w3 := btr B2d hb3)
      | (go_at_call_of 86 (Value.slice A3 (nw9 b) c3); refine (HBm.out _ (HM.out _ C1)).mono ?_; rintro e w4 ⟨vb, rfl, hvb, hb4⟩; have C2 : Below W2.heap.size W2 w4 := btr C1 hb4))
  all_goals
    have HVa := Lib.hid (hva.below hb4)
    have HVb := Lib.hid hvb
    have HC2 := Lib.hid C2
    obtain ⟨A5, c5, rfl⟩ := hva.sl
    obtain ⟨A6, c6, rfl⟩ := hvb.sl
    clear hva hvb hb3 hb4 C1 C2
    go_wp2_with fail
    refine (HD.out _ (HM.out _ HC2.out)).mono ?_
    rintro e w5 ⟨vd, rfl, hvd, hb5⟩
    have HVd := Lib.hid hvd
    have HVa5 := Lib.hid (HVa.out.below hb5)
    have HVb5 := Lib.hid (HVb.out.below hb5)
    have HC5 := Lib.hid (btr HC2.out hb5)
    obtain ⟨A7, c7, rfl⟩ := hvd.sl
    obtain ⟨x0, _, _, y0, _, _⟩ := HX2.out _ HC5.out
    clear hvd hb5 HA HBm HD HVa HVb
    have HNs2 := Lib.hid HNs.out
    generalize hgA : a * d = A at *
    generalize hgB : b * c = B at *
    generalize hgD : c * d = D at *
    have HgA := Lib.hid hgA; have HgB := Lib.hid hgB; have HgD := Lib.hid hgD
    clear hgA hgB hgD
    have HRed : Hid (∀ (bb : Bool) (N : Nat) (W : World) (u : Value), Below w5.heap.size w5 W → N9At W u N → nw9 N ≤ 20000001 → Calls Tryz.prog 26 #[.bool bb, u, .slice A7 (nw9 D) c7] W (RefRet (sgn bb (N / Nat.gcd N D)) (N / Nat.gcd N D) (D / Nat.gcd N D) W)) :=
      fun bb N W u hW hu hN => r_reduced W bb u _ N D hu (HVd.out.below hW) (by omega) (by have := HNs.out.2.2.1; omega) HNs.out.2.2.2
    by_cases hst : s = t
    · subst hst
      have HS1 : Hid (sumN s A s B = A + B) := by show _ = _; unfold sumN; rw [if_pos rfl]
      have HS2 : Hid (sumS s A s B = s) := by show _ = _; unfold sumS; rw [if_pos rfl]
      have HNp : Hid (nw9 (A + B) ≤ 20000001) := nw_add9 A B 20000000 HNs.out.1 HNs.out.2.1
      go_wp2_with fail
      have BKd : Below w5.heap.size w5 w5.drew := Below.drew (Below.refl _ _)
      have HXr : Hid (∀ W, Below w5.heap.size w5 W →  W.cell? ⟨w.heap.size, 0, none⟩ = some (.bool s) ∧ W.cell? ⟨w.heap.size, 1, none⟩ = some (.slice A1 (nw9 a) c1) ∧ W.cell? ⟨w.heap.size, 2, none⟩ = some (.slice A2 (nw9 c) c2) ∧ W.cell? ⟨w.heap.size + 1, 0, none⟩ = some (.bool s) ∧ W.cell? ⟨w.heap.size + 1, 1, none⟩ = some (.slice A3 (nw9 b) c3) ∧ W.cell? ⟨w.heap.size + 1, 2, none⟩ = some (.slice A4 (nw9 d) c4)) := fun W hW => HX2.out W (btr HC5.out hW)
      have HNr : Hid (∀ W, Below w5.heap.size w5 W → Below w5.heap.size w5 W) := fun W hW => hW
      have HLr : Hid (∀ W, Below w5.heap.size w5 W → Below W1.heap.size W1 W) := fun W hW => btr HB2.out (btr HC5.out hW)
      have HRr : Hid (∀ W, Below w5.heap.size w5 W → W.heap[w.heap.size + 1 + 1]? = some (.cells #[.bool false, .slice none 0 0, .slice none 0 0] 28 (0, 0))) := fun W hW => KR2.out W (btr HC5.out hW)
      go_region_held3 (fun w' => w'.cell? ⟨w.heap.size, 0, none⟩ = some (.bool s) ∧ w'.cell? ⟨w.heap.size, 1, none⟩ = some (.slice A1 (nw9 a) c1) ∧ w'.cell? ⟨w.heap.size, 2, none⟩ = some (.slice A2 (nw9 c) c2) ∧ w'.cell? ⟨w.heap.size + 1, 0, none⟩ = some (.bool s) ∧ w'.cell? ⟨w.heap.size + 1, 1, none⟩ = some (.slice A3 (nw9 b) c3) ∧ w'.cell? ⟨w.heap.size + 1, 2, none⟩ = some (.slice A4 (nw9 d) c4))
        (first | exact HX1.out _ ((((HLr.out _ C4).setCell (p := ⟨w.heap.size + 1 + 1, 0, none⟩) HLe.out _).setCell (p := ⟨w.heap.size + 1 + 1, 1, none⟩) HLe.out _).setCell (p := ⟨w.heap.size + 1 + 1, 2, none⟩) HLe.out _) | exact HXr.out _ C4 | exact HXr.out _ C3 | exact HXr.out _ BKd | exact HXr.out _ (Below.refl _ _))
        (first
          | (go_at_call 80; refine (r_plus _ _ _ A B (HVa5.out.below BKd) (HVb5.out.below BKd) (by have := HNs.out.1; omega) (by have := HNs.out.2.1; omega)).mono ?_; rintro e w7 ⟨vp, rfl, hvp, hb7⟩; have C3 : Below w5.heap.size w5 w7 := btr BKd hb7)
          | (go_at_call 26; refine (HRed.out s (A + B) _ vp (HNr.out _ C3) hvp HNp.out).mono ?_; rintro e w8 ⟨vr, rfl, hvr, hb8⟩; have C4 : Below w5.heap.size w5 w8 := btr C3 hb8; obtain ⟨zu, zv, rfl, hzu, hzv⟩ := hvr; have HZu := Lib.hid hzu; have HZv := Lib.hid hzv; obtain ⟨A8, c8, rfl⟩ := hzu.sl; obtain ⟨A9, c9, rfl⟩ := hzv.sl; clear hzu hzv; obtain ⟨r0, r1, r2, f0, f1, f2⟩ := res_r (HRr.out _ C4)))
      all_goals
        have hrow := HRr.out _ C4
        have HL := Lib.hid (HM.out _ (btr HC5.out C4))
        clear hvp hb7 hb8 C3 C4 r0 r1 r2 f0 f1 f2
        have hno := ref_noint hrow
        go_wp2
        refine bodyPost_ret (results_cell_row Tryz.results51 _ _ (w.heap.size + 1 + 1) 28 _ (0, 0) _ rfl (put3 hrow _ _ _) Tryz.underlying28 rfl (by rw [info_ref]; rfl)) rfl
          ⟨_, rfl, ?_, HL.out.grown (grown3 _ _ _ _ _) HL.out.size (fun j hj => by injection hj with hj; omega)⟩
        rw [HgA.out, HgB.out, HgD.out, HS1.out, HS2.out]
        exact ⟨_, _, rfl, HZu.out.apart hno (grown3 _ _ _ _ _), HZv.out.apart hno (grown3 _ _ _ _ _)⟩
    · have hst' : (s == t) = false := by rw [beq_eq_false_iff_ne]; exact hst
      rcases Nat.lt_or_ge A B with hlt | hle
      · have HS1 : Hid (sumN s A t B = B - A) := by show _ = _; unfold sumN; rw [if_neg hst, if_pos hlt]
        have HS2 : Hid (sumS s A t B = t) := by show _ = _; unfold sumS; rw [if_neg hst, if_pos hlt]
        have HNp : Hid (nw9 (B - A) ≤ 20000001) := Nat.le_trans (nw_mono9 (Nat.sub_le _ _)) (by have := HNs.out.2.1; omega)
        have HCm := Lib.hid (r_cmpN w5 _ _ A B HVa5.out HVb5.out)
        have HLt := Lib.hid hlt
        have hcc := cmpN_lt hlt
        clear hlt
        generalize cmpN A B = cc at *
        have hc0 : ¬ (0 ≤ cc) := by omega
        go_wp2_with fail
        refine HCm.out.mono ?_
        rintro e w6 ⟨rfl, nd, rfl⟩
        have HC6 := Lib.hid (below_drewN (Below.refl w5.heap.size w5) nd)
        have HC6b := Lib.hid (btr HC5.out HC6.out)
        have HVa6 := Lib.hid (HVa5.out.below HC6.out)
        have HVb6 := Lib.hid (HVb5.out.below HC6.out)
        generalize w5.drewN nd = w6 at *
        go_wp2_with fail
        have BKd : Below w6.heap.size w6 w6.drew := Below.drew (Below.refl _ _)
        have HXr : Hid (∀ W, Below w6.heap.size w6 W →  W.cell? ⟨w.heap.size, 0, none⟩ = some (.bool s) ∧ W.cell? ⟨w.heap.size, 1, none⟩ = some (.slice A1 (nw9 a) c1) ∧ W.cell? ⟨w.heap.size, 2, none⟩ = some (.slice A2 (nw9 c) c2) ∧ W.cell? ⟨w.heap.size + 1, 0, none⟩ = some (.bool t) ∧ W.cell? ⟨w.heap.size + 1, 1, none⟩ = some (.slice A3 (nw9 b) c3) ∧ W.cell? ⟨w.heap.size + 1, 2, none⟩ = some (.slice A4 (nw9 d) c4)) := fun W hW => HX2.out W (btr HC6b.out hW)
        have HNr : Hid (∀ W, Below w6.heap.size w6 W → Below w5.heap.size w5 W) := fun W hW => btr HC6.out hW
        have HLr : Hid (∀ W, Below w6.heap.size w6 W → Below W1.heap.size W1 W) := fun W hW => btr HB2.out (btr HC6b.out hW)
        have HRr : Hid (∀ W, Below w6.heap.size w6 W → W.heap[w.heap.size + 1 + 1]? = some (.cells #[.bool false, .slice none 0 0, .slice none 0 0] 28 (0, 0))) := fun W hW => KR2.out W (btr HC6b.out hW)
        go_region_held3 (fun w' => w'.cell? ⟨w.heap.size, 0, none⟩ = some (.bool s) ∧ w'.cell? ⟨w.heap.size, 1, none⟩ = some (.slice A1 (nw9 a) c1) ∧ w'.cell? ⟨w.heap.size, 2, none⟩ = some (.slice A2 (nw9 c) c2) ∧ w'.cell? ⟨w.heap.size + 1, 0, none⟩ = some (.bool t) ∧ w'.cell? ⟨w.heap.size + 1, 1, none⟩ = some (.slice A3 (nw9 b) c3) ∧ w'.cell? ⟨w.heap.size + 1, 2, none⟩ = some (.slice A4 (nw9 d) c4))
          (first | exact HX1.out _ ((((HLr.out _ C4).setCell (p := ⟨w.heap.size + 1 + 1, 0, none⟩) HLe.out _).setCell (p := ⟨w.heap.size + 1 + 1, 1, none⟩) HLe.out _).setCell (p := ⟨w.heap.size + 1 + 1, 2, none⟩) HLe.out _) | exact HXr.out _ C4 | exact HXr.out _ C3 | exact HXr.out _ BKd | exact HXr.out _ (Below.refl _ _))
          (first
            | (go_at_call 87; refine (r_minus _ _ _ B A (HVb6.out.below BKd) (HVa6.out.below BKd) (by have := HNs.out.2.1; omega) (Nat.le_of_lt HLt.out)).mono ?_; rintro e w7 ⟨vp, rfl, hvp, hb7⟩; have C3 : Below w6.heap.size w6 w7 := btr BKd hb7)
            | (go_at_call 26; refine (HRed.out t (B - A) _ vp (HNr.out _ C3) hvp HNp.out).mono ?_; rintro e w8 ⟨vr, rfl, hvr, hb8⟩; have C4 : Below w6.heap.size w6 w8 := btr C3 hb8; obtain ⟨zu, zv, rfl, hzu, hzv⟩ := hvr; have HZu := Lib.hid hzu; have HZv := Lib.hid hzv; obtain ⟨A8, c8, rfl⟩ := hzu.sl; obtain ⟨A9, c9, rfl⟩ := hzv.sl; clear hzu hzv; obtain ⟨r0, r1, r2, f0, f1, f2⟩ := res_r (HRr.out _ C4)))
        all_goals
          have hrow := HRr.out _ C4
          have HL := Lib.hid (HM.out _ (btr HC6b.out C4))
          clear hvp hb7 hb8 C3 C4 r0 r1 r2 f0 f1 f2
          have hno := ref_noint hrow
          go_wp2
          refine bodyPost_ret (results_cell_row Tryz.results51 _ _ (w.heap.size + 1 + 1) 28 _ (0, 0) _ rfl (put3 hrow _ _ _) Tryz.underlying28 rfl (by rw [info_ref]; rfl)) rfl
            ⟨_, rfl, ?_, HL.out.grown (grown3 _ _ _ _ _) HL.out.size (fun j hj => by injection hj with hj; omega)⟩
          rw [HgA.out, HgB.out, HgD.out, HS1.out, HS2.out]
          exact ⟨_, _, rfl, HZu.out.apart hno (grown3 _ _ _ _ _), HZv.out.apart hno (grown3 _ _ _ _ _)⟩
      · have HS1 : Hid (sumN s A t B = A - B) := by show _ = _; unfold sumN; rw [if_neg hst, if_neg (by omega)]
        have HS2 : Hid (sumS s A t B = s) := by show _ = _; unfold sumS; rw [if_neg hst, if_neg (by omega)]
        have HNp : Hid (nw9 (A - B) ≤ 20000001) := Nat.le_trans (nw_mono9 (Nat.sub_le _ _)) (by have := HNs.out.1; omega)
        have HCm := Lib.hid (r_cmpN w5 _ _ A B HVa5.out HVb5.out)
        have HLt := Lib.hid hle
        have hcc : 0 ≤ cmpN A B := by
          rcases Nat.lt_or_ge B A with h9 | h9
          · rw [cmpN_gt h9]; omega
          · rw [show A = B by omega, cmpN_eq]; omega
        clear hle
        generalize cmpN A B = cc at *
        have hc0 : 0 ≤ cc := hcc
        go_wp2_with fail
        refine HCm.out.mono ?_
        rintro e w6 ⟨rfl, nd, rfl⟩
        have HC6 := Lib.hid (below_drewN (Below.refl w5.heap.size w5) nd)
        have HC6b := Lib.hid (btr HC5.out HC6.out)
        have HVa6 := Lib.hid (HVa5.out.below HC6.out)
        have HVb6 := Lib.hid (HVb5.out.below HC6.out)
        generalize w5.drewN nd = w6 at *
        go_wp2_with fail
        have BKd : Below w6.heap.size w6 w6.drew := Below.drew (Below.refl _ _)
        have HXr : Hid (∀ W, Below w6.heap.size w6 W →  W.cell? ⟨w.heap.size, 0, none⟩ = some (.bool s) ∧ W.cell? ⟨w.heap.size, 1, none⟩ = some (.slice A1 (nw9 a) c1) ∧ W.cell? ⟨w.heap.size, 2, none⟩ = some (.slice A2 (nw9 c) c2) ∧ W.cell? ⟨w.heap.size + 1, 0, none⟩ = some (.bool t) ∧ W.cell? ⟨w.heap.size + 1, 1, none⟩ = some (.slice A3 (nw9 b) c3) ∧ W.cell? ⟨w.heap.size + 1, 2, none⟩ = some (.slice A4 (nw9 d) c4)) := fun W hW => HX2.out W (btr HC6b.out hW)
        have HNr : Hid (∀ W, Below w6.heap.size w6 W → Below w5.heap.size w5 W) := fun W hW => btr HC6.out hW
        have HLr : Hid (∀ W, Below w6.heap.size w6 W → Below W1.heap.size W1 W) := fun W hW => btr HB2.out (btr HC6b.out hW)
        have HRr : Hid (∀ W, Below w6.heap.size w6 W → W.heap[w.heap.size + 1 + 1]? = some (.cells #[.bool false, .slice none 0 0, .slice none 0 0] 28 (0, 0))) := fun W hW => KR2.out W (btr HC6b.out hW)
        go_region_held3 (fun w' => w'.cell? ⟨w.heap.size, 0, none⟩ = some (.bool s) ∧ w'.cell? ⟨w.heap.size, 1, none⟩ = some (.slice A1 (nw9 a) c1) ∧ w'.cell? ⟨w.heap.size, 2, none⟩ = some (.slice A2 (nw9 c) c2) ∧ w'.cell? ⟨w.heap.size + 1, 0, none⟩ = some (.bool t) ∧ w'.cell? ⟨w.heap.size + 1, 1, none⟩ = some (.slice A3 (nw9 b) c3) ∧ w'.cell? ⟨w.heap.size + 1, 2, none⟩ = some (.slice A4 (nw9 d) c4))
          (first | exact HX1.out _ ((((HLr.out _ C4).setCell (p := ⟨w.heap.size + 1 + 1, 0, none⟩) HLe.out _).setCell (p := ⟨w.heap.size + 1 + 1, 1, none⟩) HLe.out _).setCell (p := ⟨w.heap.size + 1 + 1, 2, none⟩) HLe.out _) | exact HXr.out _ C4 | exact HXr.out _ C3 | exact HXr.out _ BKd | exact HXr.out _ (Below.refl _ _))
          (first
            | (go_at_call 87; refine (r_minus _ _ _ A B (HVa6.out.below BKd) (HVb6.out.below BKd) (by have := HNs.out.1; omega) HLt.out).mono ?_; rintro e w7 ⟨vp, rfl, hvp, hb7⟩; have C3 : Below w6.heap.size w6 w7 := btr BKd hb7)
            | (go_at_call 26; refine (HRed.out s (A - B) _ vp (HNr.out _ C3) hvp HNp.out).mono ?_; rintro e w8 ⟨vr, rfl, hvr, hb8⟩; have C4 : Below w6.heap.size w6 w8 := btr C3 hb8; obtain ⟨zu, zv, rfl, hzu, hzv⟩ := hvr; have HZu := Lib.hid hzu; have HZv := Lib.hid hzv; obtain ⟨A8, c8, rfl⟩ := hzu.sl; obtain ⟨A9, c9, rfl⟩ := hzv.sl; clear hzu hzv; obtain ⟨r0, r1, r2, f0, f1, f2⟩ := res_r (HRr.out _ C4)))
        all_goals
          have hrow := HRr.out _ C4
          have HL := Lib.hid (HM.out _ (btr HC6b.out C4))
          clear hvp hb7 hb8 C3 C4 r0 r1 r2 f0 f1 f2
          have hno := ref_noint hrow
          go_wp2
          refine bodyPost_ret (results_cell_row Tryz.results51 _ _ (w.heap.size + 1 + 1) 28 _ (0, 0) _ rfl (put3 hrow _ _ _) Tryz.underlying28 rfl (by rw [info_ref]; rfl)) rfl
            ⟨_, rfl, ?_, HL.out.grown (grown3 _ _ _ _ _) HL.out.size (fun j hj => by injection hj with hj; omega)⟩
          rw [HgA.out, HgB.out, HgD.out, HS1.out, HS2.out]
          exact ⟨_, _, rfl, HZu.out.apart hno (grown3 _ _ _ _ _), HZv.out.apart hno (grown3 _ _ _ _ _)⟩
end Go.Proofs.YtoiihehlgfgikaaGreatDoor
end

/- The reference's sums of lists. -/
section
namespace Go.Proofs.YtoiihehlgfgikaaGreatDoor
open Go.RowKit Go.Deep

theorem RefV.apart {w w' : World} {v : Value} {q : Rat} {r : Nat} (h : RefV w v q) (hr : ∀ o y, w.cell? ⟨r, o, none⟩ ≠ some (U9 y)) (hg : w.grownBy w' (some r)) : RefV w' v q := by
  obtain ⟨u, v, e, h1, h2⟩ := h
  exact ⟨u, v, e, h1.apart hr hg, h2.apart hr hg⟩
theorem RefW.mono {q : Rat} {a b : Nat} (h : RefW q a) (hab : a ≤ b) : RefW q b := ⟨Nat.le_trans h.1 hab, Nat.le_trans h.2 hab⟩
theorem refW_add1 {p q : Rat} {a b : Nat} (hp : RefW p a) (hq : RefW q b) : RefW (p + q) (a + b + 1) := by
  obtain ⟨e1, e2, e3⟩ := ref_add p q
  have g1 := refW_mul p.num.natAbs q.den a b hp.1 hq.2
  have g2 := refW_mul q.num.natAbs p.den b a hq.1 hp.2
  have g3 := refW_mul p.den q.den a b hp.2 hq.2
  refine ⟨?_, ?_⟩
  · rw [← e2]
    refine Nat.le_trans (nw_mono9 (Nat.div_le_self _ _)) ?_
    refine Nat.le_trans (nw_mono9 (sumN_le _ _ _ _)) ?_
    exact nw_add9 _ _ _ g1 (by omega)
  · rw [← e3]
    exact Nat.le_trans (nw_mono9 (Nat.div_le_self _ _)) (by omega)
theorem refW_zero : RefW 0 1 := ⟨by rw [show (0 : Rat).num.natAbs = 0 from rfl, nw_zero9]; omega, by rw [show (0 : Rat).den = 1 from rfl, nw_one9 1 (by omega) (by decide)]; omega⟩
theorem sumQ_r (qs : Nat → Rat) (c n : Nat) (h : ∀ k, k < n → RefW (qs k) c) : ∀ k, k ≤ n → RefW (sumQ qs k) (k * (c + 1) + 1)
  | 0, _ => by rw [Nat.zero_mul]; exact refW_zero
  | k + 1, hk => (refW_add1 (sumQ_r qs c n h k (by omega)) (h k (by omega))).mono (by rw [Nat.succ_mul]; omega)

/-- A slice of n numbers of the reference. -/
def RefsIn (w : World) (A : Option Addr) (n : Nat) (sg : Nat → Bool) (us vs : Nat → Value) : Prop :=
  ∀ k, k < n → ∃ b o, A = some ⟨b, o, none⟩ ∧ b < w.heap.size ∧ w.cell? ⟨b, o + k * 3, none⟩ = some (.bool (sg k)) ∧ w.cell? ⟨b, o + k * 3 + 1, none⟩ = some (us k) ∧ w.cell? ⟨b, o + k * 3 + 2, none⟩ = some (vs k)

set_option maxRecDepth 100000 in
set_option maxHeartbeats 4000000 in
theorem r_Sum (w : World) (A : Option Addr) (n cap c : Nat) (sg : Nat → Bool) (us vs : Nat → Value) (qs : Nat → Rat) (hA : RefsIn w A n sg us vs)
    (hq : ∀ k, k < n → RefV w (.agg #[.bool (sg k), us k, vs k]) (qs k)) (hw : ∀ k, k < n → RefW (qs k) c) (hc : n * (c + 1) + 1 ≤ 10000000) (hc2 : c ≤ 10000000) :
    Calls Tryz.prog 11 #[.slice A n cap] w fun e w' => ∃ r, e = .returned r ∧ RefV w' r (sumQ qs n) ∧ Below w.heap.size w w' := by
  have HA := Lib.hid hA
  have HQ := Lib.hid hq
  have HWd := Lib.hid hw
  have HP := Lib.hid (sumQ_r qs c n hw)
  have HC := Lib.hid hc
  have HC2 := Lib.hid hc2
  have hn : n ≤ 10000000 := by
    have : n * 1 ≤ n * (c + 1) := Nat.mul_le_mul_left _ (by omega)
    omega
  clear hA hq hw hc hc2
  obtain ⟨W0, hW0, hB0, hz0, KR⟩ := zero_box w
  have HB0 := Lib.hid hB0
  clear hB0
  go_enter Tryz.func11, Tryz.ntmps11
  go_wp2_with fail
  refine (r_Zero W0).mono ?_
  rintro e w1 ⟨z, rfl, hz, hb1⟩
  have HZ := Lib.hid hz
  have HB1 := Lib.hid hb1
  obtain ⟨zu, zv, rfl, hzu, hzv⟩ := hz
  obtain ⟨Az, cz, rfl⟩ := hzu.sl
  obtain ⟨Az', cz', rfl⟩ := hzv.sl
  clear hzu hzv hb1
  go_wp2
  go_loopw [4] (fun i wr => ∃ (k : Nat) (b : Bool) (A1 A2 : Option Addr) (n1 n2 c1 c2 : Nat), k ≤ n ∧ i = .int .i64 k ∧ wr.heap[w1.heap.size]? = some (.cells #[.bool b, .slice A1 n1 c1, .slice A2 n2 c2] 28 (0, 0)) ∧
      Hid (RefV wr (.agg #[.bool b, .slice A1 n1 c1, .slice A2 n2 c2]) (sumQ qs k)) ∧ Below w1.heap.size w1 wr) (fun i _ => n - (intOf i).toNat)
  case atStart =>
    have hB : Below w1.heap.size w1 (w1.alloc (.cells #[.bool false, .slice Az (nw9 0) cz, .slice Az' (nw9 1) cz'] 28)) := (Below.refl _ _).alloc (Nat.le_refl _) _
    exact ⟨0, false, Az, Az', nw9 0, nw9 1, cz, cz', Nat.zero_le _, rfl, heap_alloc_new w1 _, HZ.out.below hB, hB⟩
  case round =>
    obtain ⟨k, sb, A1, A2, n1, n2, c1, c2, hk, rfl, hrow, HS, hb⟩ := hrel
    have HBr := Lib.hid hb
    have HRow := Lib.hid hrow
    have hsz := hb.size
    have hs1lt : w1.heap.size < wr.heap.size := (Array.getElem?_eq_some_iff.1 hrow).1
    by_cases hlt : k < n
    · obtain ⟨b, o, rfl, hbb, h1, h2, h3⟩ := HA.out k hlt
      have hBw : Below w.heap.size w wr := btr HB0.out (btr HB1.out hb)
      have hkept : ∀ p : Nat, wr.cell? ⟨b, p, none⟩ = w.cell? ⟨b, p, none⟩ := fun p => hBw.cell (p := ⟨b, p, none⟩) hbb
      rw [← hkept] at h1 h2 h3
      have HQk : Hid (RefV wr (.agg #[.bool (sg k), us k, vs k]) (qs k)) := (HQ.out k hlt).below hBw
      have HWk := Lib.hid (HWd.out k hlt)
      have HPk := Lib.hid (HP.out k hk)
      have HN : Hid (k * (c + 1) + 1 ≤ 10000000) := Nat.le_trans (Nat.succ_le_succ (Nat.mul_le_mul_right _ hk)) HC.out
      have HAdd := Lib.hid (r_Add wr.drew _ _ _ _ HS.out HQk.out (HPk.out.mono HN.out) (HWk.out.mono HC2.out))
      have q0 : wr.cell? ⟨w1.heap.size, 0, none⟩ = some (.bool sb) := by rw [cell_of_row _ _ _ _ _ _ hrow]; rfl
      have q1 : wr.cell? ⟨w1.heap.size, 1, none⟩ = some (.slice A1 n1 c1) := by rw [cell_of_row _ _ _ _ _ _ hrow]; rfl
      have q2 : wr.cell? ⟨w1.heap.size, 2, none⟩ = some (.slice A2 n2 c2) := by rw [cell_of_row _ _ _ _ _ _ hrow]; rfl
      generalize us k = uk at *
      generalize vs k = vk at *
      generalize sg k = sk at *
      clear hkept hrow hb
      go_wp2_with fail
      go_still_tail 5, (by kernel_rfl)
      change wpList _ _ _ _ _ wr.drew
      have HBd : Hid (Below wr.heap.size wr wr.drew) := Below.drew (Below.refl _ _)
      go_wp2_with fail
      refine HAdd.out.mono ?_
      rintro e w2 ⟨r, rfl, hr, hb2⟩
      have hb3 : Below wr.heap.size wr w2 := btr HBd.out hb2
      have HB3 := Lib.hid hb3
      have HR2 := Lib.hid hr
      obtain ⟨ru, rv, rfl, hru, hrv⟩ := hr
      have HRu := Lib.hid hru; have HRv := Lib.hid hrv
      obtain ⟨A3, c3, rfl⟩ := hru.sl
      obtain ⟨A4, c4, rfl⟩ := hrv.sl
      have hcell : w2.heap[w1.heap.size]? = some (.cells #[.bool sb, .slice A1 n1 c1, .slice A2 n2 c2] 28 (0, 0)) := (hb3.block _ hs1lt).trans HRow.out
      have HCell := Lib.hid hcell
      clear hru hrv hb2 hb3 q0 q1 q2
      have hSum : Hid (sumQ qs k + qs k = sumQ qs (k + 1)) := rfl
      generalize hds : decide ((sumQ qs k + qs k).num < 0) = ds at *
      generalize hdn : nw9 (sumQ qs k + qs k).num.natAbs = dn at *
      generalize hdd : nw9 (sumQ qs k + qs k).den = dd at *
      clear hds hdn hdd
      go_wp2_with (refine wpList_store_row 28 _ _ rfl rfl rfl w1.heap.size 28 rfl [.bool ds, .slice A3 dn c3, .slice A4 dd c4] rfl _ hcell rfl info_ref (ref_one _ _ _ _ _ _ _) ?_; intro wz hhz hgz hzz; have HGz := Lib.hid hgz; have HZz := Lib.hid hzz; have HHz := Lib.hid hhz; clear hzz hgz hhz hcell)
      go_roundw
      case rel =>
        have hno := ref_noint HCell.out
        have hBz : Below w1.heap.size w1 w2 := HBr.out.trans (HB3.out.mono hsz)
        refine ⟨k + 1, ds, A3, A4, dn, dd, c3, c4, by omega, by go_num, HHz.out, ?_, hBz.grown HGz.out hBz.size (fun j hj => by injection hj with hj; omega)⟩
        show RefV _ _ _
        rw [← hSum.out]
        exact HR2.out.apart hno HGz.out
      case measure => simp [intOf]; omega
    · obtain rfl : k = n := by omega
      have q0 : wr.cell? ⟨w1.heap.size, 0, none⟩ = some (.bool sb) := by rw [cell_of_row _ _ _ _ _ _ hrow]; rfl
      have q1 : wr.cell? ⟨w1.heap.size, 1, none⟩ = some (.slice A1 n1 c1) := by rw [cell_of_row _ _ _ _ _ _ hrow]; rfl
      have q2 : wr.cell? ⟨w1.heap.size, 2, none⟩ = some (.slice A2 n2 c2) := by rw [cell_of_row _ _ _ _ _ _ hrow]; rfl
      have hcell := KR.out wr (btr HB1.out HBr.out)
      have HCell := Lib.hid hcell
      have hBf : Hid (Below w.heap.size w wr) := btr HB0.out (btr HB1.out HBr.out)
      clear hrow hb
      go_wp2_with (refine wpList_store_row 28 _ _ rfl rfl rfl w.heap.size 28 rfl [.bool sb, .slice A1 n1 c1, .slice A2 n2 c2] rfl _ hcell rfl info_ref (ref_one _ _ _ _ _ _ _) ?_; intro wz hhz hgz hzz; have HGz := Lib.hid hgz; have HZz := Lib.hid hzz; clear hzz hgz hcell)
      have hno := ref_noint HCell.out
      exact bodyPost_ret (v := .agg #[.bool sb, .slice A1 n1 c1, .slice A2 n2 c2]) (results_cell_row Tryz.results11 _ _ w.heap.size 28 _ (0, 0) _ rfl hhz Tryz.underlying28 rfl (by rw [info_ref]; rfl)) rfl
        ⟨_, rfl, HS.out.apart hno HGz.out, hBf.out.grown HGz.out hBf.out.size (fun j hj => by injection hj with hj; omega)⟩
end Go.Proofs.YtoiihehlgfgikaaGreatDoor
end

/- The reference's sums of two numbers. -/
import Derived.Test.YthcpcaoapkmchaaGreatDoorZRefC9
import Derived.Test.YthcpcaoapkmchaaGreatDoorZRatV
import Derived.Test.YthcpcaoapkmchaaGreatDoorZRef9

/- The reference's sums of two numbers. -/
section
namespace Go.Proofs.YthcpcaoapkmchaaGreatDoor
open Go.RowKit Go.Deep

/-- The three parts of a sum that is reduced once. -/
theorem ref_add (p q : Rat) : sgn (sumS (decide (p.num < 0)) (p.num.natAbs * q.den) (decide (q.num < 0)) (q.num.natAbs * p.den))
      (sumN (decide (p.num < 0)) (p.num.natAbs * q.den) (decide (q.num < 0)) (q.num.natAbs * p.den) / Nat.gcd (sumN (decide (p.num < 0)) (p.num.natAbs * q.den) (decide (q.num < 0)) (q.num.natAbs * p.den)) (p.den * q.den)) = decide ((p + q).num < 0) ∧
    sumN (decide (p.num < 0)) (p.num.natAbs * q.den) (decide (q.num < 0)) (q.num.natAbs * p.den) / Nat.gcd (sumN (decide (p.num < 0)) (p.num.natAbs * q.den) (decide (q.num < 0)) (q.num.natAbs * p.den)) (p.den * q.den) = (p + q).num.natAbs ∧
    p.den * q.den / Nat.gcd (sumN (decide (p.num < 0)) (p.num.natAbs * q.den) (decide (q.num < 0)) (q.num.natAbs * p.den)) (p.den * q.den) = (p + q).den := by
  have hM : sInt (decide (p.num < 0)) (p.num.natAbs * q.den) + sInt (decide (q.num < 0)) (q.num.natAbs * p.den) = p.num * q.den + q.num * p.den := by
    rw [sInt_mul, sInt_mul, sInt_of, sInt_of]
  have hN := sumN_int (decide (p.num < 0)) (decide (q.num < 0)) (p.num.natAbs * q.den) (q.num.natAbs * p.den)
  have hs := sgn_sum (decide (p.num < 0)) (decide (q.num < 0)) (p.num.natAbs * q.den) (q.num.natAbs * p.den)
  rw [hM] at hN hs
  have hD : 0 < p.den * q.den := Nat.mul_pos p.den_pos q.den_pos
  have hadd := Rat.add_def p q
  rw [Rat.normalize_eq] at hadd
  have en : (p + q).num = (p.num * (q.den : Int) + q.num * (p.den : Int)) / ((Nat.gcd (p.num * (q.den : Int) + q.num * (p.den : Int)).natAbs (p.den * q.den) : Nat) : Int) := by rw [hadd]
  have ed : (p + q).den = p.den * q.den / Nat.gcd (p.num * (q.den : Int) + q.num * (p.den : Int)).natAbs (p.den * q.den) := by rw [hadd]
  rw [en, ed]
  clear hadd en ed
  generalize sumS (decide (p.num < 0)) (p.num.natAbs * q.den) (decide (q.num < 0)) (q.num.natAbs * p.den) = S at *
  rw [hN] at hs ⊢
  have hg0 : 0 < Nat.gcd (p.num * (q.den : Int) + q.num * (p.den : Int)).natAbs (p.den * q.den) := Nat.gcd_pos_of_pos_right _ hD
  have hcM : ((Nat.gcd (p.num * (q.den : Int) + q.num * (p.den : Int)).natAbs (p.den * q.den) : Nat) : Int) ∣ p.num * (q.den : Int) + q.num * (p.den : Int) := by
    rw [← Int.natAbs_dvd_natAbs]; exact Nat.gcd_dvd_left _ _
  generalize hgg : Nat.gcd (p.num * (q.den : Int) + q.num * (p.den : Int)).natAbs (p.den * q.den) = c at *
  generalize p.num * (q.den : Int) + q.num * (p.den : Int) = M at *
  obtain ⟨m, rfl⟩ := hcM
  have hc1 : (c : Int) * m / c = m := Int.mul_ediv_cancel_left _ (by omega)
  have hc2 : ((c : Int) * m).natAbs / c = m.natAbs := by rw [Int.natAbs_mul, Int.natAbs_natCast, Nat.mul_div_cancel_left _ hg0]
  rw [hc1, hc2]
  refine ⟨?_, rfl, rfl⟩
  rw [hs m.natAbs (by rw [Int.natAbs_mul, Int.natAbs_natCast]; exact ⟨fun h => Nat.mul_pos hg0 h, fun h => Nat.pos_of_mul_pos_left h⟩), decide_eq_decide]
  constructor
  · intro h9
    rcases (by omega : m < 0 ∨ 0 ≤ m) with h8 | h8
    · exact h8
    · have := Int.mul_nonneg (show (0 : Int) ≤ c by omega) h8
      omega
  · intro h9
    exact Int.mul_neg_of_pos_of_neg (by omega) h9
theorem refW_mul (a b k l : Nat) (ha : nw9 a ≤ k) (hb : nw9 b ≤ l) : nw9 (a * b) ≤ k + l := Nat.le_trans (nw_mul9 a b) (Nat.add_le_add ha hb)

/-- The result's variable, before anything is stored. -/
theorem res_r {W : World} {r : Nat} (h : W.heap[r]? = some (.cells #[.bool false, .slice none 0 0, .slice none 0 0] 29 (0, 0))) :
    W.cell? ⟨r, 0, none⟩ = some (.bool false) ∧ W.cell? ⟨r, 1, none⟩ = some (.slice none 0 0) ∧ W.cell? ⟨r, 2, none⟩ = some (.slice none 0 0) ∧ W.frozen? ⟨r, 0, none⟩ = false ∧ W.frozen? ⟨r, 1, none⟩ = false ∧ W.frozen? ⟨r, 2, none⟩ = false := by
  refine ⟨by rw [cell_of_row _ _ _ _ _ _ h]; rfl, by rw [cell_of_row _ _ _ _ _ _ h]; rfl, by rw [cell_of_row _ _ _ _ _ _ h]; rfl, ?_, ?_, ?_⟩ <;> simp [World.frozen?, h]
theorem put3 {W : World} {r : Nat} (h : W.heap[r]? = some (.cells #[.bool false, .slice none 0 0, .slice none 0 0] 29 (0, 0))) (a b c : Value) :
    (((W.setCell ⟨r, 0, none⟩ a).setCell ⟨r, 1, none⟩ b).setCell ⟨r, 2, none⟩ c).heap[r]? = some (.cells #[a, b, c] 29 (0, 0)) := by
  simp [World.setCell, Array.getElem?_modify, h]
theorem grown3 (W : World) (r : Nat) (a b c : Value) : W.grownBy (((W.setCell ⟨r, 0, none⟩ a).setCell ⟨r, 1, none⟩ b).setCell ⟨r, 2, none⟩ c) (some r) :=
  ⟨rfl, rfl, rfl, by simp [World.setCell], fun k _ hne => by
    have hk : k ≠ r := fun e => hne (by rw [e])
    rw [Below.heap_setCell _ _ _ _ hk, Below.heap_setCell _ _ _ _ hk, Below.heap_setCell _ _ _ _ hk]⟩

set_option maxRecDepth 100000 in
set_option maxHeartbeats 4000000 in
theorem r_Add (w : World) (x y : Value) (p q : Rat) (hx : RefV w x p) (hy : RefV w y q) (k1 : RefW p 10000000) (k2 : RefW q 10000000) :
    Calls Tryz.prog 13 #[x, y] w fun e w' => ∃ r, e = .returned r ∧ RefV w' r (p + q) ∧ Below w.heap.size w w' := by
  obtain ⟨e1, e2, e3⟩ := ref_add p q
  have hp0 := p.den_pos
  have hq0 := q.den_pos
  obtain ⟨xu, xv, rfl, hxu, hxv⟩ := hx
  obtain ⟨yu, yv, rfl, hyu, hyv⟩ := hy
  obtain ⟨k1a, k1b⟩ := k1
  obtain ⟨k2a, k2b⟩ := k2
  unfold RefV
  rw [← e1, ← e2, ← e3]
  clear e1 e2 e3
  generalize decide (p.num < 0) = s at *
  generalize decide (q.num < 0) = t at *
  generalize p.num.natAbs = a at *
  generalize q.num.natAbs = b at *
  generalize p.den = c at *
  generalize q.den = d at *
  have HA := Lib.hid (fun W (hW : Below w.heap.size w W) => r_times W xu yv a d (hxu.below hW) (hyv.below hW) (by omega) (by omega))
  have HBm := Lib.hid (fun W (hW : Below w.heap.size w W) => r_times W yu xv b c (hyu.below hW) (hxv.below hW) (by omega) (by omega))
  have HD := Lib.hid (fun W (hW : Below w.heap.size w W) => r_times W xv yv c d (hxv.below hW) (hyv.below hW) (by omega) (by omega))
  have nA := refW_mul a d _ _ k1a k2b
  have nB := refW_mul b c _ _ k2a k1b
  have nD := refW_mul c d _ _ k1b k2b
  have hD0 : 0 < c * d := Nat.mul_pos hp0 hq0
  have HNs := Lib.hid (And.intro nA (And.intro nB (And.intro nD hD0)))
  obtain ⟨A1, c1, rfl⟩ := hxu.sl
  obtain ⟨A2, c2, rfl⟩ := hxv.sl
  obtain ⟨A3, c3, rfl⟩ := hyu.sl
  obtain ⟨A4, c4, rfl⟩ := hyv.sl
  clear hxu hxv hyu hyv nA nB nD hD0 k1a k1b k2a k2b hp0 hq0
  obtain ⟨W0, hW0, hB0, hz0, KX⟩ := ref_box w s (.slice A1 (nw9 a) c1) (.slice A2 (nw9 c) c2)
  obtain ⟨W1, hW1, hB1, hz1, KY⟩ := ref_box W0 t (.slice A3 (nw9 b) c3) (.slice A4 (nw9 d) c4)
  obtain ⟨W2, hW2, hB2, hz2, KR⟩ := zero_box W1
  have HB0 := Lib.hid hB0
  have HB1 := Lib.hid hB1
  have HB2 := Lib.hid hB2
  rw [hz0] at hz1
  rw [hz1] at hz2
  clear hB0 hB1 hB2
  have hgz0 : W0.heap.size = w.heap.size + 1 := hz0
  go_enter Tryz.func13, Tryz.ntmps13
  go_wp2_with fail
  have hX2 : ∀ W, Below W2.heap.size W2 W → W.cell? ⟨w.heap.size, 0, none⟩ = some (.bool s) ∧ W.cell? ⟨w.heap.size, 1, none⟩ = some (.slice A1 (nw9 a) c1) ∧ W.cell? ⟨w.heap.size, 2, none⟩ = some (.slice A2 (nw9 c) c2) ∧
      W.cell? ⟨w.heap.size + 1, 0, none⟩ = some (.bool t) ∧ W.cell? ⟨w.heap.size + 1, 1, none⟩ = some (.slice A3 (nw9 b) c3) ∧ W.cell? ⟨w.heap.size + 1, 2, none⟩ = some (.slice A4 (nw9 d) c4) := fun W hW => by
    obtain ⟨x1, x2, x3⟩ := KX.out W (btr HB1.out (btr HB2.out hW))
    obtain ⟨y1, y2, y3⟩ := KY.out W (btr HB2.out hW)
    rw [hgz0] at y1 y2 y3
    exact ⟨x1, x2, x3, y1, y2, y3⟩
  have HX2 := Lib.hid hX2
  have HX1 : Hid (∀ W, Below W1.heap.size W1 W → W.cell? ⟨w.heap.size, 0, none⟩ = some (.bool s) ∧ W.cell? ⟨w.heap.size, 1, none⟩ = some (.slice A1 (nw9 a) c1) ∧ W.cell? ⟨w.heap.size, 2, none⟩ = some (.slice A2 (nw9 c) c2) ∧
      W.cell? ⟨w.heap.size + 1, 0, none⟩ = some (.bool t) ∧ W.cell? ⟨w.heap.size + 1, 1, none⟩ = some (.slice A3 (nw9 b) c3) ∧ W.cell? ⟨w.heap.size + 1, 2, none⟩ = some (.slice A4 (nw9 d) c4)) := fun W hW => by
    obtain ⟨x1, x2, x3⟩ := KX.out W (btr HB1.out hW)
    obtain ⟨y1, y2, y3⟩ := KY.out W hW
    rw [hgz0] at y1 y2 y3
    exact ⟨x1, x2, x3, y1, y2, y3⟩
  have KR2 : Hid (∀ W, Below W2.heap.size W2 W → W.heap[w.heap.size + 1 + 1]? = some (.cells #[.bool false, .slice none 0 0, .slice none 0 0] 29 (0, 0))) := fun W hW => by rw [← hz1]; exact KR.out W hW
  have HLe : Hid (W1.heap.size ≤ w.heap.size + 1 + 1) := by show _ ≤ _; omega
  have HM : Hid (∀ W, Below W2.heap.size W2 W → Below w.heap.size w W) := fun W h => btr HB0.out (btr HB1.out (btr HB2.out h))
  have B2d : Below W2.heap.size W2 W2.drew := Below.drew (Below.refl _ _)
  clear hX2
  go_region_held3 (fun w' => w'.cell? ⟨w.heap.size, 0, none⟩ = some (.bool s) ∧ w'.cell? ⟨w.heap.size, 1, none⟩ = some (.slice A1 (nw9 a) c1) ∧ w'.cell? ⟨w.heap.size, 2, none⟩ = some (.slice A2 (nw9 c) c2) ∧
      w'.cell? ⟨w.heap.size + 1, 0, none⟩ = some (.bool t) ∧ w'.cell? ⟨w.heap.size + 1, 1, none⟩ = some (.slice A3 (nw9 b) c3) ∧ w'.cell? ⟨w.heap.size + 1, 2, none⟩ = some (.slice A4 (nw9 d) c4))
    (first | exact HX2.out _ C2 | exact HX2.out _ C1 | exact HX2.out _ B2d | exact HX2.out _ (Below.refl _ _))
    (first
      | (go_at_call_of 56 (Value.slice A1 (nw9 a) c1); refine (HA.out _ (HM.out _ B2d)).mono ?_; rintro e w3 ⟨va, rfl, hva, hb3⟩; have C1 : Below W2.heap.size W2 w3 := btr B2d hb3)
      | (go_at_call_of 56 (Value.slice A3 (nw9 b) c3); refine (HBm.out _ (HM.out _ C1)).mono ?_; rintro e w4 ⟨vb, rfl, hvb, hb4⟩; have C2 : Below W2.heap.size W2 w4 := btr C1 hb4))
  all_goals
    have HVa := Lib.hid (hva.below hb4)
    have HVb := Lib.hid hvb
    have HC2 := Lib.hid C2
    obtain ⟨A5, c5, rfl⟩ := hva.sl
    obtain ⟨A6, c6, rfl⟩ := hvb.sl
    clear hva hvb hb3 hb4 C1 C2
    go_wp2_with fail
    refine (HD.out _ (HM.out _ HC2.out)).mono ?_
    rintro e w5 ⟨vd, rfl, hvd, hb5⟩
    have HVd := Lib.hid hvd
    have HVa5 := Lib.hid (HVa.out.below hb5)
    have HVb5 := Lib.hid (HVb.out.below hb5)
    have HC5 := Lib.hid (btr HC2.out hb5)
    obtain ⟨A7, c7, rfl⟩ := hvd.sl
    obtain ⟨x0, _, _, y0, _, _⟩ := HX2.out _ HC5.out
    clear hvd hb5 HA HBm HD HVa HVb
    have HNs2 := Lib.hid HNs.out
    generalize hgA : a * d = A at *
    generalize hgB : b * c = B at *
    generalize hgD : c * d = D at *
    have HgA := Lib.hid hgA; have HgB := Lib.hid hgB; have HgD := Lib.hid hgD
    clear hgA hgB hgD
    have HRed : Hid (∀ (bb : Bool) (N : Nat) (W : World) (u : Value), Below w5.heap.size w5 W → N9At W u N → nw9 N ≤ 20000001 → Calls Tryz.prog 46 #[.bool bb, u, .slice A7 (nw9 D) c7] W (RefRet (sgn bb (N / Nat.gcd N D)) (N / Nat.gcd N D) (D / Nat.gcd N D) W)) :=
      fun bb N W u hW hu hN => r_reduced W bb u _ N D hu (HVd.out.below hW) (by omega) (by have := HNs.out.2.2.1; omega) HNs.out.2.2.2
    by_cases hst : s = t
    · subst hst
      have HS1 : Hid (sumN s A s B = A + B) := by show _ = _; unfold sumN; rw [if_pos rfl]
      have HS2 : Hid (sumS s A s B = s) := by show _ = _; unfold sumS; rw [if_pos rfl]
      have HNp : Hid (nw9 (A + B) ≤ 20000001) := nw_add9 A B 20000000 HNs.out.1 HNs.out.2.1
      go_wp2_with fail
      have BKd : Below w5.heap.size w5 w5.drew := Below.drew (Below.refl _ _)
      have HXr : Hid (∀ W, Below w5.heap.size w5 W →  W.cell? ⟨w.heap.size, 0, none⟩ = some (.bool s) ∧ W.cell? ⟨w.heap.size, 1, none⟩ = some (.slice A1 (nw9 a) c1) ∧ W.cell? ⟨w.heap.size, 2, none⟩ = some (.slice A2 (nw9 c) c2) ∧ W.cell? ⟨w.heap.size + 1, 0, none⟩ = some (.bool s) ∧ W.cell? ⟨w.heap.size + 1, 1, none⟩ = some (.slice A3 (nw9 b) c3) ∧ W.cell? ⟨w.heap.size + 1, 2, none⟩ = some (.slice A4 (nw9 d) c4)) := fun W hW => HX2.out W (btr HC5.out hW)
      have HNr : Hid (∀ W, Below w5.heap.size w5 W → Below w5.heap.size w5 W) := fun W hW => hW
      have HLr : Hid (∀ W, Below w5.heap.size w5 W → Below W1.heap.size W1 W) := fun W hW => btr HB2.out (btr HC5.out hW)
      have HRr : Hid (∀ W, Below w5.heap.size w5 W → W.heap[w.heap.size + 1 + 1]? = some (.cells #[.bool false, .slice none 0 0, .slice none 0 0] 29 (0, 0))) := fun W hW => KR2.out W (btr HC5.out hW)
      go_region_held3 (fun w' => w'.cell? ⟨w.heap.size, 0, none⟩ = some (.bool s) ∧ w'.cell? ⟨w.heap.size, 1, none⟩ = some (.slice A1 (nw9 a) c1) ∧ w'.cell? ⟨w.heap.size, 2, none⟩ = some (.slice A2 (nw9 c) c2) ∧ w'.cell? ⟨w.heap.size + 1, 0, none⟩ = some (.bool s) ∧ w'.cell? ⟨w.heap.size + 1, 1, none⟩ = some (.slice A3 (nw9 b) c3) ∧ w'.cell? ⟨w.heap.size + 1, 2, none⟩ = some (.slice A4 (nw9 d) c4))
        (first | exact HX1.out _ ((((HLr.out _ C4).setCell (p := ⟨w.heap.size + 1 + 1, 0, none⟩) HLe.out _).setCell (p := ⟨w.heap.size + 1 + 1, 1, none⟩) HLe.out _).setCell (p := ⟨w.heap.size + 1 + 1, 2, none⟩) HLe.out _) | exact HXr.out _ C4 | exact HXr.out _ C3 | exact HXr.out _ BKd | exact HXr.out _ (Below.refl _ _))
        (first
          | (go_at_call 58; refine (r_plus _ _ _ A B (HVa5.out.below BKd) (HVb5.out.below BKd) (by have := HNs.out.1; omega) (by have := HNs.out.2.1; omega)).mono ?_; rintro e w7 ⟨vp, rfl, hvp, hb7⟩; have C3 : Below w5.heap.size w5 w7 := btr BKd hb7)
          | (go_at_call 46; refine (HRed.out s (A + B) _ vp (HNr.out _ C3) hvp HNp.out).mono ?_; rintro e w8 ⟨vr, rfl, hvr, hb8⟩; have C4 : Below w5.heap.size w5 w8 := btr C3 hb8; obtain ⟨zu, zv, rfl, hzu, hzv⟩ := hvr; have HZu := Lib.hid hzu; have HZv := Lib.hid hzv; obtain ⟨A8, c8, rfl⟩ := hzu.sl; obtain ⟨A9, c9, rfl⟩ := hzv.sl; clear hzu hzv; obtain ⟨r0, r1, r2, f0, f1, f2⟩ := res_r (HRr.out _ C4)))
      all_goals
        have hrow := HRr.out _ C4
        have HL := Lib.hid (HM.out _ (btr HC5.out C4))
        clear hvp hb7 hb8 C3 C4 r0 r1 r2 f0 f1 f2
        have hno := ref_noint hrow
        go_wp2
        refine bodyPost_ret (results_cell_row Tryz.results13 _ _ (w.heap.size + 1 + 1) 29 _ (0, 0) _ rfl (put3 hrow _ _ _) Tryz.underlying29 rfl (by rw [info_ref]; rfl)) rfl
          ⟨_, rfl, ?_, HL.out.grown (grown3 _ _ _ _ _) HL.out.size (fun j hj => by injection hj with hj; omega)⟩
        rw [HgA.out, HgB.out, HgD.out, HS1.out, HS2.out]
        exact ⟨_, _, rfl, HZu.out.apart hno (grown3 _ _ _ _ _), HZv.out.apart hno (grown3 _ _ _ _ _)⟩
    · have hst' : (s == t) = false := by rw [beq_eq_false_iff_ne]; exact hst
      rcases Nat.lt_or_ge A B with hlt | hle
      · have HS1 : Hid (sumN s A t B = B - A) := by show _ = _; unfold sumN; rw [if_neg hst, if_pos hlt]
        have HS2 : Hid (sumS s A t B = t) := by show _ = _; unfold sumS; rw [if_neg hst, if_pos hlt]
        have HNp : Hid (nw9 (B - A) ≤ 20000001) := Nat.le_trans (nw_mono9 (Nat.sub_le _ _)) (by have := HNs.out.2.1; omega)
        have HCm := Lib.hid (r_cmpN w5 _ _ A B HVa5.out HVb5.out)
        have HLt := Lib.hid hlt
        have hcc := cmpN_lt hlt
        clear hlt
        generalize cmpN A B = cc at *
        have hc0 : ¬ (0 ≤ cc) := by omega
        go_wp2_with fail
        refine HCm.out.mono ?_
        rintro e w6 ⟨rfl, nd, rfl⟩
        have HC6 := Lib.hid (below_drewN (Below.refl w5.heap.size w5) nd)
        have HC6b := Lib.hid (btr HC5.out HC6.out)
        have HVa6 := Lib.hid (HVa5.out.below HC6.out)
        have HVb6 := Lib.hid (HVb5.out.below HC6.out)
        generalize w5.drewN nd = w6 at *
        go_wp2_with fail
        have BKd : Below w6.heap.size w6 w6.drew := Below.drew (Below.refl _ _)
        have HXr : Hid (∀ W, Below w6.heap.size w6 W →  W.cell? ⟨w.heap.size, 0, none⟩ = some (.bool s) ∧ W.cell? ⟨w.heap.size, 1, none⟩ = some (.slice A1 (nw9 a) c1) ∧ W.cell? ⟨w.heap.size, 2, none⟩ = some (.slice A2 (nw9 c) c2) ∧ W.cell? ⟨w.heap.size + 1, 0, none⟩ = some (.bool t) ∧ W.cell? ⟨w.heap.size + 1, 1, none⟩ = some (.slice A3 (nw9 b) c3) ∧ W.cell? ⟨w.heap.size + 1, 2, none⟩ = some (.slice A4 (nw9 d) c4)) := fun W hW => HX2.out W (btr HC6b.out hW)
        have HNr : Hid (∀ W, Below w6.heap.size w6 W → Below w5.heap.size w5 W) := fun W hW => btr HC6.out hW
        have HLr : Hid (∀ W, Below w6.heap.size w6 W → Below W1.heap.size W1 W) := fun W hW => btr HB2.out (btr HC6b.out hW)
        have HRr : Hid (∀ W, Below w6.heap.size w6 W → W.heap[w.heap.size + 1 + 1]? = some (.cells #[.bool false, .slice none 0 0, .slice none 0 0] 29 (0, 0))) := fun W hW => KR2.out W (btr HC6b.out hW)
        go_region_held3 (fun w' => w'.cell? ⟨w.heap.size, 0, none⟩ = some (.bool s) ∧ w'.cell? ⟨w.heap.size, 1, none⟩ = some (.slice A1 (nw9 a) c1) ∧ w'.cell? ⟨w.heap.size, 2, none⟩ = some (.slice A2 (nw9 c) c2) ∧ w'.cell? ⟨w.heap.size + 1, 0, none⟩ = some (.bool t) ∧ w'.cell? ⟨w.heap.size + 1, 1, none⟩ = some (.slice A3 (nw9 b) c3) ∧ w'.cell? ⟨w.heap.size + 1, 2, none⟩ = some (.slice A4 (nw9 d) c4))
          (first | exact HX1.out _ ((((HLr.out _ C4).setCell (p := ⟨w.heap.size + 1 + 1, 0, none⟩) HLe.out _).setCell (p := ⟨w.heap.size + 1 + 1, 1, none⟩) HLe.out _).setCell (p := ⟨w.heap.size + 1 + 1, 2, none⟩) HLe.out _) | exact HXr.out _ C4 | exact HXr.out _ C3 | exact HXr.out _ BKd | exact HXr.out _ (Below.refl _ _))
          (first
            | (go_at_call 60; refine (r_minus _ _ _ B A (HVb6.out.below BKd) (HVa6.out.below BKd) (by have := HNs.out.2.1; omega) (Nat.le_of_lt HLt.out)).mono ?_; rintro e w7 ⟨vp, rfl, hvp, hb7⟩; have C3 : Below w6.heap.size w6 w7 := btr BKd hb7)
            | (go_at_call 46; refine (HRed.out t (B - A) _ vp (HNr.out _ C3) hvp HNp.out).mono ?_; rintro e w8 ⟨vr, rfl, hvr, hb8⟩; have C4 : Below w6.heap.size w6 w8 := btr C3 hb8; obtain ⟨zu, zv, rfl, hzu, hzv⟩ := hvr; have HZu := Lib.hid hzu; have HZv := Lib.hid hzv; obtain ⟨A8, c8, rfl⟩ := hzu.sl; obtain ⟨A9, c9, rfl⟩ := hzv.sl; clear hzu hzv; obtain ⟨r0, r1, r2, f0, f1, f2⟩ := res_r (HRr.out _ C4)))
        all_goals
          have hrow := HRr.out _ C4
          have HL := Lib.hid (HM.out _ (btr HC6b.out C4))
          clear hvp hb7 hb8 C3 C4 r0 r1 r2 f0 f1 f2
          have hno := ref_noint hrow
          go_wp2
          refine bodyPost_ret (results_cell_row Tryz.results13 _ _ (w.heap.size + 1 + 1) 29 _ (0, 0) _ rfl (put3 hrow _ _ _) Tryz.underlying29 rfl (by rw [info_ref]; rfl)) rfl
            ⟨_, rfl, ?_, HL.out.grown (grown3 _ _ _ _ _) HL.out.size (fun j hj => by injection hj with hj; omega)⟩
          rw [HgA.out, HgB.out, HgD.out, HS1.out, HS2.out]
          exact ⟨_, _, rfl, HZu.out.apart hno (grown3 _ _ _ _ _), HZv.out.apart hno (grown3 _ _ _ _ _)⟩
      · have HS1 : Hid (sumN s A t B = A - B) := by show _ = _; unfold sumN; rw [if_neg hst, if_neg (by omega)]
        have HS2 : Hid (sumS s A t B = s) := by show _ = _; unfold sumS; rw [if_neg hst, if_neg (by omega)]
        have HNp : Hid (nw9 (A - B) ≤ 20000001) := Nat.le_trans (nw_mono9 (Nat.sub_le _ _)) (by have := HNs.out.1; omega)
        have HCm := Lib.hid (r_cmpN w5 _ _ A B HVa5.out HVb5.out)
        have HLt := Lib.hid hle
        have hcc : 0 ≤ cmpN A B := by
          rcases Nat.lt_or_ge B A with h9 | h9
          · rw [cmpN_gt h9]; omega
          · rw [show A = B by omega, cmpN_eq]; omega
        clear hle
        generalize cmpN A B = cc at *
        have hc0 : 0 ≤ cc := hcc
        go_wp2_with fail
        refine HCm.out.mono ?_
        rintro e w6 ⟨rfl, nd, rfl⟩
        have HC6 := Lib.hid (below_drewN (Below.refl w5.heap.size w5) nd)
        have HC6b := Lib.hid (btr HC5.out HC6.out)
        have HVa6 := Lib.hid (HVa5.out.below HC6.out)
        have HVb6 := Lib.hid (HVb5.out.below HC6.out)
        generalize w5.drewN nd = w6 at *
        go_wp2_with fail
        have BKd : Below w6.heap.size w6 w6.drew := Below.drew (Below.refl _ _)
        have HXr : Hid (∀ W, Below w6.heap.size w6 W →  W.cell? ⟨w.heap.size, 0, none⟩ = some (.bool s) ∧ W.cell? ⟨w.heap.size, 1, none⟩ = some (.slice A1 (nw9 a) c1) ∧ W.cell? ⟨w.heap.size, 2, none⟩ = some (.slice A2 (nw9 c) c2) ∧ W.cell? ⟨w.heap.size + 1, 0, none⟩ = some (.bool t) ∧ W.cell? ⟨w.heap.size + 1, 1, none⟩ = some (.slice A3 (nw9 b) c3) ∧ W.cell? ⟨w.heap.size + 1, 2, none⟩ = some (.slice A4 (nw9 d) c4)) := fun W hW => HX2.out W (btr HC6b.out hW)
        have HNr : Hid (∀ W, Below w6.heap.size w6 W → Below w5.heap.size w5 W) := fun W hW => btr HC6.out hW
        have HLr : Hid (∀ W, Below w6.heap.size w6 W → Below W1.heap.size W1 W) := fun W hW => btr HB2.out (btr HC6b.out hW)
        have HRr : Hid (∀ W, Below w6.heap.size w6 W → W.heap[w.heap.size + 1 + 1]? = some (.cells #[.bool false, .slice none 0 0, .slice none 0 0] 29 (0, 0))) := fun W hW => KR2.out W (btr HC6b.out hW)
        go_region_held3 (fun w' => w'.cell? ⟨w.heap.size, 0, none⟩ = some (.bool s) ∧ w'.cell? ⟨w.heap.size, 1, none⟩ = some (.slice A1 (nw9 a) c1) ∧ w'.cell? ⟨w.heap.size, 2, none⟩ = some (.slice A2 (nw9 c) c2) ∧ w'.cell? ⟨w.heap.size + 1, 0, none⟩ = some (.bool t) ∧ w'.cell? ⟨w.heap.size + 1, 1, none⟩ = some (.slice A3 (nw9 b) c3) ∧ w'.cell? ⟨w.heap.size + 1, 2, none⟩ = some (.slice A4 (nw9 d) c4))
          (first | exact HX1.out _ ((((HLr.out _ C4).setCell (p := ⟨w.heap.size + 1 + 1, 0, none⟩) HLe.out _).setCell (p := ⟨w.heap.size + 1 + 1, 1, none⟩) HLe.out _).setCell (p := ⟨w.heap.size + 1 + 1, 2, none⟩) HLe.out _) | exact HXr.out _ C4 | exact HXr.out _ C3 | exact HXr.out _ BKd | exact HXr.out _ (Below.refl _ _))
          (first
            | (go_at_call 60; refine (r_minus _ _ _ A B (HVa6.out.below BKd) (HVb6.out.below BKd) (by have := HNs.out.1; omega) HLt.out).mono ?_; rintro e w7 ⟨vp, rfl, hvp, hb7⟩; have C3 : Below w6.heap.size w6 w7 := btr BKd hb7)
            | (go_at_call 46; refine (HRed.out s (A - B) _ vp (HNr.out _ C3) hvp HNp.out).mono ?_; rintro e w8 ⟨vr, rfl, hvr, hb8⟩; have C4 : Below w6.heap.size w6 w8 := btr C3 hb8; obtain ⟨zu, zv, rfl, hzu, hzv⟩ := hvr; have HZu := Lib.hid hzu; have HZv := Lib.hid hzv; obtain ⟨A8, c8, rfl⟩ := hzu.sl; obtain ⟨A9, c9, rfl⟩ := hzv.sl; clear hzu hzv; obtain ⟨r0, r1, r2, f0, f1, f2⟩ := res_r (HRr.out _ C4)))
        all_goals
          have hrow := HRr.out _ C4
          have HL := Lib.hid (HM.out _ (btr HC6b.out C4))
          clear hvp hb7 hb8 C3 C4 r0 r1 r2 f0 f1 f2
          have hno := ref_noint hrow
          go_wp2
          refine bodyPost_ret (results_cell_row Tryz.results13 _ _ (w.heap.size + 1 + 1) 29 _ (0, 0) _ rfl (put3 hrow _ _ _) Tryz.underlying29 rfl (by rw [info_ref]; rfl)) rfl
            ⟨_, rfl, ?_, HL.out.grown (grown3 _ _ _ _ _) HL.out.size (fun j hj => by injection hj with hj; omega)⟩
          rw [HgA.out, HgB.out, HgD.out, HS1.out, HS2.out]
          exact ⟨_, _, rfl, HZu.out.apart hno (grown3 _ _ _ _ _), HZv.out.apart hno (grown3 _ _ _ _ _)⟩
end Go.Proofs.YthcpcaoapkmchaaGreatDoor
end

/- The reference's products and quotients: the arithmetic. -/
section
namespace Go.Proofs.YthcpcaoapkmchaaGreatDoor
open Go.RowKit Go.Deep

theorem ref_mul (p q : Rat) (s : Bool) (n : Nat) (h : sInt s n = q.num) :
    sgn (decide (p.num < 0) != s) (p.num.natAbs * n / Nat.gcd (p.num.natAbs * n) (p.den * q.den)) = decide ((p * q).num < 0) ∧
    p.num.natAbs * n / Nat.gcd (p.num.natAbs * n) (p.den * q.den) = (p * q).num.natAbs ∧
    p.den * q.den / Nat.gcd (p.num.natAbs * n) (p.den * q.den) = (p * q).den := by
  have hn : n = q.num.natAbs := by rw [← h, sInt_natAbs]
  have hD : 0 < p.den * q.den := Nat.mul_pos p.den_pos q.den_pos
  have hm := Rat.mul_def p q
  rw [Rat.normalize_eq] at hm
  have en : (p * q).num = (p.num * q.num) / ((Nat.gcd (p.num * q.num).natAbs (p.den * q.den) : Nat) : Int) := by rw [hm]
  have ed : (p * q).den = p.den * q.den / Nat.gcd (p.num * q.num).natAbs (p.den * q.den) := by rw [hm]
  have ea : (p.num * q.num).natAbs = p.num.natAbs * n := by rw [Int.natAbs_mul, hn]
  have hs0 : s = true → q.num ≤ 0 := fun e => by rw [← h, e]; unfold sInt; rw [if_pos rfl]; omega
  have hs1 : s = false → 0 ≤ q.num := fun e => by rw [← h, e]; unfold sInt; rw [if_neg (by decide)]; omega
  rw [en, ed]
  clear hm en ed h
  rw [ea]
  have hg0 : 0 < Nat.gcd (p.num.natAbs * n) (p.den * q.den) := Nat.gcd_pos_of_pos_right _ hD
  have hcM : ((Nat.gcd (p.num.natAbs * n) (p.den * q.den) : Nat) : Int) ∣ p.num * q.num := by
    rw [← Int.natAbs_dvd_natAbs, Int.natAbs_natCast, ea]; exact Nat.gcd_dvd_left _ _
  generalize hgg : Nat.gcd (p.num.natAbs * n) (p.den * q.den) = c at *
  obtain ⟨m, hmm⟩ := hcM
  have e1 : p.num.natAbs * n = c * m.natAbs := by rw [← ea, hmm, Int.natAbs_mul, Int.natAbs_natCast]
  have hc1 : p.num * q.num / c = m := by rw [hmm]; exact Int.mul_ediv_cancel_left _ (by omega)
  have hc2 : p.num.natAbs * n / c = m.natAbs := by rw [e1, Nat.mul_div_cancel_left _ hg0]
  rw [hc1, hc2]
  refine ⟨?_, rfl, rfl⟩
  have hpos : (0 < m) ↔ 0 < p.num * q.num := by
    rw [hmm]
    constructor
    · intro h9; exact Int.mul_pos (by omega) h9
    · intro h9
      rcases (by omega : 0 < m ∨ m ≤ 0) with h8 | h8
      · exact h8
      · have := Int.mul_nonneg (show (0 : Int) ≤ c by omega) (show 0 ≤ -m by omega)
        rw [Int.mul_neg] at this
        omega
  have hneg : (m < 0) ↔ p.num * q.num < 0 := by
    rw [hmm]
    constructor
    · intro h9; exact Int.mul_neg_of_pos_of_neg (by omega) h9
    · intro h9
      rcases (by omega : m < 0 ∨ 0 ≤ m) with h8 | h8
      · exact h8
      · have := Int.mul_nonneg (show (0 : Int) ≤ c by omega) h8
        omega
  unfold sgn
  rw [Bool.eq_iff_iff]
  simp only [Bool.and_eq_true, bne_iff_ne, ne_eq, decide_eq_true_eq]
  constructor
  · rintro ⟨h1, h2⟩
    have hm0 : m ≠ 0 := by omega
    rw [hneg]
    have hz : p.num * q.num ≠ 0 := by
      intro h0
      rcases Int.lt_or_gt_of_ne hm0 with h8 | h8
      · have := hneg.1 h8; omega
      · have := hpos.1 h8; omega
    have hp0 : p.num ≠ 0 := fun h0 => hz (by rw [h0, Int.zero_mul])
    have hq0 : q.num ≠ 0 := fun h0 => hz (by rw [h0, Int.mul_zero])
    cases s with
    | true =>
      have hp1 : ¬ p.num < 0 := fun h8 => h1 (decide_eq_true h8)
      have := hs0 rfl
      exact Int.mul_neg_of_pos_of_neg (by omega) (by omega)
    | false =>
      have hp1 : p.num < 0 := by
        by_cases h8 : p.num < 0
        · exact h8
        · exact absurd (decide_eq_false h8) h1
      have := hs1 rfl
      rw [Int.mul_comm]
      exact Int.mul_neg_of_pos_of_neg (by omega) (by omega)
  · intro h9
    have h8 := hneg.1 h9
    refine ⟨?_, by omega⟩
    cases s with
    | true =>
      intro h7
      have h6 : p.num < 0 := of_decide_eq_true h7
      have := hs0 rfl
      have := Int.mul_nonneg (show 0 ≤ -p.num by omega) (show 0 ≤ -q.num by omega)
      rw [Int.neg_mul_neg] at this
      omega
    | false =>
      intro h7
      have h6 : ¬ p.num < 0 := of_decide_eq_false h7
      have := hs1 rfl
      have := Int.mul_nonneg (show 0 ≤ p.num by omega) (show 0 ≤ q.num by omega)
      omega
/-- The same of a quotient. -/
theorem ref_quo (p q : Rat) (hq : q.num ≠ 0) :
    sgn (decide (p.num < 0) != decide (q.num < 0)) (p.num.natAbs * q.den / Nat.gcd (p.num.natAbs * q.den) (p.den * q.num.natAbs)) = decide ((p / q).num < 0) ∧
    p.num.natAbs * q.den / Nat.gcd (p.num.natAbs * q.den) (p.den * q.num.natAbs) = (p / q).num.natAbs ∧
    p.den * q.num.natAbs / Nat.gcd (p.num.natAbs * q.den) (p.den * q.num.natAbs) = (p / q).den := by
  obtain ⟨i1, i2⟩ := rat_inv q hq
  have h9 := ref_mul p q⁻¹ (decide (q.num < 0)) q.den i1.symm
  rw [← Rat.div_def, i2] at h9
  exact h9
end Go.Proofs.YthcpcaoapkmchaaGreatDoor
end

/- The reference's products and quotients. -/
section
namespace Go.Proofs.YthcpcaoapkmchaaGreatDoor
open Go.RowKit Go.Deep

set_option maxRecDepth 100000 in
set_option maxHeartbeats 8000000 in
theorem r_Mul (w : World) (x y : Value) (p q : Rat) (hx : RefV w x p) (hy : RefV w y q) (k1 : RefW p 10000000) (k2 : RefW q 10000000) :
    Calls Tryz.prog 17 #[x, y] w fun e w' => ∃ r, e = .returned r ∧ RefV w' r (p * q) ∧ Below w.heap.size w w' := by
  obtain ⟨e1, e2, e3⟩ := ref_mul p q (decide (q.num < 0)) q.num.natAbs (sInt_of _)
  have hp0 := p.den_pos
  have hq0 := q.den_pos
  obtain ⟨xu, xv, rfl, hxu, hxv⟩ := hx
  obtain ⟨yu, yv, rfl, hyu, hyv⟩ := hy
  obtain ⟨k1a, k1b⟩ := k1
  obtain ⟨k2a, k2b⟩ := k2
  unfold RefV
  rw [← e1, ← e2, ← e3]
  clear e1 e2 e3
  generalize decide (p.num < 0) = s at *
  generalize decide (q.num < 0) = t at *
  generalize p.num.natAbs = a at *
  generalize q.num.natAbs = b at *
  generalize p.den = c at *
  generalize q.den = d at *
  have HA := Lib.hid (fun W (hW : Below w.heap.size w W) => r_times W xu yu a b (hxu.below hW) (hyu.below hW) (by omega) (by omega))
  have HBm := Lib.hid (fun W (hW : Below w.heap.size w W) => r_times W xv yv c d (hxv.below hW) (hyv.below hW) (by omega) (by omega))
  have nA := refW_mul a b _ _ k1a k2a
  have nB := refW_mul c d _ _ k1b k2b
  have hD0 : 0 < c * d := Nat.mul_pos hp0 hq0
  have HNs := Lib.hid (And.intro nA (And.intro nB hD0))
  obtain ⟨A1, c1, rfl⟩ := hxu.sl
  obtain ⟨A2, c2, rfl⟩ := hxv.sl
  obtain ⟨A3, c3, rfl⟩ := hyu.sl
  obtain ⟨A4, c4, rfl⟩ := hyv.sl
  clear hxu hxv hyu hyv nA nB hD0 k1a k1b k2a k2b hp0 hq0
  obtain ⟨W0, hW0, hB0, hz0, KX⟩ := ref_box w s (.slice A1 (nw9 a) c1) (.slice A2 (nw9 c) c2)
  obtain ⟨W1, hW1, hB1, hz1, KY⟩ := ref_box W0 t (.slice A3 (nw9 b) c3) (.slice A4 (nw9 d) c4)
  obtain ⟨W2, hW2, hB2, hz2, KR⟩ := zero_box W1
  have HB0 := Lib.hid hB0
  have HB1 := Lib.hid hB1
  have HB2 := Lib.hid hB2
  rw [hz0] at hz1
  rw [hz1] at hz2
  clear hB0 hB1 hB2
  have hgz0 : W0.heap.size = w.heap.size + 1 := hz0
  have HX1 : Hid (∀ W, Below W1.heap.size W1 W → W.cell? ⟨w.heap.size, 0, none⟩ = some (.bool s) ∧ W.cell? ⟨w.heap.size, 1, none⟩ = some (.slice A1 (nw9 a) c1) ∧ W.cell? ⟨w.heap.size, 2, none⟩ = some (.slice A2 (nw9 c) c2) ∧ W.cell? ⟨w.heap.size + 1, 0, none⟩ = some (.bool t) ∧ W.cell? ⟨w.heap.size + 1, 1, none⟩ = some (.slice A3 (nw9 b) c3) ∧ W.cell? ⟨w.heap.size + 1, 2, none⟩ = some (.slice A4 (nw9 d) c4)) := fun W hW => by
    obtain ⟨x1, x2, x3⟩ := KX.out W (btr HB1.out hW)
    obtain ⟨y1, y2, y3⟩ := KY.out W hW
    rw [hgz0] at y1 y2 y3
    exact ⟨x1, x2, x3, y1, y2, y3⟩
  have HX2 : Hid (∀ W, Below W2.heap.size W2 W → W.cell? ⟨w.heap.size, 0, none⟩ = some (.bool s) ∧ W.cell? ⟨w.heap.size, 1, none⟩ = some (.slice A1 (nw9 a) c1) ∧ W.cell? ⟨w.heap.size, 2, none⟩ = some (.slice A2 (nw9 c) c2) ∧ W.cell? ⟨w.heap.size + 1, 0, none⟩ = some (.bool t) ∧ W.cell? ⟨w.heap.size + 1, 1, none⟩ = some (.slice A3 (nw9 b) c3) ∧ W.cell? ⟨w.heap.size + 1, 2, none⟩ = some (.slice A4 (nw9 d) c4)) := fun W hW => HX1.out W (btr HB2.out hW)
  have KR2 : Hid (∀ W, Below W2.heap.size W2 W → W.heap[w.heap.size + 1 + 1]? = some (.cells #[.bool false, .slice none 0 0, .slice none 0 0] 29 (0, 0))) := fun W hW => by rw [← hz1]; exact KR.out W hW
  have HLe : Hid (W1.heap.size ≤ w.heap.size + 1 + 1) := by show _ ≤ _; omega
  have HM : Hid (∀ W, Below W2.heap.size W2 W → Below w.heap.size w W) := fun W h => btr HB0.out (btr HB1.out (btr HB2.out h))
  have HL1 : Hid (∀ W, Below W2.heap.size W2 W → Below W1.heap.size W1 W) := fun W h => btr HB2.out h
  obtain ⟨x0, x1, x2, y0, y1, y2⟩ := HX2.out W2 (Below.refl _ _)
  go_enter Tryz.func17, Tryz.ntmps17
  go_wp2_with fail
  clear x0 x1 x2 y0 y1 y2
  generalize hgA : a * b = A at *
  generalize hgB : c * d = B at *
  have HgA := Lib.hid hgA; have HgB := Lib.hid hgB
  clear hgA hgB
  have B2d : Below W2.heap.size W2 W2.drew := Below.drew (Below.refl _ _)
  have HRed : Hid (∀ (bb : Bool) (W : World) (u v : Value), N9At W u A → N9At W v B → Calls Tryz.prog 46 #[.bool bb, u, v] W (RefRet (sgn bb (A / Nat.gcd A B)) (A / Nat.gcd A B) (B / Nat.gcd A B) W)) :=
    fun bb W u v hu hv => r_reduced W bb u v A B hu hv (by have := HNs.out.1; omega) (by have := HNs.out.2.1; omega) HNs.out.2.2
  go_region_held3 (fun W => W.cell? ⟨w.heap.size, 0, none⟩ = some (.bool s) ∧ W.cell? ⟨w.heap.size, 1, none⟩ = some (.slice A1 (nw9 a) c1) ∧ W.cell? ⟨w.heap.size, 2, none⟩ = some (.slice A2 (nw9 c) c2) ∧ W.cell? ⟨w.heap.size + 1, 0, none⟩ = some (.bool t) ∧ W.cell? ⟨w.heap.size + 1, 1, none⟩ = some (.slice A3 (nw9 b) c3) ∧ W.cell? ⟨w.heap.size + 1, 2, none⟩ = some (.slice A4 (nw9 d) c4))
    (first | exact HX1.out _ ((((HL1.out _ C3).setCell (p := ⟨w.heap.size + 1 + 1, 0, none⟩) HLe.out _).setCell (p := ⟨w.heap.size + 1 + 1, 1, none⟩) HLe.out _).setCell (p := ⟨w.heap.size + 1 + 1, 2, none⟩) HLe.out _) | exact HX2.out _ C3 | exact HX2.out _ C2 | exact HX2.out _ C1 | exact HX2.out _ B2d | exact HX2.out _ (Below.refl _ _))
    (first
      | (go_at_call_of 56 (Value.slice A1 (nw9 a) c1); refine (HA.out _ (HM.out _ B2d)).mono ?_; rintro e w3 ⟨va, rfl, hva, hb3⟩; have C1 : Below W2.heap.size W2 w3 := btr B2d hb3)
      | (go_at_call_of 56 (Value.slice A2 (nw9 c) c2); refine (HBm.out _ (HM.out _ C1)).mono ?_; rintro e w4 ⟨vb, rfl, hvb, hb4⟩; have C2 : Below W2.heap.size W2 w4 := btr C1 hb4; have HVa := Lib.hid (hva.below hb4); have HVb := Lib.hid hvb; obtain ⟨A5, c5, rfl⟩ := hva.sl; obtain ⟨A6, c6, rfl⟩ := hvb.sl)
      | (go_at_call 46; refine (HRed.out _ _ _ _ HVa.out HVb.out).mono ?_; rintro e w8 ⟨vr, rfl, hvr, hb8⟩; have C3 : Below W2.heap.size W2 w8 := btr C2 hb8; obtain ⟨zu, zv, rfl, hzu, hzv⟩ := hvr; have HZu := Lib.hid hzu; have HZv := Lib.hid hzv; obtain ⟨A8, c8, rfl⟩ := hzu.sl; obtain ⟨A9, c9, rfl⟩ := hzv.sl; obtain ⟨r0, r1, r2, f0, f1, f2⟩ := res_r (KR2.out _ C3)))
  all_goals
    have hrow := KR2.out _ C3
    have HL := Lib.hid (HM.out _ C3)
    clear hva hvb hzu hzv hb3 hb4 hb8 C1 C2 C3 r0 r1 r2 f0 f1 f2
    have hno := ref_noint hrow
    go_wp2
    refine bodyPost_ret (results_cell_row Tryz.results17 _ _ (w.heap.size + 1 + 1) 29 _ (0, 0) _ rfl (put3 hrow _ _ _) Tryz.underlying29 rfl (by rw [info_ref]; rfl)) rfl
      ⟨_, rfl, ?_, HL.out.grown (grown3 _ _ _ _ _) HL.out.size (fun j hj => by injection hj with hj; omega)⟩
    rw [HgA.out, HgB.out]
    exact ⟨_, _, rfl, HZu.out.apart hno (grown3 _ _ _ _ _), HZv.out.apart hno (grown3 _ _ _ _ _)⟩
set_option maxRecDepth 100000 in
set_option maxHeartbeats 8000000 in
theorem r_Quo (w : World) (x y : Value) (p q : Rat) (hx : RefV w x p) (hy : RefV w y q) (k1 : RefW p 10000000) (k2 : RefW q 10000000) (hq : q ≠ 0) :
    Calls Tryz.prog 11 #[x, y] w fun e w' => ∃ r, e = .returned (.tuple #[r, .int .i64 0]) ∧ RefV w' r (p / q) ∧ Below w.heap.size w w' := by
  have hqn : q.num ≠ 0 := fun h => hq (Rat.num_eq_zero.1 h)
  obtain ⟨e1, e2, e3⟩ := ref_quo p q hqn
  have hp0 := p.den_pos
  have hq0 := q.den_pos
  have hb0 : 0 < q.num.natAbs := by omega
  clear hqn hq
  obtain ⟨xu, xv, rfl, hxu, hxv⟩ := hx
  obtain ⟨yu, yv, rfl, hyu, hyv⟩ := hy
  obtain ⟨k1a, k1b⟩ := k1
  obtain ⟨k2a, k2b⟩ := k2
  unfold RefV
  rw [← e1, ← e2, ← e3]
  clear e1 e2 e3
  generalize decide (p.num < 0) = s at *
  generalize decide (q.num < 0) = t at *
  generalize p.num.natAbs = a at *
  generalize q.num.natAbs = b at *
  generalize p.den = c at *
  generalize q.den = d at *
  have HA := Lib.hid (fun W (hW : Below w.heap.size w W) => r_times W xu yv a d (hxu.below hW) (hyv.below hW) (by omega) (by omega))
  have HBm := Lib.hid (fun W (hW : Below w.heap.size w W) => r_times W xv yu c b (hxv.below hW) (hyu.below hW) (by omega) (by omega))
  have nA := refW_mul a d _ _ k1a k2b
  have nB := refW_mul c b _ _ k1b k2a
  have hD0 : 0 < c * b := Nat.mul_pos hp0 hb0
  have HNs := Lib.hid (And.intro nA (And.intro nB hD0))
  have hbe : ((nw9 b : Int) == 0) = false := by
    rw [beq_eq_false_iff_ne]
    have := (nw_pos9 b).2 hb0
    omega
  obtain ⟨A1, c1, rfl⟩ := hxu.sl
  obtain ⟨A2, c2, rfl⟩ := hxv.sl
  obtain ⟨A3, c3, rfl⟩ := hyu.sl
  obtain ⟨A4, c4, rfl⟩ := hyv.sl
  clear hxu hxv hyu hyv nA nB hD0 k1a k1b k2a k2b hp0 hq0 hb0
  obtain ⟨W0, hW0, hB0, hz0, KX⟩ := ref_box w s (.slice A1 (nw9 a) c1) (.slice A2 (nw9 c) c2)
  obtain ⟨W1, hW1, hB1, hz1, KY⟩ := ref_box W0 t (.slice A3 (nw9 b) c3) (.slice A4 (nw9 d) c4)
  obtain ⟨W2, hW2, hB2, hz2, KR⟩ := zero_box W1
  have HB0 := Lib.hid hB0
  have HB1 := Lib.hid hB1
  have HB2 := Lib.hid hB2
  rw [hz0] at hz1
  rw [hz1] at hz2
  clear hB0 hB1 hB2
  have hgz0 : W0.heap.size = w.heap.size + 1 := hz0
  have HX1 : Hid (∀ W, Below W1.heap.size W1 W → W.cell? ⟨w.heap.size, 0, none⟩ = some (.bool s) ∧ W.cell? ⟨w.heap.size, 1, none⟩ = some (.slice A1 (nw9 a) c1) ∧ W.cell? ⟨w.heap.size, 2, none⟩ = some (.slice A2 (nw9 c) c2) ∧ W.cell? ⟨w.heap.size + 1, 0, none⟩ = some (.bool t) ∧ W.cell? ⟨w.heap.size + 1, 1, none⟩ = some (.slice A3 (nw9 b) c3) ∧ W.cell? ⟨w.heap.size + 1, 2, none⟩ = some (.slice A4 (nw9 d) c4)) := fun W hW => by
    obtain ⟨x1, x2, x3⟩ := KX.out W (btr HB1.out hW)
    obtain ⟨y1, y2, y3⟩ := KY.out W hW
    rw [hgz0] at y1 y2 y3
    exact ⟨x1, x2, x3, y1, y2, y3⟩
  have HX2 : Hid (∀ W, Below W2.heap.size W2 W → W.cell? ⟨w.heap.size, 0, none⟩ = some (.bool s) ∧ W.cell? ⟨w.heap.size, 1, none⟩ = some (.slice A1 (nw9 a) c1) ∧ W.cell? ⟨w.heap.size, 2, none⟩ = some (.slice A2 (nw9 c) c2) ∧ W.cell? ⟨w.heap.size + 1, 0, none⟩ = some (.bool t) ∧ W.cell? ⟨w.heap.size + 1, 1, none⟩ = some (.slice A3 (nw9 b) c3) ∧ W.cell? ⟨w.heap.size + 1, 2, none⟩ = some (.slice A4 (nw9 d) c4)) := fun W hW => HX1.out W (btr HB2.out hW)
  have KR2 : Hid (∀ W, Below W2.heap.size W2 W → W.heap[w.heap.size + 1 + 1]? = some (.cells #[.bool false, .slice none 0 0, .slice none 0 0] 29 (0, 0))) := fun W hW => by rw [← hz1]; exact KR.out W hW
  have HLe : Hid (W1.heap.size ≤ w.heap.size + 1 + 1) := by show _ ≤ _; omega
  have HM : Hid (∀ W, Below W2.heap.size W2 W → Below w.heap.size w W) := fun W h => btr HB0.out (btr HB1.out (btr HB2.out h))
  have HL1 : Hid (∀ W, Below W2.heap.size W2 W → Below W1.heap.size W1 W) := fun W h => btr HB2.out h
  obtain ⟨x0, x1, x2, y0, y1, y2⟩ := HX2.out W2 (Below.refl _ _)
  go_enter Tryz.func11, Tryz.ntmps11
  go_wp2_with fail
  clear x0 x1 x2 y0 y1 y2
  generalize hgA : a * d = A at *
  generalize hgB : c * b = B at *
  have HgA := Lib.hid hgA; have HgB := Lib.hid hgB
  clear hgA hgB
  have B2d : Below W2.heap.size W2 W2.drew := Below.drew (Below.refl _ _)
  have HRed : Hid (∀ (bb : Bool) (W : World) (u v : Value), N9At W u A → N9At W v B → Calls Tryz.prog 46 #[.bool bb, u, v] W (RefRet (sgn bb (A / Nat.gcd A B)) (A / Nat.gcd A B) (B / Nat.gcd A B) W)) :=
    fun bb W u v hu hv => r_reduced W bb u v A B hu hv (by have := HNs.out.1; omega) (by have := HNs.out.2.1; omega) HNs.out.2.2
  go_region_held3 (fun W => W.cell? ⟨w.heap.size, 0, none⟩ = some (.bool s) ∧ W.cell? ⟨w.heap.size, 1, none⟩ = some (.slice A1 (nw9 a) c1) ∧ W.cell? ⟨w.heap.size, 2, none⟩ = some (.slice A2 (nw9 c) c2) ∧ W.cell? ⟨w.heap.size + 1, 0, none⟩ = some (.bool t) ∧ W.cell? ⟨w.heap.size + 1, 1, none⟩ = some (.slice A3 (nw9 b) c3) ∧ W.cell? ⟨w.heap.size + 1, 2, none⟩ = some (.slice A4 (nw9 d) c4))
    (first | exact HX1.out _ ((((HL1.out _ C3).setCell (p := ⟨w.heap.size + 1 + 1, 0, none⟩) HLe.out _).setCell (p := ⟨w.heap.size + 1 + 1, 1, none⟩) HLe.out _).setCell (p := ⟨w.heap.size + 1 + 1, 2, none⟩) HLe.out _) | exact HX2.out _ C3 | exact HX2.out _ C2 | exact HX2.out _ C1 | exact HX2.out _ B2d | exact HX2.out _ (Below.refl _ _))
    (first
      | (go_at_call_of 56 (Value.slice A1 (nw9 a) c1); refine (HA.out _ (HM.out _ B2d)).mono ?_; rintro e w3 ⟨va, rfl, hva, hb3⟩; have C1 : Below W2.heap.size W2 w3 := btr B2d hb3)
      | (go_at_call_of 56 (Value.slice A2 (nw9 c) c2); refine (HBm.out _ (HM.out _ C1)).mono ?_; rintro e w4 ⟨vb, rfl, hvb, hb4⟩; have C2 : Below W2.heap.size W2 w4 := btr C1 hb4; have HVa := Lib.hid (hva.below hb4); have HVb := Lib.hid hvb; obtain ⟨A5, c5, rfl⟩ := hva.sl; obtain ⟨A6, c6, rfl⟩ := hvb.sl)
      | (go_at_call 46; refine (HRed.out _ _ _ _ HVa.out HVb.out).mono ?_; rintro e w8 ⟨vr, rfl, hvr, hb8⟩; have C3 : Below W2.heap.size W2 w8 := btr C2 hb8; obtain ⟨zu, zv, rfl, hzu, hzv⟩ := hvr; have HZu := Lib.hid hzu; have HZv := Lib.hid hzv; obtain ⟨A8, c8, rfl⟩ := hzu.sl; obtain ⟨A9, c9, rfl⟩ := hzv.sl; obtain ⟨r0, r1, r2, f0, f1, f2⟩ := res_r (KR2.out _ C3)))
  all_goals
    have hrow := KR2.out _ C3
    have HL := Lib.hid (HM.out _ C3)
    clear hva hvb hzu hzv hb3 hb4 hb8 C1 C2 C3 r0 r1 r2 f0 f1 f2
    have hno := ref_noint hrow
    go_wp2
    refine bodyPost_ret (results_cell_tmp Tryz.results11 _ _ (w.heap.size + 1 + 1) 29 _ (0, 0) _ rfl (put3 hrow _ _ _) Tryz.underlying29 rfl (by rw [info_ref]; rfl)) rfl
      ⟨_, rfl, ?_, HL.out.grown (grown3 _ _ _ _ _) HL.out.size (fun j hj => by injection hj with hj; omega)⟩
    rw [HgA.out, HgB.out]
    exact ⟨_, _, rfl, HZu.out.apart hno (grown3 _ _ _ _ _), HZv.out.apart hno (grown3 _ _ _ _ _)⟩
end Go.Proofs.YthcpcaoapkmchaaGreatDoor
end

/- The reference's negation, difference and comparison. -/
section
namespace Go.Proofs.YthcpcaoapkmchaaGreatDoor
open Go.RowKit Go.Deep

theorem sign_sub (p q : Rat) : signN (decide ((p + -q).num < 0)) (p + -q).num.natAbs = Lib.compareInt (p.num * q.den) (q.num * p.den) := by
  rw [← Rat.sub_eq_add_neg]
  have h0 : 0 ≤ (p - q).num ↔ q ≤ p := by rw [Rat.num_nonneg, ← Rat.le_iff_sub_nonneg]
  have h1 : (p - q).num = 0 ↔ p = q := by
    rw [Rat.num_eq_zero]
    constructor
    · intro h
      have := Rat.sub_add_cancel (a := p) (b := q)
      rw [h, Rat.zero_add] at this
      exact this.symm
    · rintro rfl
      exact Rat.sub_self
  rw [Rat.le_iff] at h0
  rw [Rat.eq_iff_mul_eq_mul] at h1
  generalize p.num * (q.den : Int) = a at *
  generalize q.num * (p.den : Int) = b at *
  generalize (p - q).num = z at *
  unfold signN Lib.compareInt
  by_cases hz : z = 0
  · have := h1.1 hz
    rw [if_pos (by omega), if_neg (by omega), if_neg (by omega)]
  · have hne : a ≠ b := fun h => hz (h1.2 h)
    rw [if_neg (by omega)]
    by_cases hn : z < 0
    · have : ¬ b ≤ a := fun h => by have := h0.2 h; omega
      rw [if_pos (by rw [decide_eq_true_iff]; exact hn), if_pos (by omega)]
    · have := h0.1 (by omega)
      rw [if_neg (by rw [decide_eq_true_iff]; exact hn), if_neg (by omega), if_pos (by omega)]

theorem RefW.neg {q : Rat} {k : Nat} (h : RefW q k) : RefW (-q) k := by
  obtain ⟨h1, h2⟩ := h
  refine ⟨?_, ?_⟩
  · rw [show (-q).num = -q.num from rfl, Int.natAbs_neg]; exact h1
  · exact h2

set_option maxHeartbeats 2000000 in
theorem r_Neg0 (w : World) (r : Value) (s : Bool) (n d : Nat) (h : Ref w r s n d) :
    Calls Tryz.prog 61 #[r] w (RefRet (!s && !(nw9 n == 0)) n d w) := by
  obtain ⟨u, v, rfl, hu, hv⟩ := h
  have HU := Lib.hid hu
  have HV := Lib.hid hv
  obtain ⟨A, c, rfl⟩ := hu.sl
  obtain ⟨A', c', rfl⟩ := hv.sl
  obtain ⟨W0, hW0, hB0, hz0, K⟩ := ref_box w s (.slice A (nw9 n) c) (.slice A' (nw9 d) c')
  obtain ⟨W1, hW1, hB1, hz1, KR⟩ := zero_box W0
  have HB0 := Lib.hid hB0
  have HB1 := Lib.hid hB1
  obtain ⟨k0, k1, k2⟩ := K.out W1 hB1
  rw [hz0] at hz1
  have hcell := KR.out W1 (Below.refl _ _)
  rw [hz0] at hcell
  have HCell := Lib.hid hcell
  have hgt : ∀ m : Nat, decide ((0 : Int) < (m : Int)) = !(m == 0) := fun m => by
    cases m with
    | zero => rfl
    | succ m => rw [decide_eq_true (by omega)]; rfl
  clear hu hv hB0 hB1 KR
  have hfin : Hid (∀ (b : Bool) (wz : World), W1.grownBy wz (some (w.heap.size + 1)) → b = (!s && !(nw9 n == 0)) → Ref wz (.agg #[.bool b, .slice A (nw9 n) c, .slice A' (nw9 d) c']) (!s && !(nw9 n == 0)) n d ∧ Below w.heap.size w wz) := fun b wz hg hb => by
    have hno := ref_noint HCell.out
    have hB := btr HB0.out HB1.out
    refine ⟨⟨_, _, by rw [hb], (HU.out.below hB).apart hno hg, (HV.out.below hB).apart hno hg⟩, hB.grown hg hB.size (fun j hj => by injection hj with hj; omega)⟩
  have HN0 : Hid (∀ m, nw9 n = m → (!s && !(nw9 n == 0)) = (!s && !(m == 0))) := fun m hm => by rw [hm]
  generalize hT : (!s && !(nw9 n == 0)) = T at *
  have HT := Lib.hid hT
  clear hT HU HV
  generalize nw9 n = m at *
  generalize nw9 d = md at *
  have hm0 := hgt m
  clear hgt
  rcases Nat.eq_zero_or_pos m with h | h
  · subst h
    cases s
    all_goals
      go_enter Tryz.func61, Tryz.ntmps61
      go_wp2_with (refine wpList_store_row 29 _ _ rfl rfl rfl (w.heap.size + 1) 29 rfl [.bool false, .slice A 0 c, .slice A' md c'] rfl _ hcell rfl info_ref (ref_one _ _ _ _ _ _ _) ?_; intro wz hhz hgz hzz; have HGz := Lib.hid hgz; have HZz := Lib.hid hzz; clear hzz hgz hcell)
      exact bodyPost_ret (v := .agg #[.bool false, .slice A 0 c, .slice A' md c']) (results_cell_row Tryz.results61 _ _ (w.heap.size + 1) 29 _ (0, 0) _ rfl hhz Tryz.underlying29 rfl (by rw [info_ref]; rfl)) rfl
        ⟨_, rfl, hfin.out _ _ HGz.out (by rw [← HT.out]; rfl)⟩
  · have h1 : (m == 0) = false := by rw [beq_eq_false_iff_ne]; omega
    have h2 : decide ((0 : Int) < (m : Int)) = true := by rw [decide_eq_true_iff]; omega
    cases s
    · go_enter Tryz.func61, Tryz.ntmps61
      go_wp2_with (refine wpList_store_row 29 _ _ rfl rfl rfl (w.heap.size + 1) 29 rfl [.bool true, .slice A m c, .slice A' md c'] rfl _ hcell rfl info_ref (ref_one _ _ _ _ _ _ _) ?_; intro wz hhz hgz hzz; have HGz := Lib.hid hgz; have HZz := Lib.hid hzz; clear hzz hgz hcell)
      exact bodyPost_ret (v := .agg #[.bool true, .slice A m c, .slice A' md c']) (results_cell_row Tryz.results61 _ _ (w.heap.size + 1) 29 _ (0, 0) _ rfl hhz Tryz.underlying29 rfl (by rw [info_ref]; rfl)) rfl
        ⟨_, rfl, hfin.out _ _ HGz.out (by rw [← HT.out, h1]; rfl)⟩
    · go_enter Tryz.func61, Tryz.ntmps61
      go_wp2_with (refine wpList_store_row 29 _ _ rfl rfl rfl (w.heap.size + 1) 29 rfl [.bool false, .slice A m c, .slice A' md c'] rfl _ hcell rfl info_ref (ref_one _ _ _ _ _ _ _) ?_; intro wz hhz hgz hzz; have HGz := Lib.hid hgz; have HZz := Lib.hid hzz; clear hzz hgz hcell)
      exact bodyPost_ret (v := .agg #[.bool false, .slice A m c, .slice A' md c']) (results_cell_row Tryz.results61 _ _ (w.heap.size + 1) 29 _ (0, 0) _ rfl hhz Tryz.underlying29 rfl (by rw [info_ref]; rfl)) rfl
        ⟨_, rfl, hfin.out _ _ HGz.out (by rw [← HT.out]; rfl)⟩

theorem r_Neg (w : World) (y : Value) (q : Rat) (h : RefV w y q) :
    Calls Tryz.prog 61 #[y] w fun e w' => ∃ r, e = .returned r ∧ RefV w' r (-q) ∧ Below w.heap.size w w' := by
  refine (r_Neg0 w y _ _ _ h).mono ?_
  rintro e w' ⟨r, rfl, hr, hb⟩
  refine ⟨r, rfl, ?_, hb⟩
  unfold RefV
  rw [show (-q).num = -q.num from rfl, show (-q).den = q.den from rfl, Int.natAbs_neg]
  have : (!decide (q.num < 0) && !(nw9 q.num.natAbs == 0)) = decide (-q.num < 0) := by
    have h9 := nw_eq_zero9 q.num.natAbs
    by_cases hq : q.num < 0
    · rw [decide_eq_true hq, decide_eq_false (by omega)]; rfl
    · rw [decide_eq_false hq]
      by_cases hz : q.num = 0
      · rw [hz, show Int.natAbs 0 = 0 from rfl, nw_zero9]; rfl
      · have : nw9 q.num.natAbs ≠ 0 := by omega
        rw [beq_eq_false_iff_ne.2 this, decide_eq_true (by omega)]; rfl
  rw [← this]
  exact hr

/-- The same with the parts named. -/
def RefO (q : Rat) (w : World) (e : Ending) (w' : World) : Prop := ∃ b A n c A' n' c', e = .returned (.agg #[.bool b, .slice A n c, .slice A' n' c']) ∧ RefV w' (.agg #[.bool b, .slice A n c, .slice A' n' c']) q ∧ Below w.heap.size w w'
theorem RefO.of {q : Rat} {w : World} {e : Ending} {w' : World} (h : ∃ r, e = .returned r ∧ RefV w' r q ∧ Below w.heap.size w w') : RefO q w e w' := by
  obtain ⟨r, rfl, hr, hb⟩ := h
  have h9 := hr
  obtain ⟨u, v, rfl, hu, hv⟩ := h9
  obtain ⟨A, c, rfl⟩ := hu.sl
  obtain ⟨A', c', rfl⟩ := hv.sl
  exact ⟨_, _, _, _, _, _, _, rfl, hr, hb⟩
theorem RefV.apart9 {w w' : World} {v : Value} {q : Rat} {r : Nat} (h : RefV w v q) (hr : ∀ o y, w.cell? ⟨r, o, none⟩ ≠ some (U9 y)) (hg : w.grownBy w' (some r)) : RefV w' v q := by
  obtain ⟨u, v, e, h1, h2⟩ := h
  exact ⟨u, v, e, h1.apart hr hg, h2.apart hr hg⟩

set_option maxRecDepth 100000 in
set_option maxHeartbeats 4000000 in
theorem r_Sub (w : World) (x y : Value) (p q : Rat) (hx : RefV w x p) (hy : RefV w y q) (k1 : RefW p 10000000) (k2 : RefW q 10000000) :
    Calls Tryz.prog 15 #[x, y] w fun e w' => ∃ r, e = .returned r ∧ RefV w' r (p + -q) ∧ Below w.heap.size w w' := by
  have HN : Hid (∀ W, Below w.heap.size w W → Calls Tryz.prog 61 #[y] W (RefO (-q) W)) := fun W hW => (r_Neg W y q (hy.below hW)).mono fun e w' h => RefO.of h
  have HAd : Hid (∀ W, Below w.heap.size w W → ∀ z, RefV W z (-q) → Calls Tryz.prog 13 #[x, z] W (RefO (p + -q) W)) := fun W hW z hz => (r_Add W x z p (-q) (hx.below hW) hz k1 k2.neg).mono fun e w' h => RefO.of h
  obtain ⟨xu, xv, rfl, hxu, hxv⟩ := hx
  obtain ⟨yu, yv, rfl, hyu, hyv⟩ := hy
  obtain ⟨A1, c1, rfl⟩ := hxu.sl
  obtain ⟨A2, c2, rfl⟩ := hxv.sl
  obtain ⟨A3, c3, rfl⟩ := hyu.sl
  obtain ⟨A4, c4, rfl⟩ := hyv.sl
  clear hxu hxv hyu hyv k1 k2
  generalize decide (p.num < 0) = s at *
  generalize decide (q.num < 0) = t at *
  generalize nw9 p.num.natAbs = na at *
  generalize nw9 q.num.natAbs = nb at *
  generalize nw9 p.den = nc at *
  generalize nw9 q.den = nd at *
  obtain ⟨W0, hW0, hB0, hz0, KX⟩ := ref_box w s (.slice A1 na c1) (.slice A2 nc c2)
  obtain ⟨W1, hW1, hB1, hz1, KY⟩ := ref_box W0 t (.slice A3 nb c3) (.slice A4 nd c4)
  obtain ⟨W2, hW2, hB2, hz2, KR⟩ := zero_box W1
  have HB0 := Lib.hid hB0
  have HB1 := Lib.hid hB1
  have HB2 := Lib.hid hB2
  rw [hz0] at hz1
  rw [hz1] at hz2
  clear hB0 hB1 hB2
  have hgz0 : W0.heap.size = w.heap.size + 1 := hz0
  go_enter Tryz.func15, Tryz.ntmps15
  go_wp2_with fail
  have HX2 : Hid (∀ W, Below W1.heap.size W1 W → W.cell? ⟨w.heap.size, 0, none⟩ = some (.bool s) ∧ W.cell? ⟨w.heap.size, 1, none⟩ = some (.slice A1 na c1) ∧ W.cell? ⟨w.heap.size, 2, none⟩ = some (.slice A2 nc c2) ∧
      W.cell? ⟨w.heap.size + 1, 0, none⟩ = some (.bool t) ∧ W.cell? ⟨w.heap.size + 1, 1, none⟩ = some (.slice A3 nb c3) ∧ W.cell? ⟨w.heap.size + 1, 2, none⟩ = some (.slice A4 nd c4)) := fun W hW => by
    obtain ⟨x1, x2, x3⟩ := KX.out W (btr HB1.out hW)
    obtain ⟨y1, y2, y3⟩ := KY.out W hW
    rw [hgz0] at y1 y2 y3
    exact ⟨x1, x2, x3, y1, y2, y3⟩
  have KR2 : Hid (∀ W, Below W2.heap.size W2 W → W.heap[w.heap.size + 1 + 1]? = some (.cells #[.bool false, .slice none 0 0, .slice none 0 0] 29 (0, 0))) := fun W hW => by rw [← hz1]; exact KR.out W hW
  have HLe : Hid (W1.heap.size ≤ w.heap.size + 1 + 1) := by show _ ≤ _; omega
  have HM : Hid (∀ W, Below W2.heap.size W2 W → Below w.heap.size w W) := fun W h => btr HB0.out (btr HB1.out (btr HB2.out h))
  have HL1 : Hid (∀ W, Below W2.heap.size W2 W → Below W1.heap.size W1 W) := fun W h => btr HB2.out h
  have B2d : Below W2.heap.size W2 W2.drew := Below.drew (Below.refl _ _)
  go_region_held3 (fun w' => w'.cell? ⟨w.heap.size, 0, none⟩ = some (.bool s) ∧ w'.cell? ⟨w.heap.size, 1, none⟩ = some (.slice A1 na c1) ∧ w'.cell? ⟨w.heap.size, 2, none⟩ = some (.slice A2 nc c2) ∧
      w'.cell? ⟨w.heap.size + 1, 0, none⟩ = some (.bool t) ∧ w'.cell? ⟨w.heap.size + 1, 1, none⟩ = some (.slice A3 nb c3) ∧ w'.cell? ⟨w.heap.size + 1, 2, none⟩ = some (.slice A4 nd c4))
    (first | exact HX2.out _ ((((HL1.out _ C2).setCell (p := ⟨w.heap.size + 1 + 1, 0, none⟩) HLe.out _).setCell (p := ⟨w.heap.size + 1 + 1, 1, none⟩) HLe.out _).setCell (p := ⟨w.heap.size + 1 + 1, 2, none⟩) HLe.out _) | exact HX2.out _ (HL1.out _ C2) | exact HX2.out _ (HL1.out _ C1) | exact HX2.out _ (HL1.out _ B2d) | exact HX2.out _ (HL1.out _ (Below.refl _ _)))
    (first
      | (go_at_call 61; refine (HN.out _ (HM.out _ B2d)).mono ?_; rintro e w3 ⟨b8, A8, n8, c8, A9, n9, c9, rfl, hva, hb3⟩; have C1 : Below W2.heap.size W2 w3 := btr B2d hb3; have HVa := Lib.hid hva; clear hva)
      | (go_at_call 13; refine (HAd.out _ (HM.out _ C1) _ HVa.out).mono ?_; rintro e w4 ⟨b6, A6, n6, c6, A7, n7, c7, rfl, hvb, hb4⟩; have C2 : Below W2.heap.size W2 w4 := btr C1 hb4; have HVb := Lib.hid hvb; clear hvb; obtain ⟨r0, r1, r2, f0, f1, f2⟩ := res_r (KR2.out _ C2)))
  all_goals
    have hrow := KR2.out _ C2
    have HL := Lib.hid (HM.out _ C2)
    clear hb3 hb4 C1 C2 r0 r1 r2 f0 f1 f2
    have hno := ref_noint hrow
    go_wp2
    exact bodyPost_ret (results_cell_row Tryz.results15 _ _ (w.heap.size + 1 + 1) 29 _ (0, 0) _ rfl (put3 hrow _ _ _) Tryz.underlying29 rfl (by rw [info_ref]; rfl)) rfl
      ⟨_, rfl, HVb.out.apart9 hno (grown3 _ _ _ _ _), HL.out.grown (grown3 _ _ _ _ _) HL.out.size (fun j hj => by injection hj with hj; omega)⟩

set_option maxHeartbeats 2000000 in
theorem r_Cmp (w : World) (x y : Value) (p q : Rat) (hx : RefV w x p) (hy : RefV w y q) (k1 : RefW p 10000000) (k2 : RefW q 10000000) :
    Calls Tryz.prog 19 #[x, y] w fun e w' => e = .returned (.int .i64 (Lib.compareInt (p.num * q.den) (q.num * p.den))) ∧ Below w.heap.size w w' := by
  have HS := Lib.hid (sign_sub p q)
  have HN := Lib.hid (fun W (hW : Below w.heap.size w W) => r_Sub W x y p q (hx.below hW) (hy.below hW) k1 k2)
  generalize Lib.compareInt (p.num * q.den) (q.num * p.den) = R at *
  obtain ⟨xu, xv, rfl, hxu, hxv⟩ := hx
  obtain ⟨yu, yv, rfl, hyu, hyv⟩ := hy
  obtain ⟨A1, c1, rfl⟩ := hxu.sl
  obtain ⟨A2, c2, rfl⟩ := hxv.sl
  obtain ⟨A3, c3, rfl⟩ := hyu.sl
  obtain ⟨A4, c4, rfl⟩ := hyv.sl
  clear hxu hxv hyu hyv k1 k2
  generalize decide (p.num < 0) = s at *
  generalize decide (q.num < 0) = t at *
  generalize nw9 p.num.natAbs = na at *
  generalize nw9 q.num.natAbs = nb at *
  generalize nw9 p.den = nc at *
  generalize nw9 q.den = nd at *
  obtain ⟨W0, hW0, hB0, hz0, KX⟩ := ref_box w s (.slice A1 na c1) (.slice A2 nc c2)
  obtain ⟨W1, hW1, hB1, hz1, KY⟩ := ref_box W0 t (.slice A3 nb c3) (.slice A4 nd c4)
  have HB0 := Lib.hid hB0
  have HB1 := Lib.hid hB1
  rw [hz0] at hz1
  obtain ⟨k0, k1, k2⟩ := KX.out W1 hB1
  obtain ⟨k3, k4, k5⟩ := KY.out W1 (Below.refl _ _)
  rw [hz0] at k3 k4 k5
  clear hB0 hB1
  go_enter Tryz.func19, Tryz.ntmps19
  go_wp2_with fail
  refine (HN.out W1 (btr HB0.out HB1.out)).mono ?_
  rintro e w1 ⟨r, rfl, hr, hb1⟩
  have HR := Lib.hid (r_Sign w1 r _ _ _ hr)
  rw [HS.out] at HR
  have HB2 := Lib.hid (btr HB0.out (btr HB1.out hb1))
  obtain ⟨ru, rv, rfl, hru, hrv⟩ := hr
  obtain ⟨A5, c5, rfl⟩ := hru.sl
  obtain ⟨A6, c6, rfl⟩ := hrv.sl
  clear hru hrv hb1 k0 k1 k2 k3 k4 k5
  generalize decide ((p + -q).num < 0) = ds at *
  generalize nw9 (p + -q).num.natAbs = ne at *
  generalize nw9 (p + -q).den = nf at *
  go_wp2_with fail
  refine HR.out.mono ?_
  rintro e w2 ⟨rfl, hb2⟩
  have HB3 := Lib.hid (btr HB2.out hb2)
  clear hb2
  go_wp2
  go_ret
  exact ⟨rfl, HB3.out⟩
end Go.Proofs.YthcpcaoapkmchaaGreatDoor
end

/- Comparing rational numbers of any size: what the call returns. -/
section
namespace Go.Proofs.YthcpcaoapkmchaaGreatDoor
open Go.RowKit Go.Deep

def cmpQ (p q : Rat) : Int := if p < q then -1 else if p = q then 0 else 1
theorem cmpQ_of (p q : Rat) : cmpQ p q = if p.num * q.den < q.num * p.den then -1 else if p.num * q.den = q.num * p.den then 0 else 1 := by
  unfold cmpQ
  by_cases h1 : p < q
  · rw [if_pos h1, if_pos ((Rat.lt_iff p q).1 h1)]
  · rw [if_neg h1, if_neg (fun h => h1 ((Rat.lt_iff p q).2 h))]
    by_cases h2 : p = q
    · rw [if_pos h2, if_pos (Rat.eq_iff_mul_eq_mul.1 h2)]
    · rw [if_neg h2, if_neg (fun h => h2 (Rat.eq_iff_mul_eq_mul.2 h))]
theorem cmp_less (p q : Rat) (h1 : p.num < 0) (h2 : ¬ q.num < 0) : cmpQ p q = -1 := by
  rw [cmpQ_of, if_pos]
  have a := Int.mul_neg_of_neg_of_pos h1 (show (0 : Int) < q.den by have := q.den_pos; omega)
  have b := Int.mul_nonneg (show 0 ≤ q.num by omega) (show (0 : Int) ≤ p.den by omega)
  omega
theorem cmp_more (p q : Rat) (h1 : ¬ p.num < 0) (h2 : q.num < 0) : cmpQ p q = 1 := by
  have a := Int.mul_nonneg (show 0 ≤ p.num by omega) (show (0 : Int) ≤ q.den by omega)
  have b := Int.mul_neg_of_neg_of_pos h2 (show (0 : Int) < p.den by have := p.den_pos; omega)
  rw [cmpQ_of, if_neg (by omega), if_neg (by omega)]
theorem cmp_pos (p q : Rat) (h1 : ¬ p.num < 0) (h2 : ¬ q.num < 0) : cmpQ p q = cmpN (p.num.natAbs * q.den) (q.num.natAbs * p.den) := by
  have a : ((p.num.natAbs * q.den : Nat) : Int) = p.num * q.den := by push_cast; rw [Int.natAbs_of_nonneg (by omega)]
  have b : ((q.num.natAbs * p.den : Nat) : Int) = q.num * p.den := by push_cast; rw [Int.natAbs_of_nonneg (by omega)]
  rw [cmpQ_of, ← a, ← b]
  unfold cmpN
  generalize p.num.natAbs * q.den = x
  generalize q.num.natAbs * p.den = y
  by_cases h : x < y
  · rw [if_pos h, if_pos (by omega)]
  · rw [if_neg h, if_neg (by omega)]
    by_cases h' : x = y
    · rw [if_pos h', if_pos (by omega)]
    · rw [if_neg h', if_neg (by omega)]
theorem cmp_neg (p q : Rat) (h1 : p.num < 0) (h2 : q.num < 0) : cmpQ p q = -cmpN (p.num.natAbs * q.den) (q.num.natAbs * p.den) := by
  have a : ((p.num.natAbs * q.den : Nat) : Int) = -(p.num * q.den) := by push_cast; rw [show (p.num.natAbs : Int) = -p.num by omega, Int.neg_mul]
  have b : ((q.num.natAbs * p.den : Nat) : Int) = -(q.num * p.den) := by push_cast; rw [show (q.num.natAbs : Int) = -q.num by omega, Int.neg_mul]
  rw [cmpQ_of]
  unfold cmpN
  generalize p.num.natAbs * q.den = x at *
  generalize q.num.natAbs * p.den = y at *
  by_cases h : x < y
  · rw [if_pos h, if_neg (by omega), if_neg (by omega)]; rfl
  · rw [if_neg h]
    by_cases h' : x = y
    · rw [if_pos h', if_neg (by omega), if_pos (by omega)]; rfl
    · rw [if_neg h', if_pos (by omega)]

set_option maxHeartbeats 4000000 in
theorem v_Cmp (w : World) (x y : Value) (p q : Rat) (hx : RatV w x p) (hy : RatV w y q) (k1 : RatW p 100000) (k2 : RatW q 100000) :
    Calls Tryz.prog 18 #[x, y] w fun e w' => e = .returned (.int .i64 (cmpQ p q)) ∧ Below w.heap.size w w' := by
  have HV1 := Lib.hid (c_valid w x _ _ _ hx)
  have HV2 := Lib.hid (c_valid w y _ _ _ hy)
  obtain ⟨bx, xn, xd, rfl, hbx, _, x1, x2, x3, hxn, hxd⟩ := hx
  obtain ⟨b2, yn, yd, rfl, hby, _, y1, y2, y3, hyn, hyd⟩ := hy
  have hcl := cmp_less p q
  have hcm := cmp_more p q
  have hcp := cmp_pos p q
  have hcn := cmp_neg p q
  have kk1 := k1.1
  have kk2 := k1.2
  have kk3 := k2.1
  have kk4 := k2.2
  have K0 := Lib.hid (And.intro x1 (And.intro x2 (And.intro x3 (And.intro y1 (And.intro y2 y3)))))
  have HT1 : Hid (∀ W, Below w.heap.size w W → Calls Tryz.prog 62 #[xn, yd] W (NatRet W (p.num.natAbs * q.den))) := fun W hW => n_times W xn yd _ _ (hxn.below hW) (hyd.below hW) (by omega) (by omega)
  have HT2 : Hid (∀ W, Below w.heap.size w W → Calls Tryz.prog 62 #[yn, xd] W (NatRet W (q.num.natAbs * p.den))) := fun W hW => n_times W yn xd _ _ (hyn.below hW) (hxd.below hW) (by omega) (by omega)
  have hm := nw_mul p.num.natAbs q.den
  have HC : Hid (∀ W a b, NatAt W a (p.num.natAbs * q.den) → NatAt W b (q.num.natAbs * p.den) → Calls Tryz.prog 63 #[a, b] W fun e w' => e = .returned (.int .i64 (cmpN (p.num.natAbs * q.den) (q.num.natAbs * p.den))) ∧ ∃ n, w' = W.drewN n) := fun W a b ha hb => n_compare W a b _ _ ha hb (by omega)
  clear hxn hxd hyn hyd kk1 kk2 kk3 kk4 k1 k2 hm
  have HCL := Lib.hid hcl
  have HCM := Lib.hid hcm
  have HCP := Lib.hid hcp
  have HCN := Lib.hid hcn
  clear hcl hcm hcp hcn
  generalize cmpQ p q = r at *
  by_cases h1 : p.num < 0 <;> by_cases h2 : q.num < 0
  · have hr := HCN.out h1 h2
    have e1 : decide (p.num < 0) = true := by simp [h1]
    have e2 : decide (q.num < 0) = true := by simp [h2]
    rw [e1] at x1 K0
    rw [e2] at y1 K0
    have hcb : -1 ≤ cmpN (p.num.natAbs * q.den) (q.num.natAbs * p.den) ∧ cmpN (p.num.natAbs * q.den) (q.num.natAbs * p.den) ≤ 1 := by unfold cmpN; split <;> (try split) <;> omega
    have HR := Lib.hid hr
    clear hr
    generalize cmpN (p.num.natAbs * q.den) (q.num.natAbs * p.den) = c at *
    obtain ⟨hc1, hc2⟩ := hcb
    have KK : Hid (∀ W, Below w.heap.size w W → W.cell? ⟨bx, 1, none⟩ = some (.bool true) ∧ W.cell? ⟨bx, 2, none⟩ = some xn ∧ W.cell? ⟨bx, 3, none⟩ = some xd ∧ W.cell? ⟨b2, 1, none⟩ = some (.bool true) ∧ W.cell? ⟨b2, 2, none⟩ = some yn ∧ W.cell? ⟨b2, 3, none⟩ = some yd) := fun W hW => six_below hW hbx hby K0.out
    clear HCL HCM HCP HCN K0 e1 e2 h1 h2
    go_enter Tryz.func18, Tryz.ntmps18
    go_wp2_with fail
    refine HV1.out.mono ?_
    rintro e w' ⟨rfl, rfl⟩
    go_wp2_with fail
    refine HV2.out.mono ?_
    rintro e w' ⟨rfl, rfl⟩
    go_wp2_with fail
    go_quiet (fail)
    have BQ : Below w.heap.size w (w.drewN nq) := Below.drewN_ (Below.refl _ _) _
    clear x1 x2 x3 y1 y2 y3 HV1 HV2
    generalize hwz : w.drewN nq = wz at *
    clear hwz
    have BC : Below w.heap.size w wz.drew := Below.drew BQ
    go_wp2_with fail
    go_region_held3 (fun w' => w'.cell? ⟨bx, 1, none⟩ = some (.bool true) ∧ w'.cell? ⟨bx, 2, none⟩ = some xn ∧ w'.cell? ⟨bx, 3, none⟩ = some xd ∧ w'.cell? ⟨b2, 1, none⟩ = some (.bool true) ∧ w'.cell? ⟨b2, 2, none⟩ = some yn ∧ w'.cell? ⟨b2, 3, none⟩ = some yd)
      (first | exact KK.out _ BC | exact KK.out _ BQ) (first
        | (go_at_call_of 62 xn; refine (HT1.out _ BC).mono ?_; rintro e wA ⟨ta, rfl, hta, hbb⟩; replace BC := btr BC hbb; (try replace htb := htb.below hbb))
        | (go_at_call_of 62 yn; refine (HT2.out _ BC).mono ?_; rintro e wA ⟨tb, rfl, htb, hbb⟩; replace BC := btr BC hbb; (try replace hta := hta.below hbb))
        | (go_at_call 63; refine (HC.out _ ta tb hta htb).mono ?_; rintro e wA ⟨rfl, nn, rfl⟩; replace BC := btr BC (Below.drewN_ (Below.refl _ _) nn)))
    all_goals
      obtain ⟨z1, _, _, _, _, _⟩ := KK.out _ BC
      go_wp2
      go_ret
      exact ⟨by rw [HR.out]; rfl, BC⟩
  · have hr := HCL.out h1 h2
    have e1 : decide (p.num < 0) = true := by simp [h1]
    have e2 : decide (q.num < 0) = false := by simp [h2]
    rw [e1] at x1
    rw [e2] at y1
    clear HCL HCM HCP HCN K0 HT1 HT2 HC
    go_enter Tryz.func18, Tryz.ntmps18
    go_wp2_with fail
    refine HV1.out.mono ?_
    rintro e w' ⟨rfl, rfl⟩
    go_wp2_with fail
    refine HV2.out.mono ?_
    rintro e w' ⟨rfl, rfl⟩
    go_wp2_with fail
    go_quiet (fail)
    go_wp2
    go_ret
    exact ⟨by rw [hr]; rfl, Below.drewN_ (Below.refl _ _) _⟩
  · have hr := HCM.out h1 h2
    have e1 : decide (p.num < 0) = false := by simp [h1]
    have e2 : decide (q.num < 0) = true := by simp [h2]
    rw [e1] at x1
    rw [e2] at y1
    clear HCL HCM HCP HCN K0 HT1 HT2 HC
    go_enter Tryz.func18, Tryz.ntmps18
    go_wp2_with fail
    refine HV1.out.mono ?_
    rintro e w' ⟨rfl, rfl⟩
    go_wp2_with fail
    refine HV2.out.mono ?_
    rintro e w' ⟨rfl, rfl⟩
    go_wp2_with fail
    go_quiet (fail)
    go_wp2
    go_ret
    exact ⟨by rw [hr]; rfl, Below.drewN_ (Below.refl _ _) _⟩
  · have hr := HCP.out h1 h2
    have e1 : decide (p.num < 0) = false := by simp [h1]
    have e2 : decide (q.num < 0) = false := by simp [h2]
    rw [e1] at x1 K0
    rw [e2] at y1 K0
    have hcb : -1 ≤ cmpN (p.num.natAbs * q.den) (q.num.natAbs * p.den) ∧ cmpN (p.num.natAbs * q.den) (q.num.natAbs * p.den) ≤ 1 := by unfold cmpN; split <;> (try split) <;> omega
    have HR := Lib.hid hr
    clear hr
    generalize cmpN (p.num.natAbs * q.den) (q.num.natAbs * p.den) = c at *
    obtain ⟨hc1, hc2⟩ := hcb
    have KK : Hid (∀ W, Below w.heap.size w W → W.cell? ⟨bx, 1, none⟩ = some (.bool false) ∧ W.cell? ⟨bx, 2, none⟩ = some xn ∧ W.cell? ⟨bx, 3, none⟩ = some xd ∧ W.cell? ⟨b2, 1, none⟩ = some (.bool false) ∧ W.cell? ⟨b2, 2, none⟩ = some yn ∧ W.cell? ⟨b2, 3, none⟩ = some yd) := fun W hW => six_below hW hbx hby K0.out
    clear HCL HCM HCP HCN K0 e1 e2 h1 h2
    go_enter Tryz.func18, Tryz.ntmps18
    go_wp2_with fail
    refine HV1.out.mono ?_
    rintro e w' ⟨rfl, rfl⟩
    go_wp2_with fail
    refine HV2.out.mono ?_
    rintro e w' ⟨rfl, rfl⟩
    go_wp2_with fail
    go_quiet (fail)
    have BQ : Below w.heap.size w (w.drewN nq) := Below.drewN_ (Below.refl _ _) _
    clear x1 x2 x3 y1 y2 y3 HV1 HV2
    generalize hwz : w.drewN nq = wz at *
    clear hwz
    have BC : Below w.heap.size w wz.drew := Below.drew BQ
    go_wp2_with fail
    go_region_held3 (fun w' => w'.cell? ⟨bx, 1, none⟩ = some (.bool false) ∧ w'.cell? ⟨bx, 2, none⟩ = some xn ∧ w'.cell? ⟨bx, 3, none⟩ = some xd ∧ w'.cell? ⟨b2, 1, none⟩ = some (.bool false) ∧ w'.cell? ⟨b2, 2, none⟩ = some yn ∧ w'.cell? ⟨b2, 3, none⟩ = some yd)
      (first | exact KK.out _ BC | exact KK.out _ BQ) (first
        | (go_at_call_of 62 xn; refine (HT1.out _ BC).mono ?_; rintro e wA ⟨ta, rfl, hta, hbb⟩; replace BC := btr BC hbb; (try replace htb := htb.below hbb))
        | (go_at_call_of 62 yn; refine (HT2.out _ BC).mono ?_; rintro e wA ⟨tb, rfl, htb, hbb⟩; replace BC := btr BC hbb; (try replace hta := hta.below hbb))
        | (go_at_call 63; refine (HC.out _ ta tb hta htb).mono ?_; rintro e wA ⟨rfl, nn, rfl⟩; replace BC := btr BC (Below.drewN_ (Below.refl _ _) nn)))
    all_goals
      obtain ⟨z1, _, _, _, _, _⟩ := KK.out _ BC
      go_wp2
      go_ret
      exact ⟨by rw [HR.out]; rfl, BC⟩
end Go.Proofs.YthcpcaoapkmchaaGreatDoor
end

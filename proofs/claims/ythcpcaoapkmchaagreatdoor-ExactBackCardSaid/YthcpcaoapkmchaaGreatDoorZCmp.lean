/- Comparing rational numbers of any size: what the call returns. -/
import Derived.Test.YthcpcaoapkmchaaGreatDoorZRatV
namespace Go.Proofs.YthcpcaoapkmchaaGreatDoor
open Go.RowKit Go.Deep

def cmpQ (p q : Rat) : Int := if p < q then -1 else if p = q then 0 else 1
theorem cmpQ_of (p q : Rat) : cmpQ p q = if p.num * q.den < q.num * p.den then -1 else if p.num * q.den = q.num * p.den then 0 else 1 := by
  unfold cmpQ
  by_cases h1 : p < q
  · rw [if_pos h1, if_pos ((Rat.lt_iff p q).1 h1)]
  · rw [if_neg h1, if_neg (fun h => h1 ((Rat.lt_iff p q).2 h))]
    by_cases h2 : p = q
    · rw [if_pos h2, if_pos (Rat.eq_iff_mul_eq_mul.1 h2)]
    · rw [if_neg h2, if_neg (fun h => h2 (Rat.eq_iff_mul_eq_mul.2 h))]
theorem cmp_less (p q : Rat) (h1 : p.num < 0) (h2 : ¬ q.num < 0) : cmpQ p q = -1 := by
  rw [cmpQ_of, if_pos]
  have a := Int.mul_neg_of_neg_of_pos h1 (show (0 : Int) < q.den by have := q.den_pos; omega)
  have b := Int.mul_nonneg (show 0 ≤ q.num by omega) (show (0 : Int) ≤ p.den by omega)
  omega
theorem cmp_more (p q : Rat) (h1 : ¬ p.num < 0) (h2 : q.num < 0) : cmpQ p q = 1 := by
  have a := Int.mul_nonneg (show 0 ≤ p.num by omega) (show (0 : Int) ≤ q.den by omega)
  have b := Int.mul_neg_of_neg_of_pos h2 (show (0 : Int) < p.den by have := p.den_pos; omega)
  rw [cmpQ_of, if_neg (by omega), if_neg (by omega)]
theorem cmp_pos (p q : Rat) (h1 : ¬ p.num < 0) (h2 : ¬ q.num < 0) : cmpQ p q = cmpN (p.num.natAbs * q.den) (q.num.natAbs * p.den) := by
  have a : ((p.num.natAbs * q.den : Nat) : Int) = p.num * q.den := by push_cast; rw [Int.natAbs_of_nonneg (by omega)]
  have b : ((q.num.natAbs * p.den : Nat) : Int) = q.num * p.den := by push_cast; rw [Int.natAbs_of_nonneg (by omega)]
  rw [cmpQ_of, ← a, ← b]
  unfold cmpN
  generalize p.num.natAbs * q.den = x
  generalize q.num.natAbs * p.den = y
  by_cases h : x < y
  · rw [if_pos h, if_pos (by omega)]
  · rw [if_neg h, if_neg (by omega)]
    by_cases h' : x = y
    · rw [if_pos h', if_pos (by omega)]
    · rw [if_neg h', if_neg (by omega)]
theorem cmp_neg (p q : Rat) (h1 : p.num < 0) (h2 : q.num < 0) : cmpQ p q = -cmpN (p.num.natAbs * q.den) (q.num.natAbs * p.den) := by
  have a : ((p.num.natAbs * q.den : Nat) : Int) = -(p.num * q.den) := by push_cast; rw [show (p.num.natAbs : Int) = -p.num by omega, Int.neg_mul]
  have b : ((q.num.natAbs * p.den : Nat) : Int) = -(q.num * p.den) := by push_cast; rw [show (q.num.natAbs : Int) = -q.num by omega, Int.neg_mul]
  rw [cmpQ_of]
  unfold cmpN
  generalize p.num.natAbs * q.den = x at *
  generalize q.num.natAbs * p.den = y at *
  by_cases h : x < y
  · rw [if_pos h, if_neg (by omega), if_neg (by omega)]; rfl
  · rw [if_neg h]
    by_cases h' : x = y
    · rw [if_pos h', if_neg (by omega), if_pos (by omega)]; rfl
    · rw [if_neg h', if_pos (by omega)]

set_option maxHeartbeats 4000000 in
theorem v_Cmp (w : World) (x y : Value) (p q : Rat) (hx : RatV w x p) (hy : RatV w y q) (k1 : RatW p 100000) (k2 : RatW q 100000) :
    Calls Tryz.prog 18 #[x, y] w fun e w' => e = .returned (.int .i64 (cmpQ p q)) ∧ Below w.heap.size w w' := by
  have HV1 := Lib.hid (c_valid w x _ _ _ hx)
  have HV2 := Lib.hid (c_valid w y _ _ _ hy)
  obtain ⟨bx, xn, xd, rfl, hbx, _, x1, x2, x3, hxn, hxd⟩ := hx
  obtain ⟨b2, yn, yd, rfl, hby, _, y1, y2, y3, hyn, hyd⟩ := hy
  have hcl := cmp_less p q
  have hcm := cmp_more p q
  have hcp := cmp_pos p q
  have hcn := cmp_neg p q
  have kk1 := k1.1
  have kk2 := k1.2
  have kk3 := k2.1
  have kk4 := k2.2
  have K0 := Lib.hid (And.intro x1 (And.intro x2 (And.intro x3 (And.intro y1 (And.intro y2 y3)))))
  have HT1 : Hid (∀ W, Below w.heap.size w W → Calls Tryz.prog 62 #[xn, yd] W (NatRet W (p.num.natAbs * q.den))) := fun W hW => n_times W xn yd _ _ (hxn.below hW) (hyd.below hW) (by omega) (by omega)
  have HT2 : Hid (∀ W, Below w.heap.size w W → Calls Tryz.prog 62 #[yn, xd] W (NatRet W (q.num.natAbs * p.den))) := fun W hW => n_times W yn xd _ _ (hyn.below hW) (hxd.below hW) (by omega) (by omega)
  have hm := nw_mul p.num.natAbs q.den
  have HC : Hid (∀ W a b, NatAt W a (p.num.natAbs * q.den) → NatAt W b (q.num.natAbs * p.den) → Calls Tryz.prog 63 #[a, b] W fun e w' => e = .returned (.int .i64 (cmpN (p.num.natAbs * q.den) (q.num.natAbs * p.den))) ∧ ∃ n, w' = W.drewN n) := fun W a b ha hb => n_compare W a b _ _ ha hb (by omega)
  clear hxn hxd hyn hyd kk1 kk2 kk3 kk4 k1 k2 hm
  have HCL := Lib.hid hcl
  have HCM := Lib.hid hcm
  have HCP := Lib.hid hcp
  have HCN := Lib.hid hcn
  clear hcl hcm hcp hcn
  generalize cmpQ p q = r at *
  by_cases h1 : p.num < 0 <;> by_cases h2 : q.num < 0
  · have hr := HCN.out h1 h2
    have e1 : decide (p.num < 0) = true := by simp [h1]
    have e2 : decide (q.num < 0) = true := by simp [h2]
    rw [e1] at x1 K0
    rw [e2] at y1 K0
    have hcb : -1 ≤ cmpN (p.num.natAbs * q.den) (q.num.natAbs * p.den) ∧ cmpN (p.num.natAbs * q.den) (q.num.natAbs * p.den) ≤ 1 := by unfold cmpN; split <;> (try split) <;> omega
    have HR := Lib.hid hr
    clear hr
    generalize cmpN (p.num.natAbs * q.den) (q.num.natAbs * p.den) = c at *
    obtain ⟨hc1, hc2⟩ := hcb
    have KK : Hid (∀ W, Below w.heap.size w W → W.cell? ⟨bx, 1, none⟩ = some (.bool true) ∧ W.cell? ⟨bx, 2, none⟩ = some xn ∧ W.cell? ⟨bx, 3, none⟩ = some xd ∧ W.cell? ⟨b2, 1, none⟩ = some (.bool true) ∧ W.cell? ⟨b2, 2, none⟩ = some yn ∧ W.cell? ⟨b2, 3, none⟩ = some yd) := fun W hW => six_below hW hbx hby K0.out
    clear HCL HCM HCP HCN K0 e1 e2 h1 h2
    go_enter Tryz.func18, Tryz.ntmps18
    go_wp2_with fail
    refine HV1.out.mono ?_
    rintro e w' ⟨rfl, rfl⟩
    go_wp2_with fail
    refine HV2.out.mono ?_
    rintro e w' ⟨rfl, rfl⟩
    go_wp2_with fail
    go_quiet (fail)
    have BQ : Below w.heap.size w (w.drewN nq) := Below.drewN_ (Below.refl _ _) _
    clear x1 x2 x3 y1 y2 y3 HV1 HV2
    generalize hwz : w.drewN nq = wz at *
    clear hwz
    have BC : Below w.heap.size w wz.drew := Below.drew BQ
    go_wp2_with fail
    go_region_held3 (fun w' => w'.cell? ⟨bx, 1, none⟩ = some (.bool true) ∧ w'.cell? ⟨bx, 2, none⟩ = some xn ∧ w'.cell? ⟨bx, 3, none⟩ = some xd ∧ w'.cell? ⟨b2, 1, none⟩ = some (.bool true) ∧ w'.cell? ⟨b2, 2, none⟩ = some yn ∧ w'.cell? ⟨b2, 3, none⟩ = some yd)
      (first | exact KK.out _ BC | exact KK.out _ BQ) (first
        | (go_at_call_of 62 xn; refine (HT1.out _ BC).mono ?_; rintro e wA ⟨ta, rfl, hta, hbb⟩; replace BC := btr BC hbb; (try replace htb := htb.below hbb))
        | (go_at_call_of 62 yn; refine (HT2.out _ BC).mono ?_; rintro e wA ⟨tb, rfl, htb, hbb⟩; replace BC := btr BC hbb; (try replace hta := hta.below hbb))
        | (go_at_call 63; refine (HC.out _ ta tb hta htb).mono ?_; rintro e wA ⟨rfl, nn, rfl⟩; replace BC := btr BC (Below.drewN_ (Below.refl _ _) nn)))
    all_goals
      obtain ⟨z1, _, _, _, _, _⟩ := KK.out _ BC
      go_wp2
      go_ret
      exact ⟨by rw [HR.out]; rfl, BC⟩
  · have hr := HCL.out h1 h2
    have e1 : decide (p.num < 0) = true := by simp [h1]
    have e2 : decide (q.num < 0) = false := by simp [h2]
    rw [e1] at x1
    rw [e2] at y1
    clear HCL HCM HCP HCN K0 HT1 HT2 HC
    go_enter Tryz.func18, Tryz.ntmps18
    go_wp2_with fail
    refine HV1.out.mono ?_
    rintro e w' ⟨rfl, rfl⟩
    go_wp2_with fail
    refine HV2.out.mono ?_
    rintro e w' ⟨rfl, rfl⟩
    go_wp2_with fail
    go_quiet (fail)
    go_wp2
    go_ret
    exact ⟨by rw [hr]; rfl, Below.drewN_ (Below.refl _ _) _⟩
  · have hr := HCM.out h1 h2
    have e1 : decide (p.num < 0) = false := by simp [h1]
    have e2 : decide (q.num < 0) = true := by simp [h2]
    rw [e1] at x1
    rw [e2] at y1
    clear HCL HCM HCP HCN K0 HT1 HT2 HC
    go_enter Tryz.func18, Tryz.ntmps18
    go_wp2_with fail
    refine HV1.out.mono ?_
    rintro e w' ⟨rfl, rfl⟩
    go_wp2_with fail
    refine HV2.out.mono ?_
    rintro e w' ⟨rfl, rfl⟩
    go_wp2_with fail
    go_quiet (fail)
    go_wp2
    go_ret
    exact ⟨by rw [hr]; rfl, Below.drewN_ (Below.refl _ _) _⟩
  · have hr := HCP.out h1 h2
    have e1 : decide (p.num < 0) = false := by simp [h1]
    have e2 : decide (q.num < 0) = false := by simp [h2]
    rw [e1] at x1 K0
    rw [e2] at y1 K0
    have hcb : -1 ≤ cmpN (p.num.natAbs * q.den) (q.num.natAbs * p.den) ∧ cmpN (p.num.natAbs * q.den) (q.num.natAbs * p.den) ≤ 1 := by unfold cmpN; split <;> (try split) <;> omega
    have HR := Lib.hid hr
    clear hr
    generalize cmpN (p.num.natAbs * q.den) (q.num.natAbs * p.den) = c at *
    obtain ⟨hc1, hc2⟩ := hcb
    have KK : Hid (∀ W, Below w.heap.size w W → W.cell? ⟨bx, 1, none⟩ = some (.bool false) ∧ W.cell? ⟨bx, 2, none⟩ = some xn ∧ W.cell? ⟨bx, 3, none⟩ = some xd ∧ W.cell? ⟨b2, 1, none⟩ = some (.bool false) ∧ W.cell? ⟨b2, 2, none⟩ = some yn ∧ W.cell? ⟨b2, 3, none⟩ = some yd) := fun W hW => six_below hW hbx hby K0.out
    clear HCL HCM HCP HCN K0 e1 e2 h1 h2
    go_enter Tryz.func18, Tryz.ntmps18
    go_wp2_with fail
    refine HV1.out.mono ?_
    rintro e w' ⟨rfl, rfl⟩
    go_wp2_with fail
    refine HV2.out.mono ?_
    rintro e w' ⟨rfl, rfl⟩
    go_wp2_with fail
    go_quiet (fail)
    have BQ : Below w.heap.size w (w.drewN nq) := Below.drewN_ (Below.refl _ _) _
    clear x1 x2 x3 y1 y2 y3 HV1 HV2
    generalize hwz : w.drewN nq = wz at *
    clear hwz
    have BC : Below w.heap.size w wz.drew := Below.drew BQ
    go_wp2_with fail
    go_region_held3 (fun w' => w'.cell? ⟨bx, 1, none⟩ = some (.bool false) ∧ w'.cell? ⟨bx, 2, none⟩ = some xn ∧ w'.cell? ⟨bx, 3, none⟩ = some xd ∧ w'.cell? ⟨b2, 1, none⟩ = some (.bool false) ∧ w'.cell? ⟨b2, 2, none⟩ = some yn ∧ w'.cell? ⟨b2, 3, none⟩ = some yd)
      (first | exact KK.out _ BC | exact KK.out _ BQ) (first
        | (go_at_call_of 62 xn; refine (HT1.out _ BC).mono ?_; rintro e wA ⟨ta, rfl, hta, hbb⟩; replace BC := btr BC hbb; (try replace htb := htb.below hbb))
        | (go_at_call_of 62 yn; refine (HT2.out _ BC).mono ?_; rintro e wA ⟨tb, rfl, htb, hbb⟩; replace BC := btr BC hbb; (try replace hta := hta.below hbb))
        | (go_at_call 63; refine (HC.out _ ta tb hta htb).mono ?_; rintro e wA ⟨rfl, nn, rfl⟩; replace BC := btr BC (Below.drewN_ (Below.refl _ _) nn)))
    all_goals
      obtain ⟨z1, _, _, _, _, _⟩ := KK.out _ BC
      go_wp2
      go_ret
      exact ⟨by rw [HR.out]; rfl, BC⟩
end Go.Proofs.YthcpcaoapkmchaaGreatDoor

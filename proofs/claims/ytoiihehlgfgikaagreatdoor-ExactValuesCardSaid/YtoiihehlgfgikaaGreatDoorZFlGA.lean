/- The integer below a number of any size. -/
import Derived.Test.YtoiihehlgfgikaaGreatDoorZRing
import Derived.Test.YtoiihehlgfgikaaGreatDoorZFmt
import Derived.Test.YtoiihehlgfgikaaGreatDoorZFloor
namespace Go.Proofs.YtoiihehlgfgikaaGreatDoor
open Go.RowKit Go.Deep

set_option maxHeartbeats 2000000 in
theorem g_Floor (w : World) (v : Value) (neg : Bool) (n d : Nat) (h : RatAt w v neg n d) (hd0 : 0 < d) (hnn : nw n ≤ 100000) :
    Calls Tryz.prog 29 #[v] w (RatRet w (sgn neg (floorN neg n d)) (floorN neg n d) 1) := by
  have HV := Lib.hid (c_valid w v neg n d h)
  obtain ⟨b, nv, dv, rfl, hlt, _, h1, h2, h3, hn, hd⟩ := h
  have HDv := Lib.hid (fun k => g_divided (w.drewN k) nv dv n d (hn.drewN k) (hd.drewN k) (by omega) hd0)
  have K : Hid (∀ W, Below w.heap.size w W → W.cell? ⟨b, 1, none⟩ = some (.bool neg) ∧ W.cell? ⟨b, 2, none⟩ = some nv ∧ W.cell? ⟨b, 3, none⟩ = some dv) := fun W hW =>
    ⟨(hW.cell (p := ⟨b, 1, none⟩) hlt).trans h1, (hW.cell (p := ⟨b, 2, none⟩) hlt).trans h2, (hW.cell (p := ⟨b, 3, none⟩) hlt).trans h3⟩
  have hq : nw (n / d) ≤ 100000 := Nat.le_trans (nw_mono (Nat.div_le_self _ _)) hnn
  clear hn hd h1 h2 h3
  go_enter Tryz.func29, Tryz.ntmps29
  go_wp2_with fail
  refine HV.out.mono ?_
  rintro e w' ⟨rfl, rfl⟩
  have B0 : Below w.heap.size w w.drew := Below.drew (Below.refl _ _)
  go_wp2_with fail
  go_region_held3 (fun w' => w'.cell? ⟨b, 1, none⟩ = some (.bool neg) ∧ w'.cell? ⟨b, 2, none⟩ = some nv ∧ w'.cell? ⟨b, 3, none⟩ = some dv)
    (first | exact K.out _ B1 | exact K.out _ B0 | exact K.out _ (Below.refl _ _)) (first
      | (go_at_call 71; refine (HDv.out 1).mono ?_; rintro e w1 ⟨q, r, rfl, hqa, hra, hb1⟩; have B1 : Below w.heap.size w w1 := btr B0 hb1))
  obtain ⟨c1, c2, c3⟩ := K.out _ B1
  have HRA := Lib.hid hra
  obtain ⟨A, c, rfl, _, _, _⟩ := hra
  have HQA := Lib.hid hqa
  have B1d : Below w1.heap.size w1 w1.drew := Below.drew (Below.refl _ _)
  have K1 : Hid (∀ W, Below w1.heap.size w1 W → W.cell? ⟨b, 1, none⟩ = some (.bool neg)) := fun W hW => (K.out W (btr B1 hW)).1
  have HW1 := Lib.hid (fun W => n_word W 1 (by decide))
  clear hqa HDv B0 HV
  by_cases hc : neg = true ∧ n % d ≠ 0
  · have HF : Hid (floorN neg n d = n / d + 1) := if_pos hc
    have hr0 : 0 < nw (n % d) := by rw [nw_pos]; omega
    have hng : neg = true := hc.1
    subst hng
    clear hc
    generalize nw (n % d) = m at *
    have hdm : decide (0 < m) = true := by simp [hr0]
    go_wp2_with fail
    refine (HW1.out _).mono ?_
    rintro e w2 ⟨o, rfl, ho, hb2⟩
    have HPl := Lib.hid (n_plus w2 q o (n / d) 1 (HQA.out.below hb2) ho (by omega) (by rw [nw_one 1 (by omega) (by decide)]; omega))
    go_wp2_with fail
    refine HPl.out.mono ?_
    rintro e w3 ⟨wh, rfl, hwh, hb3⟩
    have B3 : Below w1.heap.size w1 w3 := btr hb2 hb3
    have B3d : Below w3.heap.size w3 w3.drew := Below.drew (Below.refl _ _)
    have HWH := Lib.hid hwh
    clear ho hwh HPl
    go_wp2_with fail
    go_region_held3 (fun w' => w'.cell? ⟨b, 1, none⟩ = some (.bool true))
      (first | exact K1.out _ (btr B3 B5) | exact K1.out _ (btr B3 B4) | exact K1.out _ (btr B3 B3d) | exact K1.out _ B3) (first
        | (go_at_call 25; refine (HW1.out _).mono ?_; rintro e w4 ⟨o2, rfl, ho2, hb4⟩; have B4 : Below w3.heap.size w3 w4 := btr B3d hb4)
        | (go_at_call 24; refine (c_made _ wh o2 true (n / d + 1) 1 (HWH.out.below B4) ho2).mono ?_; rintro e w5 ⟨u, rfl, hu, hb5⟩; have B5 : Below w3.heap.size w3 w5 := btr B4 hb5))
    all_goals
      go_wp2
      go_ret
      exact ⟨u, rfl, by rw [HF.out]; exact hu, btr B1 (btr B3 B5)⟩
  · have HF : Hid (floorN neg n d = n / d) := if_neg hc
    have hdm : neg = false ∨ (neg = true ∧ nw (n % d) = 0) := by
      cases neg
      · exact .inl rfl
      · refine .inr ⟨rfl, ?_⟩
        rw [nw_eq_zero]
        rcases Nat.eq_zero_or_pos (n % d) with h9 | h9
        · exact h9
        · exact absurd ⟨rfl, by omega⟩ hc
    clear hc
    generalize nw (n % d) = m at *
    rcases hdm with rfl | ⟨rfl, rfl⟩
    · go_wp2_with fail
      go_region_held3 (fun w' => w'.cell? ⟨b, 1, none⟩ = some (.bool false))
        (first | exact K1.out _ B5 | exact K1.out _ B4 | exact K1.out _ B1d | exact K1.out _ (Below.refl _ _)) (first
          | (go_at_call 25; refine (HW1.out _).mono ?_; rintro e w4 ⟨o2, rfl, ho2, hb4⟩; have B4 : Below w1.heap.size w1 w4 := btr B1d hb4)
          | (go_at_call 24; refine (c_made _ q o2 false (n / d) 1 (HQA.out.below B4) ho2).mono ?_; rintro e w5 ⟨u, rfl, hu, hb5⟩; have B5 : Below w1.heap.size w1 w5 := btr B4 hb5))
      all_goals
        go_wp2
        go_ret
        exact ⟨u, rfl, by rw [HF.out]; exact hu, btr B1 B5⟩
    · go_wp2_with fail
      go_region_held3 (fun w' => w'.cell? ⟨b, 1, none⟩ = some (.bool true))
        (first | exact K1.out _ B5 | exact K1.out _ B4 | exact K1.out _ B1d | exact K1.out _ (Below.refl _ _)) (first
          | (go_at_call 25; refine (HW1.out _).mono ?_; rintro e w4 ⟨o2, rfl, ho2, hb4⟩; have B4 : Below w1.heap.size w1 w4 := btr B1d hb4)
          | (go_at_call 24; refine (c_made _ q o2 true (n / d) 1 (HQA.out.below B4) ho2).mono ?_; rintro e w5 ⟨u, rfl, hu, hb5⟩; have B5 : Below w1.heap.size w1 w5 := btr B4 hb5))
      all_goals
        go_wp2
        go_ret
        exact ⟨u, rfl, by rw [HF.out]; exact hu, btr B1 B5⟩

/-- The three parts of the integer below a number. -/
theorem floor_parts (q : Rat) : sgn (decide (q.num < 0)) (floorN (decide (q.num < 0)) q.num.natAbs q.den) = decide (((q.floor : Int) : Rat).num < 0) ∧
    floorN (decide (q.num < 0)) q.num.natAbs q.den = ((q.floor : Int) : Rat).num.natAbs ∧ 1 = ((q.floor : Int) : Rat).den := by
  rw [Rat.num_intCast, Rat.den_intCast, Rat.floor_def]
  have hd := q.den_pos
  generalize q.num = m
  generalize q.den = d at *
  unfold sgn floorN
  by_cases hm : m < 0
  · obtain ⟨k, rfl⟩ : ∃ k : Nat, m = -((k : Int) + 1) := ⟨(-m - 1).toNat, by omega⟩
    have e1 : (-((k : Int) + 1)).natAbs = k + 1 := by omega
    have e2 : -((k : Int) + 1) / (d : Int) = -((k / d : Nat) : Int) - 1 := by
      rw [show -((k : Int) + 1) = Int.negSucc k from by rw [Int.negSucc_eq]]
      rw [Int.negSucc_ediv _ (by omega)]
      rw [show (k : Int).ediv (d : Int) = ((k / d : Nat) : Int) from rfl]
      omega
    rw [e1, e2]
    have e3 : (if decide (-((k : Int) + 1) < 0) = true ∧ (k + 1) % d ≠ 0 then (k + 1) / d + 1 else (k + 1) / d) = k / d + 1 := by
      simp only [hm, decide_true, true_and]
      rw [Nat.succ_div]
      by_cases h : d ∣ k + 1
      · rw [if_neg (by have := Nat.mod_eq_zero_of_dvd h; omega), if_pos h]
      · rw [if_pos (by intro h9; exact h (Nat.dvd_of_mod_eq_zero h9)), if_neg h]
    rw [e3]
    refine ⟨?_, by omega, rfl⟩
    simp only [hm, decide_true, Bool.true_and, decide_eq_decide]
    omega
  · obtain ⟨k, rfl⟩ : ∃ k : Nat, m = (k : Int) := ⟨m.toNat, by omega⟩
    have e2 : (k : Int) / (d : Int) = ((k / d : Nat) : Int) := rfl
    simp only [hm, decide_false, Bool.false_and, Bool.false_eq_true, false_and, if_false, e2, Int.natAbs_natCast]
    refine ⟨?_, trivial, trivial⟩
    symm
    rw [decide_eq_false_iff_not]
    generalize k / d = z
    omega
theorem v_Floor (w : World) (x : Value) (q : Rat) (hx : RatV w x q) (k : RatW q 100000) :
    Calls Tryz.prog 29 #[x] w (RatVRet w ((q.floor : Int) : Rat)) := by
  obtain ⟨e1, e2, e3⟩ := floor_parts q
  refine (g_Floor w x _ _ _ hx q.den_pos k.1).mono ?_
  rintro e w' ⟨u, rfl, hu, hb⟩
  rw [e1, e2] at hu
  exact ⟨u, rfl, hu.toV rfl rfl e3, hb⟩
theorem ratW_floor {q : Rat} {a : Nat} (h : RatW q a) : RatW ((q.floor : Int) : Rat) (a + 2) := by
  obtain ⟨_, e2, e3⟩ := floor_parts q
  refine ⟨?_, ?_⟩
  · rw [← e2]
    have h1 : floorN (decide (q.num < 0)) q.num.natAbs q.den ≤ q.num.natAbs + 1 := by
      have := Nat.div_le_self q.num.natAbs q.den
      unfold floorN
      split <;> omega
    have h2 := nw_add q.num.natAbs 1
    have h3 := nw_mono h1
    have h4 : nw 1 = 1 := nw_one 1 (by omega) (by decide)
    have := h.1
    omega
  · rw [← e3, nw_one 1 (by omega) (by decide)]
    omega
theorem whole_floor (q : Rat) : isOneB q.den = decide (((q.floor : Int) : Rat) = q) := by
  rw [Bool.eq_iff_iff, decide_eq_true_iff]
  unfold isOneB
  constructor
  · intro h
    have h1 : q.den = 1 := by simpa using h
    rw [Rat.eq_iff_mul_eq_mul, Rat.num_intCast, Rat.den_intCast, Rat.floor_def, h1]
    simp
  · intro h
    rw [← h, Rat.den_intCast]
    rfl
end Go.Proofs.YtoiihehlgfgikaaGreatDoor

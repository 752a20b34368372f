/- ExactOrders: whatever the three lists of pairs, Cmp is a total order that agrees with the sign of the difference, and the integer below a number is at most this number and greater than it less 1: the law returns true. Its row lists package-level variables of Go's library, tied to the program's text by the card. -/
import Derived.Test.YtgbkchjpmjigbaaGreatDoorZRing
import Derived.Test.YtgbkchjpmjigbaaGreatDoorZFloor
import Derived.Test.YtgbkchjpmjigbaaGreatDoorTie
import Derived.Test.YtgbkchjpmjigbaaGreatDoorCards
import Derived.Test.YtgbkchjpmjigbaaGreatDoorZRow
import Derived.SevenTiedAt

/- The integer below a number of any size, and equality refused: what the calls return. -/
section
namespace Go.Proofs.YtgbkchjpmjigbaaGreatDoor
open Go.RowKit Go.Deep

set_option maxHeartbeats 2000000 in
theorem g_Floor (w : World) (v : Value) (neg : Bool) (n d : Nat) (h : RatAt w v neg n d) (hd0 : 0 < d) (hnn : nw n ≤ 100000) :
    Calls Tryz.prog 17 #[v] w (RatRet w (sgn neg (floorN neg n d)) (floorN neg n d) 1) := by
  have HV := Lib.hid (c_valid w v neg n d h)
  obtain ⟨b, nv, dv, rfl, hlt, _, h1, h2, h3, hn, hd⟩ := h
  have HDv := Lib.hid (fun k => g_divided (w.drewN k) nv dv n d (hn.drewN k) (hd.drewN k) (by omega) hd0)
  have K : Hid (∀ W, Below w.heap.size w W → W.cell? ⟨b, 1, none⟩ = some (.bool neg) ∧ W.cell? ⟨b, 2, none⟩ = some nv ∧ W.cell? ⟨b, 3, none⟩ = some dv) := fun W hW =>
    ⟨(hW.cell (p := ⟨b, 1, none⟩) hlt).trans h1, (hW.cell (p := ⟨b, 2, none⟩) hlt).trans h2, (hW.cell (p := ⟨b, 3, none⟩) hlt).trans h3⟩
  have hq : nw (n / d) ≤ 100000 := Nat.le_trans (nw_mono (Nat.div_le_self _ _)) hnn
  clear hn hd h1 h2 h3
  go_enter Tryz.func17, Tryz.ntmps17
  go_wp2_with fail
  refine HV.out.mono ?_
  rintro e w' ⟨rfl, rfl⟩
  have B0 : Below w.heap.size w w.drew := Below.drew (Below.refl _ _)
  go_wp2_with fail
  go_region_held3 (fun w' => w'.cell? ⟨b, 1, none⟩ = some (.bool neg) ∧ w'.cell? ⟨b, 2, none⟩ = some nv ∧ w'.cell? ⟨b, 3, none⟩ = some dv)
    (first | exact K.out _ B1 | exact K.out _ B0 | exact K.out _ (Below.refl _ _)) (first
      | (go_at_call 41; refine (HDv.out 1).mono ?_; rintro e w1 ⟨q, r, rfl, hqa, hra, hb1⟩; have B1 : Below w.heap.size w w1 := btr B0 hb1))
  obtain ⟨c1, c2, c3⟩ := K.out _ B1
  have HRA := Lib.hid hra
  obtain ⟨A, c, rfl, _, _, _⟩ := hra
  have HQA := Lib.hid hqa
  have B1d : Below w1.heap.size w1 w1.drew := Below.drew (Below.refl _ _)
  have K1 : Hid (∀ W, Below w1.heap.size w1 W → W.cell? ⟨b, 1, none⟩ = some (.bool neg)) := fun W hW => (K.out W (btr B1 hW)).1
  have HW1 := Lib.hid (fun W => n_word W 1 (by decide))
  clear hqa HDv B0 HV
  by_cases hc : neg = true ∧ n % d ≠ 0
  · have HF : Hid (floorN neg n d = n / d + 1) := if_pos hc
    have hr0 : 0 < nw (n % d) := by rw [nw_pos]; omega
    have hng : neg = true := hc.1
    subst hng
    clear hc
    generalize nw (n % d) = m at *
    have hdm : decide (0 < m) = true := by simp [hr0]
    go_wp2_with fail
    refine (HW1.out _).mono ?_
    rintro e w2 ⟨o, rfl, ho, hb2⟩
    have HPl := Lib.hid (n_plus w2 q o (n / d) 1 (HQA.out.below hb2) ho (by omega) (by rw [nw_one 1 (by omega) (by decide)]; omega))
    go_wp2_with fail
    refine HPl.out.mono ?_
    rintro e w3 ⟨wh, rfl, hwh, hb3⟩
    have B3 : Below w1.heap.size w1 w3 := btr hb2 hb3
    have B3d : Below w3.heap.size w3 w3.drew := Below.drew (Below.refl _ _)
    have HWH := Lib.hid hwh
    clear ho hwh HPl
    go_wp2_with fail
    go_region_held3 (fun w' => w'.cell? ⟨b, 1, none⟩ = some (.bool true))
      (first | exact K1.out _ (btr B3 B5) | exact K1.out _ (btr B3 B4) | exact K1.out _ (btr B3 B3d) | exact K1.out _ B3) (first
        | (go_at_call 36; refine (HW1.out _).mono ?_; rintro e w4 ⟨o2, rfl, ho2, hb4⟩; have B4 : Below w3.heap.size w3 w4 := btr B3d hb4)
        | (go_at_call 35; refine (c_made _ wh o2 true (n / d + 1) 1 (HWH.out.below B4) ho2).mono ?_; rintro e w5 ⟨u, rfl, hu, hb5⟩; have B5 : Below w3.heap.size w3 w5 := btr B4 hb5))
    all_goals
      go_wp2
      go_ret
      exact ⟨u, rfl, by rw [HF.out]; exact hu, btr B1 (btr B3 B5)⟩
  · have HF : Hid (floorN neg n d = n / d) := if_neg hc
    have hdm : neg = false ∨ (neg = true ∧ nw (n % d) = 0) := by
      cases neg
      · exact .inl rfl
      · refine .inr ⟨rfl, ?_⟩
        rw [nw_eq_zero]
        rcases Nat.eq_zero_or_pos (n % d) with h9 | h9
        · exact h9
        · exact absurd ⟨rfl, by omega⟩ hc
    clear hc
    generalize nw (n % d) = m at *
    rcases hdm with rfl | ⟨rfl, rfl⟩
    · go_wp2_with fail
      go_region_held3 (fun w' => w'.cell? ⟨b, 1, none⟩ = some (.bool false))
        (first | exact K1.out _ B5 | exact K1.out _ B4 | exact K1.out _ B1d | exact K1.out _ (Below.refl _ _)) (first
          | (go_at_call 36; refine (HW1.out _).mono ?_; rintro e w4 ⟨o2, rfl, ho2, hb4⟩; have B4 : Below w1.heap.size w1 w4 := btr B1d hb4)
          | (go_at_call 35; refine (c_made _ q o2 false (n / d) 1 (HQA.out.below B4) ho2).mono ?_; rintro e w5 ⟨u, rfl, hu, hb5⟩; have B5 : Below w1.heap.size w1 w5 := btr B4 hb5))
      all_goals
        go_wp2
        go_ret
        exact ⟨u, rfl, by rw [HF.out]; exact hu, btr B1 B5⟩
    · go_wp2_with fail
      go_region_held3 (fun w' => w'.cell? ⟨b, 1, none⟩ = some (.bool true))
        (first | exact K1.out _ B5 | exact K1.out _ B4 | exact K1.out _ B1d | exact K1.out _ (Below.refl _ _)) (first
          | (go_at_call 36; refine (HW1.out _).mono ?_; rintro e w4 ⟨o2, rfl, ho2, hb4⟩; have B4 : Below w1.heap.size w1 w4 := btr B1d hb4)
          | (go_at_call 35; refine (c_made _ q o2 true (n / d) 1 (HQA.out.below B4) ho2).mono ?_; rintro e w5 ⟨u, rfl, hu, hb5⟩; have B5 : Below w1.heap.size w1 w5 := btr B4 hb5))
      all_goals
        go_wp2
        go_ret
        exact ⟨u, rfl, by rw [HF.out]; exact hu, btr B1 B5⟩

/-- The three parts of the integer below a number. -/
theorem floor_parts (q : Rat) : sgn (decide (q.num < 0)) (floorN (decide (q.num < 0)) q.num.natAbs q.den) = decide (((q.floor : Int) : Rat).num < 0) ∧
    floorN (decide (q.num < 0)) q.num.natAbs q.den = ((q.floor : Int) : Rat).num.natAbs ∧ 1 = ((q.floor : Int) : Rat).den := by
  rw [Rat.num_intCast, Rat.den_intCast, Rat.floor_def]
  have hd := q.den_pos
  generalize q.num = m
  generalize q.den = d at *
  unfold sgn floorN
  by_cases hm : m < 0
  · obtain ⟨k, rfl⟩ : ∃ k : Nat, m = -((k : Int) + 1) := ⟨(-m - 1).toNat, by omega⟩
    have e1 : (-((k : Int) + 1)).natAbs = k + 1 := by omega
    have e2 : -((k : Int) + 1) / (d : Int) = -((k / d : Nat) : Int) - 1 := by
      rw [show -((k : Int) + 1) = Int.negSucc k from by rw [Int.negSucc_eq]]
      rw [Int.negSucc_ediv _ (by omega)]
      rw [show (k : Int).ediv (d : Int) = ((k / d : Nat) : Int) from rfl]
      omega
    rw [e1, e2]
    have e3 : (if decide (-((k : Int) + 1) < 0) = true ∧ (k + 1) % d ≠ 0 then (k + 1) / d + 1 else (k + 1) / d) = k / d + 1 := by
      simp only [hm, decide_true, true_and]
      rw [Nat.succ_div]
      by_cases h : d ∣ k + 1
      · rw [if_neg (by have := Nat.mod_eq_zero_of_dvd h; omega), if_pos h]
      · rw [if_pos (by intro h9; exact h (Nat.dvd_of_mod_eq_zero h9)), if_neg h]
    rw [e3]
    refine ⟨?_, by omega, rfl⟩
    simp only [hm, decide_true, Bool.true_and, decide_eq_decide]
    omega
  · obtain ⟨k, rfl⟩ : ∃ k : Nat, m = (k : Int) := ⟨m.toNat, by omega⟩
    have e2 : (k : Int) / (d : Int) = ((k / d : Nat) : Int) := rfl
    simp only [hm, decide_false, Bool.false_and, Bool.false_eq_true, false_and, if_false, e2, Int.natAbs_natCast]
    refine ⟨?_, trivial, trivial⟩
    symm
    rw [decide_eq_false_iff_not]
    generalize k / d = z
    omega
theorem v_Floor (w : World) (x : Value) (q : Rat) (hx : RatV w x q) (k : RatW q 100000) :
    Calls Tryz.prog 17 #[x] w (RatVRet w ((q.floor : Int) : Rat)) := by
  obtain ⟨e1, e2, e3⟩ := floor_parts q
  refine (g_Floor w x _ _ _ hx q.den_pos k.1).mono ?_
  rintro e w' ⟨u, rfl, hu, hb⟩
  rw [e1, e2] at hu
  exact ⟨u, rfl, hu.toV rfl rfl e3, hb⟩
theorem ratW_floor {q : Rat} {a : Nat} (h : RatW q a) : RatW ((q.floor : Int) : Rat) (a + 2) := by
  obtain ⟨_, e2, e3⟩ := floor_parts q
  refine ⟨?_, ?_⟩
  · rw [← e2]
    have h1 : floorN (decide (q.num < 0)) q.num.natAbs q.den ≤ q.num.natAbs + 1 := by
      have := Nat.div_le_self q.num.natAbs q.den
      unfold floorN
      split <;> omega
    have h2 := nw_add q.num.natAbs 1
    have h3 := nw_mono h1
    have h4 : nw 1 = 1 := nw_one 1 (by omega) (by decide)
    have := h.1
    omega
  · rw [← e3, nw_one 1 (by omega) (by decide)]
    omega
theorem whole_floor (q : Rat) : isOneB q.den = decide (((q.floor : Int) : Rat) = q) := by
  rw [Bool.eq_iff_iff, decide_eq_true_iff]
  unfold isOneB
  constructor
  · intro h
    have h1 : q.den = 1 := by simpa using h
    rw [Rat.eq_iff_mul_eq_mul, Rat.num_intCast, Rat.den_intCast, Rat.floor_def, h1]
    simp
  · intro h
    rw [← h, Rat.den_intCast]
    rfl
set_option maxRecDepth 100000 in
set_option maxHeartbeats 4000000 in
theorem l_equal_ne (w : World) (x y : Value) (p q : Rat) (hx : RatV w x p) (hy : RatV w y q) (hpq : p ≠ q) (k : RatW p 100000) (k' : RatW q 100000) (htab : Tab w) :
    Calls Tryz.prog 8 #[x, y] w fun e w' => e = .returned (.bool false) ∧ Below w.heap.size w w' := by
  have HT1 := Lib.hid (v_Text w x p hx k htab)
  have HT2 : Hid (∀ W, Below w.heap.size w W → Calls Tryz.prog 16 #[y] W fun e w' => e = .returned (.string ⟨(txt q).toArray⟩) ∧ Below W.heap.size W w') := fun W hW => v_Text W y q (hy.below hW) k' (htab.below hW)
  have hne : cmpQ p q ≠ 0 := by
    unfold cmpQ
    split
    · decide
    · decide
  have HC : Hid (∀ W, Below w.heap.size w W → Calls Tryz.prog 15 #[x, y] W fun e w' => e = .returned (.int .i64 (cmpQ p q)) ∧ Below W.heap.size W w') := fun W hW => v_Cmp W x y p q (hx.below hW) (hy.below hW) k k'
  obtain ⟨b1, _, _, rfl, _⟩ := hx
  obtain ⟨b2, _, _, rfl, _⟩ := hy
  clear k k' htab hpq
  generalize cmpQ p q = c at *
  have hc0 : (c == 0) = false := by rw [beq_eq_false_iff_ne]; exact hne
  have HNE := Lib.hid hne
  clear hne
  generalize txt p = tx at *
  generalize txt q = ty at *
  go_enter Tryz.func8, Tryz.ntmps8
  go_wp2_with fail
  refine HT1.out.mono ?_
  rintro e w1 ⟨rfl, hb1⟩
  go_wp2_with fail
  refine (HT2.out _ hb1).mono ?_
  rintro e w2 ⟨rfl, hb2⟩
  by_cases hte : tx = ty
  · subst hte
    go_wp2_with fail
    refine (HC.out _ (btr hb1 hb2)).mono ?_
    rintro e w3 ⟨rfl, hb3⟩
    go_wp2
    go_ret
    exact ⟨rfl, btr (btr hb1 hb2) hb3⟩
  · go_wp2_with fail
    go_ret
    exact ⟨rfl, btr hb1 hb2⟩
end Go.Proofs.YtgbkchjpmjigbaaGreatDoor
end

/- ExactOrders: the whole walk of the law. -/
section
namespace Go.Proofs.YtgbkchjpmjigbaaGreatDoor
open Go.RowKit Go.Deep

theorem cmp3 (p q : Rat) : cmpQ p q = -1 ∨ cmpQ p q = 0 ∨ cmpQ p q = 1 := by
  unfold cmpQ
  split
  · exact .inl rfl
  · split
    · exact .inr (.inl rfl)
    · exact .inr (.inr rfl)
theorem cmp_le (p q : Rat) : cmpQ p q ≤ 0 ↔ p ≤ q := by
  rw [cmpQ_of, Rat.le_iff]
  generalize p.num * (q.den : Int) = a
  generalize q.num * (p.den : Int) = b
  by_cases h1 : a < b
  · rw [if_pos h1]; omega
  · rw [if_neg h1]
    by_cases h2 : a = b
    · rw [if_pos h2]; omega
    · rw [if_neg h2]; omega
theorem cmp_eq (p q : Rat) : cmpQ p q = 0 ↔ p = q := by
  rw [cmpQ_of, Rat.eq_iff_mul_eq_mul]
  generalize p.num * (q.den : Int) = a
  generalize q.num * (p.den : Int) = b
  by_cases h1 : a < b
  · rw [if_pos h1]; omega
  · rw [if_neg h1]
    by_cases h2 : a = b
    · rw [if_pos h2]; omega
    · rw [if_neg h2]; omega
theorem cmp_swap (p q : Rat) : cmpQ q p = -cmpQ p q := by
  rw [cmpQ_of, cmpQ_of]
  generalize p.num * (q.den : Int) = a
  generalize q.num * (p.den : Int) = b
  rcases Int.lt_trichotomy a b with h | h | h
  · rw [if_neg (by omega), if_neg (by omega), if_pos h]; rfl
  · rw [if_neg (by omega), if_pos h.symm, if_neg (by omega), if_pos h]; rfl
  · rw [if_pos h, if_neg (by omega), if_neg (by omega)]
theorem cmp_sign (p q : Rat) : signN (decide ((p - q).num < 0)) (p - q).num.natAbs = cmpQ p q := by
  have h0 : 0 ≤ (p - q).num ↔ q ≤ p := by rw [Rat.num_nonneg, ← Rat.le_iff_sub_nonneg]
  have h1 : (p - q).num = 0 ↔ p = q := by
    rw [Rat.num_eq_zero]
    constructor
    · intro h
      have := Rat.sub_add_cancel (a := p) (b := q)
      rw [h, Rat.zero_add] at this
      exact this.symm
    · rintro rfl
      exact Rat.sub_self
  rw [← cmp_le, cmp_swap] at h0
  rw [← cmp_eq] at h1
  unfold signN
  rcases cmp3 p q with h | h | h <;> rw [h] at h0 h1 ⊢
  · rw [if_neg (by omega), if_pos (by rw [decide_eq_true_iff]; omega)]
  · rw [if_pos (by omega)]
  · rw [if_neg (by omega), if_neg (by rw [decide_eq_true_iff]; omega)]
theorem floor_cmp (q : Rat) : cmpQ ((q.floor : Int) : Rat) q ≤ 0 := (cmp_le _ _).2 (Rat.floor_le q)
theorem floor_cmp1 (q : Rat) : cmpQ ((q.floor : Int) : Rat) (q - 1) = 1 := by
  have h : ¬ cmpQ ((q.floor : Int) : Rat) (q - 1) ≤ 0 := by
    rw [cmp_le, Rat.not_le, Rat.sub_lt_iff]
    have h9 := Rat.lt_floor_add_one q
    rw [Rat.intCast_add] at h9
    exact h9
  rcases cmp3 ((q.floor : Int) : Rat) (q - 1) with h' | h' | h' <;> rw [h'] at h ⊢ <;> omega
theorem v_One (w : World) : Calls Tryz.prog 14 #[.int .i64 1, .int .i64 1] w fun e w' => ∃ u, e = .returned (.tuple #[u, .int .i64 0]) ∧ RatV w' u 1 ∧ Below w.heap.size w w' := by
  refine (c_Of w 1 1 (by omega) (by omega) (by omega) (by omega) (by omega)).mono ?_
  rintro e w' ⟨u, rfl, hu, hb⟩
  exact ⟨u, rfl, hu.toV (by decide) (by decide) (by decide), hb⟩
theorem glob_in {w : World} {g : Nat} {v : Value} (hm : w.cell? ⟨g, 0, none⟩ = some v) : g < w.heap.size := by
  by_cases h : g < w.heap.size
  · exact h
  · exfalso
    have : w.heap[g]? = none := Array.getElem?_eq_none (by omega)
    simp [World.cell?, this] at hm
theorem ratW_one : RatW 1 1 := ⟨by rw [show (1 : Rat).num.natAbs = 1 from rfl, nw_one 1 (by omega) (by decide)]; omega, by rw [show (1 : Rat).den = 1 from rfl, nw_one 1 (by omega) (by decide)]; omega⟩

set_option maxRecDepth 100000 in
set_option maxHeartbeats 8000000 in
theorem l_orders (w : World) (A B C : Option Addr) (n1 c1 n2 c2 n3 c3 : Nat) (t1 s1 t2 s2 t3 s3 : Nat → Int) (h1 : Pairs w A n1 t1 s1) (h2 : Pairs w B n2 t2 s2) (h3 : Pairs w C n3 t3 s3)
    (htab : Tab w) (m : Int) (hm : w.cell? ⟨3, 0, none⟩ = some (.int .i64 m)) :
    Calls Tryz.prog 4 #[.slice A n1 c1, .slice B n2 c2, .slice C n3 c3] w fun e w' => e = .returned (.bool true) ∧ Below w.heap.size w w' := by
  have HM : Hid (∀ W, Below w.heap.size w W → W.cell? ⟨3, 0, none⟩ = some (.int .i64 m)) := fun W hw => (hw.cell (p := ⟨3, 0, none⟩) (glob_in hm)).trans hm
  have HT : Hid (∀ W, Below w.heap.size w W → Tab W) := fun W hw => htab.below hw
  have H1 := Lib.hid h1
  have H2 := Lib.hid h2
  have H3 := Lib.hid h3
  clear hm htab h1 h2 h3
  by_cases hl : n1 ≤ 12 ∧ n2 ≤ 12 ∧ n3 ≤ 12
  · obtain ⟨l1, l2, l3⟩ := hl
    have M1 := Lib.hid (l_made w A n1 c1 t1 s1 H1.out l1)
    have M2 := Lib.hid (fun W hW => l_made W B n2 c2 t2 s2 (H2.out.below (w' := W) hW) l2)
    have M3 := Lib.hid (fun W hW => l_made W C n3 c3 t3 s3 (H3.out.below (w' := W) hW) l3)
    have i1 : ((12 : Int) < (n1 : Int)) = False := by simp; omega
    have i2 : ((12 : Int) < (n2 : Int)) = False := by simp; omega
    have i3 : ((12 : Int) < (n3 : Int)) = False := by simp; omega
    go_enter Tryz.func4, Tryz.ntmps4
    go_wp2_with fail
    refine M1.out.mono ?_
    rintro e w1 ⟨x, p, rfl, hx, hp, b1⟩
    have B1 := Lib.hid b1
    have X1 := Lib.hid hx
    have KP := Lib.hid hp
    clear b1 hx hp
    go_wp2_with fail
    refine (M2.out _ B1.out).mono ?_
    rintro e w2 ⟨y, q, rfl, hy, hq, b2⟩
    have B2 : Hid (Below w.heap.size w w2) := btr B1.out b2
    have X2 : Hid (RatV w2 x p) := X1.out.below b2
    have Y2 := Lib.hid hy
    have KQ := Lib.hid hq
    clear b2 hy hq
    go_wp2_with fail
    refine (M3.out _ B2.out).mono ?_
    rintro e w3 ⟨z, r, rfl, hz, hr, b3⟩
    have B3 : Hid (Below w.heap.size w w3) := btr B2.out b3
    have X3 : Hid (∀ W, Below w3.heap.size w3 W → RatV W x p) := fun W hW => (X2.out.below b3).below hW
    have Y3 : Hid (∀ W, Below w3.heap.size w3 W → RatV W y q) := fun W hW => (Y2.out.below b3).below hW
    have Z3 : Hid (∀ W, Below w3.heap.size w3 W → RatV W z r) := fun W hW => hz.below hW
    have KR := Lib.hid hr
    have T3 : Hid (∀ W, Below w3.heap.size w3 W → Tab W) := fun W hW => HT.out W (btr B3.out hW)
    clear b3 hr M1 M2 M3 H1 H2 H3 X1 X2 Y2 HT
    have D3 : Hid (Below w3.heap.size w3 w3) := Below.refl _ _
    obtain ⟨bx, _, _, rfl, _⟩ := X3.out _ D3.out
    obtain ⟨by', _, _, rfl, _⟩ := Y3.out _ D3.out
    clear hz
    obtain ⟨bz, _, _, rfl, _⟩ := Z3.out _ D3.out
    go_wp2_with fail
    refine (v_One _).mono ?_
    rintro e w4 ⟨one, rfl, ho, b4⟩
    have D4 : Hid (Below w3.heap.size w3 w4) := b4
    have O4 := Lib.hid ho
    clear ho b4
    have fl0 : Hid (cmpQ ((p.floor : Int) : Rat) p ≤ 0) := floor_cmp p
    have fl1 : Hid (cmpQ ((p.floor : Int) : Rat) (p - 1) = 1) := floor_cmp1 p
    have KF : Hid (RatW ((p.floor : Int) : Rat) 402) := ratW_floor KP.out
    have WF : Hid (isOneB p.den = decide (((p.floor : Int) : Rat) = p)) := whole_floor p
    have CX : Hid (∀ W, Below w3.heap.size w3 W → Calls Tryz.prog 15 #[.pointer (some ⟨bx, 0, none⟩), .pointer (some ⟨by', 0, none⟩)] W fun e w' => e = .returned (.int .i64 (cmpQ p q)) ∧ Below W.heap.size W w') := fun W hW => v_Cmp W _ _ p q (X3.out W hW) (Y3.out W hW) (KP.out.mono (by omega)) (KQ.out.mono (by omega))
    have CY : Hid (∀ W, Below w3.heap.size w3 W → Calls Tryz.prog 15 #[.pointer (some ⟨by', 0, none⟩), .pointer (some ⟨bz, 0, none⟩)] W fun e w' => e = .returned (.int .i64 (cmpQ q r)) ∧ Below W.heap.size W w') := fun W hW => v_Cmp W _ _ q r (Y3.out W hW) (Z3.out W hW) (KQ.out.mono (by omega)) (KR.out.mono (by omega))
    have CZ : Hid (∀ W, Below w3.heap.size w3 W → Calls Tryz.prog 15 #[.pointer (some ⟨bx, 0, none⟩), .pointer (some ⟨bz, 0, none⟩)] W fun e w' => e = .returned (.int .i64 (cmpQ p r)) ∧ Below W.heap.size W w') := fun W hW => v_Cmp W _ _ p r (X3.out W hW) (Z3.out W hW) (KP.out.mono (by omega)) (KR.out.mono (by omega))
    have CS : Hid (∀ W, Below w3.heap.size w3 W → Calls Tryz.prog 15 #[.pointer (some ⟨by', 0, none⟩), .pointer (some ⟨bx, 0, none⟩)] W fun e w' => e = .returned (.int .i64 (-cmpQ p q)) ∧ Below W.heap.size W w') := fun W hW => by
      have h9 := v_Cmp W _ _ q p (Y3.out W hW) (X3.out W hW) (KQ.out.mono (by omega)) (KP.out.mono (by omega))
      rw [cmp_swap] at h9
      exact h9
    have SG : Hid (signN (decide ((p - q).num < 0)) (p - q).num.natAbs = cmpQ p q) := cmp_sign p q
    have E0 : Hid (cmpQ p q = 0 → p = q) := (cmp_eq p q).1
    have TR : Hid (cmpQ p q ≤ 0 → cmpQ q r ≤ 0 → cmpQ p r ≤ 0) := fun a b => (cmp_le _ _).2 (Rat.le_trans ((cmp_le _ _).1 a) ((cmp_le _ _).1 b))
    have C3 : Hid (cmpQ p q = -1 ∨ cmpQ p q = 0 ∨ cmpQ p q = 1) := cmp3 p q
    generalize cmpQ p q = ca at *
    generalize cmpQ q r = cb at *
    generalize cmpQ p r = cc at *
    go_wp2_with fail
    refine (CX.out _ D4.out).mono ?_
    rintro e w5 ⟨rfl, b5⟩
    have D5 : Hid (Below w3.heap.size w3 w5) := btr D4.out b5
    go_wp2_with fail
    refine (CY.out _ D5.out).mono ?_
    rintro e w6 ⟨rfl, b6⟩
    have D6 : Hid (Below w3.heap.size w3 w6) := btr D5.out b6
    go_wp2_with fail
    refine (CZ.out _ D6.out).mono ?_
    rintro e w7 ⟨rfl, b7⟩
    have D7 : Hid (Below w3.heap.size w3 w7) := btr D6.out b7
    have O7 : Hid (RatV w7 one 1) := O4.out.below (btr b5 (btr b6 b7))
    clear b5 b6 b7 D4 D5 D6 CX CY CZ O4
    rcases C3.out with rfl | rfl | rfl
    · by_cases hb : cb ≤ 0
      · have hc := TR.out (by omega) hb
        have cb0 : (cb ≤ 0) = True := eq_true hb
        have cc0 : (0 < cc) = False := eq_false (by omega)
        go_wp2_with fail
        refine (CS.out _ D7.out).mono ?_
        rintro e w8 ⟨rfl, b8⟩
        have D8 : Hid (Below w3.heap.size w3 w8) := btr D7.out b8
        have O8 : Hid (RatV w8 one 1) := O7.out.below b8
        clear b8
        go_wp2_with fail
        refine (v_Sub _ _ _ p q (X3.out _ D8.out) (Y3.out _ D8.out) (KP.out.mono (by omega)) (KQ.out.mono (by omega))).mono ?_
        rintro e w9 ⟨u9, rfl, hu9, b9⟩
        have D9 : Hid (Below w3.heap.size w3 w9) := btr D8.out b9
        have O9 : Hid (RatV w9 one 1) := O8.out.below b9
        go_wp2_with fail
        refine (c_Sign _ _ _ _ _ hu9).mono ?_
        rintro e w9' ⟨rfl, rfl⟩
        rw [SG.out]
        clear b9 hu9
        go_wp2_with fail
        refine (v_Floor _ _ p (X3.out _ D9.out) (KP.out.mono (by omega))).mono ?_
        rintro e v1 ⟨f, rfl, hf, g1⟩
        have G1 : Hid (Below w3.heap.size w3 v1) := btr D9.out g1
        have P1 : Hid (RatV v1 one 1) := O9.out.below g1
        have F1 : Hid (∀ W, Below v1.heap.size v1 W → RatV W f ((p.floor : Int) : Rat)) := fun W hW => hf.below hW
        clear hf g1
        go_wp2_with fail
        refine (c_Whole _ _ _ _ _ (F1.out _ (Below.refl _ _))).mono ?_
        rintro e v1' ⟨rfl, rfl⟩
        rw [show isOneB (((p.floor : Int) : Rat)).den = true by rw [Rat.den_intCast]; rfl]
        go_wp2_with fail
        refine (v_Cmp _ _ _ _ p (F1.out _ (Below.refl _ _)) (X3.out _ G1.out) (KF.out.mono (by omega)) (KP.out.mono (by omega))).mono ?_
        rintro e v2 ⟨rfl, g2⟩
        have G2 : Hid (Below w3.heap.size w3 v2) := btr G1.out g2
        have P2 : Hid (RatV v2 one 1) := P1.out.below g2
        have F2 : Hid (Below v1.heap.size v1 v2) := g2
        clear g2
        generalize cmpQ ((p.floor : Int) : Rat) p = fa at *
        have fa0 : (fa ≤ 0) = True := eq_true fl0.out
        go_wp2_with fail
        refine (v_Sub _ _ _ p 1 (X3.out _ G2.out) P2.out (KP.out.mono (by omega)) (ratW_one.mono (by omega))).mono ?_
        rintro e v3 ⟨u3, rfl, hu3, g3⟩
        have G3 : Hid (Below w3.heap.size w3 v3) := btr G2.out g3
        have F3 : Hid (Below v1.heap.size v1 v3) := btr F2.out g3
        go_wp2_with fail
        refine (v_Cmp _ _ _ _ (p - 1) (F1.out _ F3.out) hu3 (KF.out.mono (by omega)) ((ratW_sub KP.out ratW_one).mono (by omega))).mono ?_
        rintro e v4 ⟨rfl, g4⟩
        have G4 : Hid (Below w3.heap.size w3 v4) := btr G3.out g4
        have F4 : Hid (Below v1.heap.size v1 v4) := btr F3.out g4
        rw [fl1.out]
        clear g3 g4 hu3
        go_wp2_with fail
        refine (c_Whole _ _ _ _ _ (X3.out _ G4.out)).mono ?_
        rintro e v4' ⟨rfl, rfl⟩
        rw [WF.out]
        by_cases hfp : ((p.floor : Int) : Rat) = p
        · rw [decide_eq_true hfp]
          go_wp2_with fail
          refine (l_equal _ _ _ p (show RatV _ _ p from hfp ▸ F1.out _ F4.out) (X3.out _ G4.out) (KP.out.mono (by omega)) (T3.out _ G4.out)).mono ?_
          rintro e v5 ⟨rfl, g5⟩
          have G5 : Hid (Below w3.heap.size w3 v5) := btr G4.out g5
          clear g5
          go_wp2_with fail
          refine (c_works _ m (HM.out _ (btr B3.out G5.out))).mono ?_
          rintro e v6 ⟨rfl, g6⟩
          go_wp2
          go_ret
          exact ⟨rfl, btr (btr B3.out G5.out) g6⟩
        · rw [decide_eq_false hfp]
          go_wp2_with fail
          refine (l_equal_ne _ _ _ _ p (F1.out _ F4.out) (X3.out _ G4.out) hfp (KF.out.mono (by omega)) (KP.out.mono (by omega)) (T3.out _ G4.out)).mono ?_
          rintro e v5 ⟨rfl, g5⟩
          have G5 : Hid (Below w3.heap.size w3 v5) := btr G4.out g5
          clear g5
          go_wp2_with fail
          refine (c_works _ m (HM.out _ (btr B3.out G5.out))).mono ?_
          rintro e v6 ⟨rfl, g6⟩
          go_wp2
          go_ret
          exact ⟨rfl, btr (btr B3.out G5.out) g6⟩
      · have cb0 : (cb ≤ 0) = False := eq_false hb
        go_wp2_with fail
        refine (CS.out _ D7.out).mono ?_
        rintro e w8 ⟨rfl, b8⟩
        have D8 : Hid (Below w3.heap.size w3 w8) := btr D7.out b8
        have O8 : Hid (RatV w8 one 1) := O7.out.below b8
        clear b8
        go_wp2_with fail
        refine (v_Sub _ _ _ p q (X3.out _ D8.out) (Y3.out _ D8.out) (KP.out.mono (by omega)) (KQ.out.mono (by omega))).mono ?_
        rintro e w9 ⟨u9, rfl, hu9, b9⟩
        have D9 : Hid (Below w3.heap.size w3 w9) := btr D8.out b9
        have O9 : Hid (RatV w9 one 1) := O8.out.below b9
        go_wp2_with fail
        refine (c_Sign _ _ _ _ _ hu9).mono ?_
        rintro e w9' ⟨rfl, rfl⟩
        rw [SG.out]
        clear b9 hu9
        go_wp2_with fail
        refine (v_Floor _ _ p (X3.out _ D9.out) (KP.out.mono (by omega))).mono ?_
        rintro e v1 ⟨f, rfl, hf, g1⟩
        have G1 : Hid (Below w3.heap.size w3 v1) := btr D9.out g1
        have P1 : Hid (RatV v1 one 1) := O9.out.below g1
        have F1 : Hid (∀ W, Below v1.heap.size v1 W → RatV W f ((p.floor : Int) : Rat)) := fun W hW => hf.below hW
        clear hf g1
        go_wp2_with fail
        refine (c_Whole _ _ _ _ _ (F1.out _ (Below.refl _ _))).mono ?_
        rintro e v1' ⟨rfl, rfl⟩
        rw [show isOneB (((p.floor : Int) : Rat)).den = true by rw [Rat.den_intCast]; rfl]
        go_wp2_with fail
        refine (v_Cmp _ _ _ _ p (F1.out _ (Below.refl _ _)) (X3.out _ G1.out) (KF.out.mono (by omega)) (KP.out.mono (by omega))).mono ?_
        rintro e v2 ⟨rfl, g2⟩
        have G2 : Hid (Below w3.heap.size w3 v2) := btr G1.out g2
        have P2 : Hid (RatV v2 one 1) := P1.out.below g2
        have F2 : Hid (Below v1.heap.size v1 v2) := g2
        clear g2
        generalize cmpQ ((p.floor : Int) : Rat) p = fa at *
        have fa0 : (fa ≤ 0) = True := eq_true fl0.out
        go_wp2_with fail
        refine (v_Sub _ _ _ p 1 (X3.out _ G2.out) P2.out (KP.out.mono (by omega)) (ratW_one.mono (by omega))).mono ?_
        rintro e v3 ⟨u3, rfl, hu3, g3⟩
        have G3 : Hid (Below w3.heap.size w3 v3) := btr G2.out g3
        have F3 : Hid (Below v1.heap.size v1 v3) := btr F2.out g3
        go_wp2_with fail
        refine (v_Cmp _ _ _ _ (p - 1) (F1.out _ F3.out) hu3 (KF.out.mono (by omega)) ((ratW_sub KP.out ratW_one).mono (by omega))).mono ?_
        rintro e v4 ⟨rfl, g4⟩
        have G4 : Hid (Below w3.heap.size w3 v4) := btr G3.out g4
        have F4 : Hid (Below v1.heap.size v1 v4) := btr F3.out g4
        rw [fl1.out]
        clear g3 g4 hu3
        go_wp2_with fail
        refine (c_Whole _ _ _ _ _ (X3.out _ G4.out)).mono ?_
        rintro e v4' ⟨rfl, rfl⟩
        rw [WF.out]
        by_cases hfp : ((p.floor : Int) : Rat) = p
        · rw [decide_eq_true hfp]
          go_wp2_with fail
          refine (l_equal _ _ _ p (show RatV _ _ p from hfp ▸ F1.out _ F4.out) (X3.out _ G4.out) (KP.out.mono (by omega)) (T3.out _ G4.out)).mono ?_
          rintro e v5 ⟨rfl, g5⟩
          have G5 : Hid (Below w3.heap.size w3 v5) := btr G4.out g5
          clear g5
          go_wp2_with fail
          refine (c_works _ m (HM.out _ (btr B3.out G5.out))).mono ?_
          rintro e v6 ⟨rfl, g6⟩
          go_wp2
          go_ret
          exact ⟨rfl, btr (btr B3.out G5.out) g6⟩
        · rw [decide_eq_false hfp]
          go_wp2_with fail
          refine (l_equal_ne _ _ _ _ p (F1.out _ F4.out) (X3.out _ G4.out) hfp (KF.out.mono (by omega)) (KP.out.mono (by omega)) (T3.out _ G4.out)).mono ?_
          rintro e v5 ⟨rfl, g5⟩
          have G5 : Hid (Below w3.heap.size w3 v5) := btr G4.out g5
          clear g5
          go_wp2_with fail
          refine (c_works _ m (HM.out _ (btr B3.out G5.out))).mono ?_
          rintro e v6 ⟨rfl, g6⟩
          go_wp2
          go_ret
          exact ⟨rfl, btr (btr B3.out G5.out) g6⟩
    · by_cases hb : cb ≤ 0
      · have hc := TR.out (by omega) hb
        have cb0 : (cb ≤ 0) = True := eq_true hb
        have cc0 : (0 < cc) = False := eq_false (by omega)
        go_wp2_with fail
        refine (CS.out _ D7.out).mono ?_
        rintro e w8 ⟨rfl, b8⟩
        have D8 : Hid (Below w3.heap.size w3 w8) := btr D7.out b8
        have O8 : Hid (RatV w8 one 1) := O7.out.below b8
        clear b8
        go_wp2_with fail
        refine (v_Sub _ _ _ p q (X3.out _ D8.out) (Y3.out _ D8.out) (KP.out.mono (by omega)) (KQ.out.mono (by omega))).mono ?_
        rintro e w9 ⟨u9, rfl, hu9, b9⟩
        have D9 : Hid (Below w3.heap.size w3 w9) := btr D8.out b9
        have O9 : Hid (RatV w9 one 1) := O8.out.below b9
        go_wp2_with fail
        refine (c_Sign _ _ _ _ _ hu9).mono ?_
        rintro e w9' ⟨rfl, rfl⟩
        rw [SG.out]
        clear b9 hu9
        go_wp2_with fail
        refine (v_Text _ _ p (X3.out _ D9.out) (KP.out.mono (by omega)) (T3.out _ D9.out)).mono ?_
        rintro e w10 ⟨rfl, b10⟩
        have D10 : Hid (Below w3.heap.size w3 w10) := btr D9.out b10
        have O10 : Hid (RatV w10 one 1) := O9.out.below b10
        clear b10
        go_wp2_with fail
        refine (v_Text _ _ p (show RatV _ _ p from (E0.out (by first | rfl | trivial)) ▸ Y3.out _ D10.out) (KP.out.mono (by omega)) (T3.out _ D10.out)).mono ?_
        rintro e w11 ⟨rfl, b11⟩
        have D11 : Hid (Below w3.heap.size w3 w11) := btr D10.out b11
        have O11 : Hid (RatV w11 one 1) := O10.out.below b11
        clear b11
        go_wp2_with fail
        refine (v_Floor _ _ p (X3.out _ D11.out) (KP.out.mono (by omega))).mono ?_
        rintro e v1 ⟨f, rfl, hf, g1⟩
        have G1 : Hid (Below w3.heap.size w3 v1) := btr D11.out g1
        have P1 : Hid (RatV v1 one 1) := O11.out.below g1
        have F1 : Hid (∀ W, Below v1.heap.size v1 W → RatV W f ((p.floor : Int) : Rat)) := fun W hW => hf.below hW
        clear hf g1
        go_wp2_with fail
        refine (c_Whole _ _ _ _ _ (F1.out _ (Below.refl _ _))).mono ?_
        rintro e v1' ⟨rfl, rfl⟩
        rw [show isOneB (((p.floor : Int) : Rat)).den = true by rw [Rat.den_intCast]; rfl]
        go_wp2_with fail
        refine (v_Cmp _ _ _ _ p (F1.out _ (Below.refl _ _)) (X3.out _ G1.out) (KF.out.mono (by omega)) (KP.out.mono (by omega))).mono ?_
        rintro e v2 ⟨rfl, g2⟩
        have G2 : Hid (Below w3.heap.size w3 v2) := btr G1.out g2
        have P2 : Hid (RatV v2 one 1) := P1.out.below g2
        have F2 : Hid (Below v1.heap.size v1 v2) := g2
        clear g2
        generalize cmpQ ((p.floor : Int) : Rat) p = fa at *
        have fa0 : (fa ≤ 0) = True := eq_true fl0.out
        go_wp2_with fail
        refine (v_Sub _ _ _ p 1 (X3.out _ G2.out) P2.out (KP.out.mono (by omega)) (ratW_one.mono (by omega))).mono ?_
        rintro e v3 ⟨u3, rfl, hu3, g3⟩
        have G3 : Hid (Below w3.heap.size w3 v3) := btr G2.out g3
        have F3 : Hid (Below v1.heap.size v1 v3) := btr F2.out g3
        go_wp2_with fail
        refine (v_Cmp _ _ _ _ (p - 1) (F1.out _ F3.out) hu3 (KF.out.mono (by omega)) ((ratW_sub KP.out ratW_one).mono (by omega))).mono ?_
        rintro e v4 ⟨rfl, g4⟩
        have G4 : Hid (Below w3.heap.size w3 v4) := btr G3.out g4
        have F4 : Hid (Below v1.heap.size v1 v4) := btr F3.out g4
        rw [fl1.out]
        clear g3 g4 hu3
        go_wp2_with fail
        refine (c_Whole _ _ _ _ _ (X3.out _ G4.out)).mono ?_
        rintro e v4' ⟨rfl, rfl⟩
        rw [WF.out]
        by_cases hfp : ((p.floor : Int) : Rat) = p
        · rw [decide_eq_true hfp]
          go_wp2_with fail
          refine (l_equal _ _ _ p (show RatV _ _ p from hfp ▸ F1.out _ F4.out) (X3.out _ G4.out) (KP.out.mono (by omega)) (T3.out _ G4.out)).mono ?_
          rintro e v5 ⟨rfl, g5⟩
          have G5 : Hid (Below w3.heap.size w3 v5) := btr G4.out g5
          clear g5
          go_wp2_with fail
          refine (c_works _ m (HM.out _ (btr B3.out G5.out))).mono ?_
          rintro e v6 ⟨rfl, g6⟩
          go_wp2
          go_ret
          exact ⟨rfl, btr (btr B3.out G5.out) g6⟩
        · rw [decide_eq_false hfp]
          go_wp2_with fail
          refine (l_equal_ne _ _ _ _ p (F1.out _ F4.out) (X3.out _ G4.out) hfp (KF.out.mono (by omega)) (KP.out.mono (by omega)) (T3.out _ G4.out)).mono ?_
          rintro e v5 ⟨rfl, g5⟩
          have G5 : Hid (Below w3.heap.size w3 v5) := btr G4.out g5
          clear g5
          go_wp2_with fail
          refine (c_works _ m (HM.out _ (btr B3.out G5.out))).mono ?_
          rintro e v6 ⟨rfl, g6⟩
          go_wp2
          go_ret
          exact ⟨rfl, btr (btr B3.out G5.out) g6⟩
      · have cb0 : (cb ≤ 0) = False := eq_false hb
        go_wp2_with fail
        refine (CS.out _ D7.out).mono ?_
        rintro e w8 ⟨rfl, b8⟩
        have D8 : Hid (Below w3.heap.size w3 w8) := btr D7.out b8
        have O8 : Hid (RatV w8 one 1) := O7.out.below b8
        clear b8
        go_wp2_with fail
        refine (v_Sub _ _ _ p q (X3.out _ D8.out) (Y3.out _ D8.out) (KP.out.mono (by omega)) (KQ.out.mono (by omega))).mono ?_
        rintro e w9 ⟨u9, rfl, hu9, b9⟩
        have D9 : Hid (Below w3.heap.size w3 w9) := btr D8.out b9
        have O9 : Hid (RatV w9 one 1) := O8.out.below b9
        go_wp2_with fail
        refine (c_Sign _ _ _ _ _ hu9).mono ?_
        rintro e w9' ⟨rfl, rfl⟩
        rw [SG.out]
        clear b9 hu9
        go_wp2_with fail
        refine (v_Text _ _ p (X3.out _ D9.out) (KP.out.mono (by omega)) (T3.out _ D9.out)).mono ?_
        rintro e w10 ⟨rfl, b10⟩
        have D10 : Hid (Below w3.heap.size w3 w10) := btr D9.out b10
        have O10 : Hid (RatV w10 one 1) := O9.out.below b10
        clear b10
        go_wp2_with fail
        refine (v_Text _ _ p (show RatV _ _ p from (E0.out (by first | rfl | trivial)) ▸ Y3.out _ D10.out) (KP.out.mono (by omega)) (T3.out _ D10.out)).mono ?_
        rintro e w11 ⟨rfl, b11⟩
        have D11 : Hid (Below w3.heap.size w3 w11) := btr D10.out b11
        have O11 : Hid (RatV w11 one 1) := O10.out.below b11
        clear b11
        go_wp2_with fail
        refine (v_Floor _ _ p (X3.out _ D11.out) (KP.out.mono (by omega))).mono ?_
        rintro e v1 ⟨f, rfl, hf, g1⟩
        have G1 : Hid (Below w3.heap.size w3 v1) := btr D11.out g1
        have P1 : Hid (RatV v1 one 1) := O11.out.below g1
        have F1 : Hid (∀ W, Below v1.heap.size v1 W → RatV W f ((p.floor : Int) : Rat)) := fun W hW => hf.below hW
        clear hf g1
        go_wp2_with fail
        refine (c_Whole _ _ _ _ _ (F1.out _ (Below.refl _ _))).mono ?_
        rintro e v1' ⟨rfl, rfl⟩
        rw [show isOneB (((p.floor : Int) : Rat)).den = true by rw [Rat.den_intCast]; rfl]
        go_wp2_with fail
        refine (v_Cmp _ _ _ _ p (F1.out _ (Below.refl _ _)) (X3.out _ G1.out) (KF.out.mono (by omega)) (KP.out.mono (by omega))).mono ?_
        rintro e v2 ⟨rfl, g2⟩
        have G2 : Hid (Below w3.heap.size w3 v2) := btr G1.out g2
        have P2 : Hid (RatV v2 one 1) := P1.out.below g2
        have F2 : Hid (Below v1.heap.size v1 v2) := g2
        clear g2
        generalize cmpQ ((p.floor : Int) : Rat) p = fa at *
        have fa0 : (fa ≤ 0) = True := eq_true fl0.out
        go_wp2_with fail
        refine (v_Sub _ _ _ p 1 (X3.out _ G2.out) P2.out (KP.out.mono (by omega)) (ratW_one.mono (by omega))).mono ?_
        rintro e v3 ⟨u3, rfl, hu3, g3⟩
        have G3 : Hid (Below w3.heap.size w3 v3) := btr G2.out g3
        have F3 : Hid (Below v1.heap.size v1 v3) := btr F2.out g3
        go_wp2_with fail
        refine (v_Cmp _ _ _ _ (p - 1) (F1.out _ F3.out) hu3 (KF.out.mono (by omega)) ((ratW_sub KP.out ratW_one).mono (by omega))).mono ?_
        rintro e v4 ⟨rfl, g4⟩
        have G4 : Hid (Below w3.heap.size w3 v4) := btr G3.out g4
        have F4 : Hid (Below v1.heap.size v1 v4) := btr F3.out g4
        rw [fl1.out]
        clear g3 g4 hu3
        go_wp2_with fail
        refine (c_Whole _ _ _ _ _ (X3.out _ G4.out)).mono ?_
        rintro e v4' ⟨rfl, rfl⟩
        rw [WF.out]
        by_cases hfp : ((p.floor : Int) : Rat) = p
        · rw [decide_eq_true hfp]
          go_wp2_with fail
          refine (l_equal _ _ _ p (show RatV _ _ p from hfp ▸ F1.out _ F4.out) (X3.out _ G4.out) (KP.out.mono (by omega)) (T3.out _ G4.out)).mono ?_
          rintro e v5 ⟨rfl, g5⟩
          have G5 : Hid (Below w3.heap.size w3 v5) := btr G4.out g5
          clear g5
          go_wp2_with fail
          refine (c_works _ m (HM.out _ (btr B3.out G5.out))).mono ?_
          rintro e v6 ⟨rfl, g6⟩
          go_wp2
          go_ret
          exact ⟨rfl, btr (btr B3.out G5.out) g6⟩
        · rw [decide_eq_false hfp]
          go_wp2_with fail
          refine (l_equal_ne _ _ _ _ p (F1.out _ F4.out) (X3.out _ G4.out) hfp (KF.out.mono (by omega)) (KP.out.mono (by omega)) (T3.out _ G4.out)).mono ?_
          rintro e v5 ⟨rfl, g5⟩
          have G5 : Hid (Below w3.heap.size w3 v5) := btr G4.out g5
          clear g5
          go_wp2_with fail
          refine (c_works _ m (HM.out _ (btr B3.out G5.out))).mono ?_
          rintro e v6 ⟨rfl, g6⟩
          go_wp2
          go_ret
          exact ⟨rfl, btr (btr B3.out G5.out) g6⟩
    · skip
      go_wp2_with fail
      refine (CS.out _ D7.out).mono ?_
      rintro e w8 ⟨rfl, b8⟩
      have D8 : Hid (Below w3.heap.size w3 w8) := btr D7.out b8
      have O8 : Hid (RatV w8 one 1) := O7.out.below b8
      clear b8
      go_wp2_with fail
      refine (v_Sub _ _ _ p q (X3.out _ D8.out) (Y3.out _ D8.out) (KP.out.mono (by omega)) (KQ.out.mono (by omega))).mono ?_
      rintro e w9 ⟨u9, rfl, hu9, b9⟩
      have D9 : Hid (Below w3.heap.size w3 w9) := btr D8.out b9
      have O9 : Hid (RatV w9 one 1) := O8.out.below b9
      go_wp2_with fail
      refine (c_Sign _ _ _ _ _ hu9).mono ?_
      rintro e w9' ⟨rfl, rfl⟩
      rw [SG.out]
      clear b9 hu9
      go_wp2_with fail
      refine (v_Floor _ _ p (X3.out _ D9.out) (KP.out.mono (by omega))).mono ?_
      rintro e v1 ⟨f, rfl, hf, g1⟩
      have G1 : Hid (Below w3.heap.size w3 v1) := btr D9.out g1
      have P1 : Hid (RatV v1 one 1) := O9.out.below g1
      have F1 : Hid (∀ W, Below v1.heap.size v1 W → RatV W f ((p.floor : Int) : Rat)) := fun W hW => hf.below hW
      clear hf g1
      go_wp2_with fail
      refine (c_Whole _ _ _ _ _ (F1.out _ (Below.refl _ _))).mono ?_
      rintro e v1' ⟨rfl, rfl⟩
      rw [show isOneB (((p.floor : Int) : Rat)).den = true by rw [Rat.den_intCast]; rfl]
      go_wp2_with fail
      refine (v_Cmp _ _ _ _ p (F1.out _ (Below.refl _ _)) (X3.out _ G1.out) (KF.out.mono (by omega)) (KP.out.mono (by omega))).mono ?_
      rintro e v2 ⟨rfl, g2⟩
      have G2 : Hid (Below w3.heap.size w3 v2) := btr G1.out g2
      have P2 : Hid (RatV v2 one 1) := P1.out.below g2
      have F2 : Hid (Below v1.heap.size v1 v2) := g2
      clear g2
      generalize cmpQ ((p.floor : Int) : Rat) p = fa at *
      have fa0 : (fa ≤ 0) = True := eq_true fl0.out
      go_wp2_with fail
      refine (v_Sub _ _ _ p 1 (X3.out _ G2.out) P2.out (KP.out.mono (by omega)) (ratW_one.mono (by omega))).mono ?_
      rintro e v3 ⟨u3, rfl, hu3, g3⟩
      have G3 : Hid (Below w3.heap.size w3 v3) := btr G2.out g3
      have F3 : Hid (Below v1.heap.size v1 v3) := btr F2.out g3
      go_wp2_with fail
      refine (v_Cmp _ _ _ _ (p - 1) (F1.out _ F3.out) hu3 (KF.out.mono (by omega)) ((ratW_sub KP.out ratW_one).mono (by omega))).mono ?_
      rintro e v4 ⟨rfl, g4⟩
      have G4 : Hid (Below w3.heap.size w3 v4) := btr G3.out g4
      have F4 : Hid (Below v1.heap.size v1 v4) := btr F3.out g4
      rw [fl1.out]
      clear g3 g4 hu3
      go_wp2_with fail
      refine (c_Whole _ _ _ _ _ (X3.out _ G4.out)).mono ?_
      rintro e v4' ⟨rfl, rfl⟩
      rw [WF.out]
      by_cases hfp : ((p.floor : Int) : Rat) = p
      · rw [decide_eq_true hfp]
        go_wp2_with fail
        refine (l_equal _ _ _ p (show RatV _ _ p from hfp ▸ F1.out _ F4.out) (X3.out _ G4.out) (KP.out.mono (by omega)) (T3.out _ G4.out)).mono ?_
        rintro e v5 ⟨rfl, g5⟩
        have G5 : Hid (Below w3.heap.size w3 v5) := btr G4.out g5
        clear g5
        go_wp2_with fail
        refine (c_works _ m (HM.out _ (btr B3.out G5.out))).mono ?_
        rintro e v6 ⟨rfl, g6⟩
        go_wp2
        go_ret
        exact ⟨rfl, btr (btr B3.out G5.out) g6⟩
      · rw [decide_eq_false hfp]
        go_wp2_with fail
        refine (l_equal_ne _ _ _ _ p (F1.out _ F4.out) (X3.out _ G4.out) hfp (KF.out.mono (by omega)) (KP.out.mono (by omega)) (T3.out _ G4.out)).mono ?_
        rintro e v5 ⟨rfl, g5⟩
        have G5 : Hid (Below w3.heap.size w3 v5) := btr G4.out g5
        clear g5
        go_wp2_with fail
        refine (c_works _ m (HM.out _ (btr B3.out G5.out))).mono ?_
        rintro e v6 ⟨rfl, g6⟩
        go_wp2
        go_ret
        exact ⟨rfl, btr (btr B3.out G5.out) g6⟩
  · have WK := Lib.hid (fun W hW => c_works W m (HM.out W hW))
    go_enter Tryz.func4, Tryz.ntmps4
    by_cases k1 : (12 : Int) < (n1 : Int)
    · go_wp2_with fail
      refine (WK.out _ (Below.refl _ _)).mono ?_
      rintro e w1 ⟨rfl, hb⟩
      go_wp2
      go_ret
      exact ⟨rfl, hb⟩
    · by_cases k2 : (12 : Int) < (n2 : Int)
      · go_wp2_with fail
        refine (WK.out _ (Below.refl _ _)).mono ?_
        rintro e w1 ⟨rfl, hb⟩
        go_wp2
        go_ret
        exact ⟨rfl, hb⟩
      · have k3 : (12 : Int) < (n3 : Int) := by omega
        go_wp2_with fail
        refine (WK.out _ (Below.refl _ _)).mono ?_
        rintro e w1 ⟨rfl, hb⟩
        go_wp2
        go_ret
        exact ⟨rfl, hb⟩
end Go.Proofs.YtgbkchjpmjigbaaGreatDoor
end

/- ExactOrders: whatever the three lists of pairs, Cmp is a total order that agrees with the sign of the difference, and the integer below a number is at most this number and greater than it less 1: the law returns true. Its row lists package-level variables of Go's library, tied to the program's text by the card. -/
section
namespace Go.Proofs.YtgbkchjpmjigbaaGreatDoor
open Go.ChangeShapes Go.WideShapes Go.ChangeAt Go.RowKit

set_option maxRecDepth 100000 in
theorem orders_lifted (os : Os) (started : os.Started) (H : Type) (enc : TypeId × Value → H) :
    ReturnsInHanded {} Tryz.checked os 4 .any (fun w args => (Rows.exactOrdersSpec.pre enc Tryz.prog Tryz.f4 [] false w args ∧ laidMetH Tryz.prog Rows.exactOrdersRow.laid w) ∧ sizedMet enc Tryz.prog Tryz.f4 (OpenSpec.ofChange Rows.exactOrdersSpec) false w args)
      (Rows.exactOrdersSpec.post enc Tryz.prog Tryz.f4 false true false false) := by
  refine handed_laid_shaped (C := Tryz.checked) (X := fun w _ => laidMetH Tryz.prog Rows.exactOrdersRow.laid w) (fun _ _ _ hh h => h.of_heap hh) own started (by kernel_rfl) Tryz.func4
    (ChangeSpec.witness_shaped (enc := enc) (C := Tryz.checked) (os := os) (X := fun w _ => laidMetH Tryz.prog Rows.exactOrdersRow.laid w) false (World.laidAll Tryz.prog os Rows.exactOrdersRow.laid) #[.slice none 0 0, .slice none 0 0, .slice none 0 0] 8 (World.laidAll_os _ _ _)
      (World.shaped_of_ZipB (by kernel_rfl) (by kernel_rfl)) (by kernel_rfl) (by kernel_rfl) (by kernel_rfl)
      (by rw [MakeChecks.laidMetH_plain _ _ _ (by kernel_rfl)]; exact laidMet_laidAll _ (by kernel_rfl) (by kernel_rfl))) ?_
  intro W base args ds gs before hval0 hW hlaid hsh
  have hval : ∀ (j : Nat) t v, Tryz.f4.params[j]? = some t → args[j]? = some v → Value.okWide Tryz.prog W .any base t v := hval0
  have htab : Tab W := by
    rw [MakeChecks.laidMetH_plain _ _ _ (by kernel_rfl)] at hlaid
    exact tab_of hlaid
  have hW' := hW
  obtain ⟨p, q, hA0, hV, rfl, _, _⟩ := hW
  have hA : DataW.TrodAll enc Tryz.prog W 0 (fun _ => true) true Tryz.f4.params.toList args.toList ds p := hA0
  rw [Tryz.params4] at hA hval
  obtain ⟨v0, v1, v2, d0, d1, d2, p0, p1, p2, rfl, rfl, rfl, h0, h1, h2⟩ := trodAll_three hA
  obtain ⟨rfl, rfl⟩ := trodVars_none hV
  obtain ⟨A, n1, c1, rfl⟩ := okWide_slice Tryz.underlying22 (hval 0 22 v0 rfl rfl)
  obtain ⟨B, n2, c2, rfl⟩ := okWide_slice Tryz.underlying22 (hval 1 22 v1 rfl rfl)
  obtain ⟨C, n3, c3, rfl⟩ := okWide_slice Tryz.underlying22 (hval 2 22 v2 rfl rfl)
  clear hA0 hval0
  simp only [List.append_nil] at hW'
  obtain ⟨m, hm⟩ := maxLen_cell hsh
  have hlt0 : ∀ x ∈ p0, x.block < W.heap.size := fun x hx => hW'.lt x (by simp [hx])
  have hlt1 : ∀ x ∈ p1, x.block < W.heap.size := fun x hx => hW'.lt x (by simp [hx])
  have hlt2 : ∀ x ∈ p2, x.block < W.heap.size := fun x hx => hW'.lt x (by simp [hx])
  have k0 := h0
  have k1 := h1
  have k2 := h2
  obtain ⟨_, f0⟩ := h0
  obtain ⟨_, f1⟩ := h1
  obtain ⟨_, f2⟩ := h2
  obtain ⟨t1, s1, P1⟩ := open_pairs Tryz.underlying22 Tryz.underlying56 Tryz.underlying2 cellsPair cellsI64 f0
  obtain ⟨t2, s2, P2⟩ := open_pairs Tryz.underlying22 Tryz.underlying56 Tryz.underlying2 cellsPair cellsI64 f1
  obtain ⟨t3, s3, P3⟩ := open_pairs Tryz.underlying22 Tryz.underlying56 Tryz.underlying2 cellsPair cellsI64 f2
  refine (l_orders W A B C n1 c1 n2 c2 n3 c3 t1 s1 t2 s2 t3 s3 P1 P2 P3 htab m hm).mono fun e W' ⟨he, hb⟩ => ?_
  subst he
  have tr := fun {v : Value} {d : DataW H} {ps : List MemPlace} (h : DataW.Trod enc Tryz.prog W 0 (fun _ => true) true 22 v d ps) (hlt : ∀ x ∈ ps, x.block < W.heap.size) =>
    Below.trod laidOut' (t := 22) (by kernel_rfl) (of_decide_eq_true (by kernel_rfl)) h hb hlt
  exact ⟨_, rfl, ⟨_, _, _, [], _, [], hW', trodAll_mk1 (shut_bool Tryz.underlying4 _), trodAll_mk3 (tr k0 hlt0) (tr k1 hlt1) (tr k2 hlt2), rfl, hb.frame _, fun h => by cases h⟩⟩

theorem orders_row : Rows.ExactOrdersSaid :=
  OpenClaim.holds_of_wide 4 Tryz.f4 rfl rfl rfl rfl rfl rfl rfl ⟨rfl, rfl, rfl, rfl, rfl⟩ rfl rfl rfl rfl rfl (by kernel_rfl) Tryz.func4 (by kernel_rfl)
    (of_decide_eq_true (by kernel_rfl)) (by unfold Func.isWrapper; first | (rw [if_pos (by decide +kernel)]; kernel_rfl) | (rw [if_neg (by decide +kernel)]; exact ⟨rfl, rfl⟩))
    (fun os started H enc _ => orders_lifted os started H enc)

theorem orders_card : Rows.ExactOrdersCardSaid :=
  Claim7.holds_tied_plain_at .later [] Rows.exactOrdersCard.laidKinds true Rows.exactOrdersCard.stood.harness true
    orders_row (fun _ h => by cases h) (by kernel_rfl) (fun _ h => by cases h) exactOrders_row_tie rfl ⟨rfl, rfl⟩ (by kernel_rfl) rfl
    (fun f fn hf hfn => by
      obtain rfl : f = 4 := Option.some.inj ((show Tryz.prog.funcNamed "tesseract/tesseractlaw01.ExactOrders" = some 4 by kernel_rfl).symm.trans hf) |>.symm
      obtain rfl : fn = Tryz.f4 := (Option.some.inj (Tryz.func4.symm.trans hfn)).symm
      exact ⟨by kernel_rfl, fun j t ht => by
        rw [Tryz.params4] at ht
        have hin : t ∈ [22] := by have := Array.mem_of_getElem? ht; simpa using this
        have hall : ([22].all fun u => !Tryz.prog.wantsStandIn u) = true := by kernel_rfl
        exact (show Tryz.prog.wantsStandIn t = false by simpa using List.all_eq_true.1 hall t hin)⟩)
    (by kernel_rfl)
end Go.Proofs.YtgbkchjpmjigbaaGreatDoor
end

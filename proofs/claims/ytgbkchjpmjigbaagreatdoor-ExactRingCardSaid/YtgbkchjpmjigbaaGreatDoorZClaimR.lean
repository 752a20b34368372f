/- ExactRing: the laws of arithmetic hold for whatever numbers: the law returns true. Its row lists package-level variables of Go's library, tied to the program's text by the card. -/
import Derived.Test.YtgbkchjpmjigbaaGreatDoorZRing
import Derived.Test.YtgbkchjpmjigbaaGreatDoorTie
import Derived.Test.YtgbkchjpmjigbaaGreatDoorCards
import Derived.Test.YtgbkchjpmjigbaaGreatDoorZRow
import Derived.SevenTiedAt

/- ExactRing: the whole walk of the law. -/
section
namespace Go.Proofs.YtgbkchjpmjigbaaGreatDoor
open Go.RowKit Go.Deep

theorem signN_zero (q : Rat) : signN (decide (q.num < 0)) q.num.natAbs = 0 ↔ q = 0 := by
  rw [← Rat.num_eq_zero]
  unfold signN
  by_cases h : q.num.natAbs = 0
  · rw [if_pos h]; exact ⟨fun _ => Int.natAbs_eq_zero.1 h, fun _ => rfl⟩
  · rw [if_neg h]
    have : q.num ≠ 0 := by omega
    simp only [this, iff_false]
    split <;> decide
theorem glob_lt {w : World} {g : Nat} {v : Value} (hm : w.cell? ⟨g, 0, none⟩ = some v) : g < w.heap.size := by
  by_cases h : g < w.heap.size
  · exact h
  · exfalso
    have : w.heap[g]? = none := Array.getElem?_eq_none (by omega)
    simp [World.cell?, this] at hm

set_option maxRecDepth 100000 in
set_option maxHeartbeats 4000000 in
theorem l_ring (w : World) (A B C : Option Addr) (n1 c1 n2 c2 n3 c3 : Nat) (t1 s1 t2 s2 t3 s3 : Nat → Int) (h1 : Pairs w A n1 t1 s1) (h2 : Pairs w B n2 t2 s2) (h3 : Pairs w C n3 t3 s3)
    (htab : Tab w) (m : Int) (hm : w.cell? ⟨3, 0, none⟩ = some (.int .i64 m)) :
    Calls Tryz.prog 3 #[.slice A n1 c1, .slice B n2 c2, .slice C n3 c3] w fun e w' => e = .returned (.bool true) ∧ Below w.heap.size w w' := by
  have HM : Hid (∀ W, Below w.heap.size w W → W.cell? ⟨3, 0, none⟩ = some (.int .i64 m)) := fun W hw => (hw.cell (p := ⟨3, 0, none⟩) (glob_lt hm)).trans hm
  have HT : Hid (∀ W, Below w.heap.size w W → Tab W) := fun W hw => htab.below hw
  have H1 := Lib.hid h1
  have H2 := Lib.hid h2
  have H3 := Lib.hid h3
  clear hm htab h1 h2 h3
  by_cases hl : n1 ≤ 12 ∧ n2 ≤ 12 ∧ n3 ≤ 12
  · obtain ⟨l1, l2, l3⟩ := hl
    have M1 := Lib.hid (l_made w A n1 c1 t1 s1 H1.out l1)
    have M2 := Lib.hid (fun W hW => l_made W B n2 c2 t2 s2 (H2.out.below (w' := W) hW) l2)
    have M3 := Lib.hid (fun W hW => l_made W C n3 c3 t3 s3 (H3.out.below (w' := W) hW) l3)
    have i1 : ((12 : Int) < (n1 : Int)) = False := by simp; omega
    have i2 : ((12 : Int) < (n2 : Int)) = False := by simp; omega
    have i3 : ((12 : Int) < (n3 : Int)) = False := by simp; omega
    go_enter Tryz.func3, Tryz.ntmps3
    go_wp2_with fail
    refine M1.out.mono ?_
    rintro e w1 ⟨x, p, rfl, hx, hp, b1⟩
    have B1 := Lib.hid b1
    have X1 := Lib.hid hx
    have KP := Lib.hid hp
    clear b1 hx hp
    go_wp2_with fail
    refine (M2.out _ B1.out).mono ?_
    rintro e w2 ⟨y, q, rfl, hy, hq, b2⟩
    have B2 : Hid (Below w.heap.size w w2) := btr B1.out b2
    have X2 : Hid (RatV w2 x p) := X1.out.below b2
    have Y2 := Lib.hid hy
    have KQ := Lib.hid hq
    clear b2 hy hq
    go_wp2_with fail
    refine (M3.out _ B2.out).mono ?_
    rintro e w3 ⟨z, r, rfl, hz, hr, b3⟩
    have B3 : Hid (Below w.heap.size w w3) := btr B2.out b3
    have X3 : Hid (∀ W, Below w3.heap.size w3 W → RatV W x p) := fun W hW => (X2.out.below b3).below hW
    have Y3 : Hid (∀ W, Below w3.heap.size w3 W → RatV W y q) := fun W hW => (Y2.out.below b3).below hW
    have Z3 : Hid (∀ W, Below w3.heap.size w3 W → RatV W z r) := fun W hW => hz.below hW
    have KR := Lib.hid hr
    have T3 : Hid (∀ W, Below w3.heap.size w3 W → Tab W) := fun W hW => HT.out W (btr B3.out hW)
    clear b3 hr M1 M2 M3 H1 H2 H3 X1 X2 Y2 HT
    have D3 : Hid (Below w3.heap.size w3 w3) := Below.refl _ _
    obtain ⟨bx, _, _, rfl, _⟩ := X3.out _ D3.out
    obtain ⟨by', _, _, rfl, _⟩ := Y3.out _ D3.out
    clear hz
    obtain ⟨bz, _, _, rfl, _⟩ := Z3.out _ D3.out
    go_wp2_with fail
    refine (v_Add _ _ _ p q (X3.out _ D3.out) (Y3.out _ D3.out) (KP.out.mono (by omega)) (KQ.out.mono (by omega))).mono ?_
    rintro e w4 ⟨u1, rfl, hu1, b4⟩
    have D4 : Hid (Below w3.heap.size w3 w4) := btr D3.out b4
    clear b4 D3
    have Vu1_4 := Lib.hid hu1
    clear hu1
    go_wp2_with fail
    refine (v_Add _ _ _ q p (Y3.out _ D4.out) (X3.out _ D4.out) (KQ.out.mono (by omega)) (KP.out.mono (by omega))).mono ?_
    rintro e w5 ⟨u2, rfl, hu2, b5⟩
    have D5 : Hid (Below w3.heap.size w3 w5) := btr D4.out b5
    have Vu1_5 : Hid (RatV w5 u1 (p + q)) := Vu1_4.out.below b5
    clear b5 D4 Vu1_4
    have Vu2_5 := Lib.hid hu2
    clear hu2
    go_wp2_with fail
    refine (l_equal _ _ _ (p + q) Vu1_5.out (show RatV _ _ (p + q) from (show (q + p) = (p + q) by exact Rat.add_comm _ _) ▸ Vu2_5.out) ((ratW_add KP.out KQ.out).mono (by omega)) (T3.out _ D5.out)).mono ?_
    rintro e w6 ⟨rfl, b6⟩
    have D6 : Hid (Below w3.heap.size w3 w6) := btr D5.out b6
    clear b6 D5 Vu1_5 Vu2_5
    go_wp2_with fail
    refine (v_Mul _ _ _ p q (X3.out _ D6.out) (Y3.out _ D6.out) (KP.out.mono (by omega)) (KQ.out.mono (by omega))).mono ?_
    rintro e w7 ⟨u3, rfl, hu3, b7⟩
    have D7 : Hid (Below w3.heap.size w3 w7) := btr D6.out b7
    clear b7 D6
    have Vu3_7 := Lib.hid hu3
    clear hu3
    go_wp2_with fail
    refine (v_Mul _ _ _ q p (Y3.out _ D7.out) (X3.out _ D7.out) (KQ.out.mono (by omega)) (KP.out.mono (by omega))).mono ?_
    rintro e w8 ⟨u4, rfl, hu4, b8⟩
    have D8 : Hid (Below w3.heap.size w3 w8) := btr D7.out b8
    have Vu3_8 : Hid (RatV w8 u3 (p * q)) := Vu3_7.out.below b8
    clear b8 D7 Vu3_7
    have Vu4_8 := Lib.hid hu4
    clear hu4
    go_wp2_with fail
    refine (l_equal _ _ _ (p * q) Vu3_8.out (show RatV _ _ (p * q) from (show (q * p) = (p * q) by exact Rat.mul_comm _ _) ▸ Vu4_8.out) ((ratW_mul KP.out KQ.out).mono (by omega)) (T3.out _ D8.out)).mono ?_
    rintro e w9 ⟨rfl, b9⟩
    have D9 : Hid (Below w3.heap.size w3 w9) := btr D8.out b9
    clear b9 D8 Vu3_8 Vu4_8
    go_wp2_with fail
    refine (v_Add _ _ _ p q (X3.out _ D9.out) (Y3.out _ D9.out) (KP.out.mono (by omega)) (KQ.out.mono (by omega))).mono ?_
    rintro e w10 ⟨u5, rfl, hu5, b10⟩
    have D10 : Hid (Below w3.heap.size w3 w10) := btr D9.out b10
    clear b10 D9
    have Vu5_10 := Lib.hid hu5
    clear hu5
    go_wp2_with fail
    refine (v_Add _ _ _ (p + q) r Vu5_10.out (Z3.out _ D10.out) ((ratW_add KP.out KQ.out).mono (by omega)) (KR.out.mono (by omega))).mono ?_
    rintro e w11 ⟨u6, rfl, hu6, b11⟩
    have D11 : Hid (Below w3.heap.size w3 w11) := btr D10.out b11
    clear b11 D10 Vu5_10
    have Vu6_11 := Lib.hid hu6
    clear hu6
    go_wp2_with fail
    refine (v_Add _ _ _ q r (Y3.out _ D11.out) (Z3.out _ D11.out) (KQ.out.mono (by omega)) (KR.out.mono (by omega))).mono ?_
    rintro e w12 ⟨u7, rfl, hu7, b12⟩
    have D12 : Hid (Below w3.heap.size w3 w12) := btr D11.out b12
    have Vu6_12 : Hid (RatV w12 u6 ((p + q) + r)) := Vu6_11.out.below b12
    clear b12 D11 Vu6_11
    have Vu7_12 := Lib.hid hu7
    clear hu7
    go_wp2_with fail
    refine (v_Add _ _ _ p (q + r) (X3.out _ D12.out) Vu7_12.out (KP.out.mono (by omega)) ((ratW_add KQ.out KR.out).mono (by omega))).mono ?_
    rintro e w13 ⟨u8, rfl, hu8, b13⟩
    have D13 : Hid (Below w3.heap.size w3 w13) := btr D12.out b13
    have Vu6_13 : Hid (RatV w13 u6 ((p + q) + r)) := Vu6_12.out.below b13
    clear b13 D12 Vu6_12 Vu7_12
    have Vu8_13 := Lib.hid hu8
    clear hu8
    go_wp2_with fail
    refine (l_equal _ _ _ ((p + q) + r) Vu6_13.out (show RatV _ _ ((p + q) + r) from (show (p + (q + r)) = ((p + q) + r) by exact (Rat.add_assoc _ _ _).symm) ▸ Vu8_13.out) ((ratW_add (ratW_add KP.out KQ.out) KR.out).mono (by omega)) (T3.out _ D13.out)).mono ?_
    rintro e w14 ⟨rfl, b14⟩
    have D14 : Hid (Below w3.heap.size w3 w14) := btr D13.out b14
    clear b14 D13 Vu6_13 Vu8_13
    go_wp2_with fail
    refine (v_Mul _ _ _ p q (X3.out _ D14.out) (Y3.out _ D14.out) (KP.out.mono (by omega)) (KQ.out.mono (by omega))).mono ?_
    rintro e w15 ⟨u9, rfl, hu9, b15⟩
    have D15 : Hid (Below w3.heap.size w3 w15) := btr D14.out b15
    clear b15 D14
    have Vu9_15 := Lib.hid hu9
    clear hu9
    go_wp2_with fail
    refine (v_Mul _ _ _ (p * q) r Vu9_15.out (Z3.out _ D15.out) ((ratW_mul KP.out KQ.out).mono (by omega)) (KR.out.mono (by omega))).mono ?_
    rintro e w16 ⟨u10, rfl, hu10, b16⟩
    have D16 : Hid (Below w3.heap.size w3 w16) := btr D15.out b16
    clear b16 D15 Vu9_15
    have Vu10_16 := Lib.hid hu10
    clear hu10
    go_wp2_with fail
    refine (v_Mul _ _ _ q r (Y3.out _ D16.out) (Z3.out _ D16.out) (KQ.out.mono (by omega)) (KR.out.mono (by omega))).mono ?_
    rintro e w17 ⟨u11, rfl, hu11, b17⟩
    have D17 : Hid (Below w3.heap.size w3 w17) := btr D16.out b17
    have Vu10_17 : Hid (RatV w17 u10 ((p * q) * r)) := Vu10_16.out.below b17
    clear b17 D16 Vu10_16
    have Vu11_17 := Lib.hid hu11
    clear hu11
    go_wp2_with fail
    refine (v_Mul _ _ _ p (q * r) (X3.out _ D17.out) Vu11_17.out (KP.out.mono (by omega)) ((ratW_mul KQ.out KR.out).mono (by omega))).mono ?_
    rintro e w18 ⟨u12, rfl, hu12, b18⟩
    have D18 : Hid (Below w3.heap.size w3 w18) := btr D17.out b18
    have Vu10_18 : Hid (RatV w18 u10 ((p * q) * r)) := Vu10_17.out.below b18
    clear b18 D17 Vu10_17 Vu11_17
    have Vu12_18 := Lib.hid hu12
    clear hu12
    go_wp2_with fail
    refine (l_equal _ _ _ ((p * q) * r) Vu10_18.out (show RatV _ _ ((p * q) * r) from (show (p * (q * r)) = ((p * q) * r) by exact (Rat.mul_assoc _ _ _).symm) ▸ Vu12_18.out) ((ratW_mul (ratW_mul KP.out KQ.out) KR.out).mono (by omega)) (T3.out _ D18.out)).mono ?_
    rintro e w19 ⟨rfl, b19⟩
    have D19 : Hid (Below w3.heap.size w3 w19) := btr D18.out b19
    clear b19 D18 Vu10_18 Vu12_18
    go_wp2_with fail
    refine (v_Add _ _ _ q r (Y3.out _ D19.out) (Z3.out _ D19.out) (KQ.out.mono (by omega)) (KR.out.mono (by omega))).mono ?_
    rintro e w20 ⟨u13, rfl, hu13, b20⟩
    have D20 : Hid (Below w3.heap.size w3 w20) := btr D19.out b20
    clear b20 D19
    have Vu13_20 := Lib.hid hu13
    clear hu13
    go_wp2_with fail
    refine (v_Mul _ _ _ p (q + r) (X3.out _ D20.out) Vu13_20.out (KP.out.mono (by omega)) ((ratW_add KQ.out KR.out).mono (by omega))).mono ?_
    rintro e w21 ⟨u14, rfl, hu14, b21⟩
    have D21 : Hid (Below w3.heap.size w3 w21) := btr D20.out b21
    clear b21 D20 Vu13_20
    have Vu14_21 := Lib.hid hu14
    clear hu14
    go_wp2_with fail
    refine (v_Mul _ _ _ p q (X3.out _ D21.out) (Y3.out _ D21.out) (KP.out.mono (by omega)) (KQ.out.mono (by omega))).mono ?_
    rintro e w22 ⟨u15, rfl, hu15, b22⟩
    have D22 : Hid (Below w3.heap.size w3 w22) := btr D21.out b22
    have Vu14_22 : Hid (RatV w22 u14 (p * (q + r))) := Vu14_21.out.below b22
    clear b22 D21 Vu14_21
    have Vu15_22 := Lib.hid hu15
    clear hu15
    go_wp2_with fail
    refine (v_Mul _ _ _ p r (X3.out _ D22.out) (Z3.out _ D22.out) (KP.out.mono (by omega)) (KR.out.mono (by omega))).mono ?_
    rintro e w23 ⟨u16, rfl, hu16, b23⟩
    have D23 : Hid (Below w3.heap.size w3 w23) := btr D22.out b23
    have Vu14_23 : Hid (RatV w23 u14 (p * (q + r))) := Vu14_22.out.below b23
    have Vu15_23 : Hid (RatV w23 u15 (p * q)) := Vu15_22.out.below b23
    clear b23 D22 Vu14_22 Vu15_22
    have Vu16_23 := Lib.hid hu16
    clear hu16
    go_wp2_with fail
    refine (v_Add _ _ _ (p * q) (p * r) Vu15_23.out Vu16_23.out ((ratW_mul KP.out KQ.out).mono (by omega)) ((ratW_mul KP.out KR.out).mono (by omega))).mono ?_
    rintro e w24 ⟨u17, rfl, hu17, b24⟩
    have D24 : Hid (Below w3.heap.size w3 w24) := btr D23.out b24
    have Vu14_24 : Hid (RatV w24 u14 (p * (q + r))) := Vu14_23.out.below b24
    clear b24 D23 Vu14_23 Vu15_23 Vu16_23
    have Vu17_24 := Lib.hid hu17
    clear hu17
    go_wp2_with fail
    refine (l_equal _ _ _ (p * (q + r)) Vu14_24.out (show RatV _ _ (p * (q + r)) from (show ((p * q) + (p * r)) = (p * (q + r)) by exact (Rat.mul_add _ _ _).symm) ▸ Vu17_24.out) ((ratW_mul KP.out (ratW_add KQ.out KR.out)).mono (by omega)) (T3.out _ D24.out)).mono ?_
    rintro e w25 ⟨rfl, b25⟩
    have D25 : Hid (Below w3.heap.size w3 w25) := btr D24.out b25
    clear b25 D24 Vu14_24 Vu17_24
    go_wp2_with fail
    refine (v_Add _ _ _ p q (X3.out _ D25.out) (Y3.out _ D25.out) (KP.out.mono (by omega)) (KQ.out.mono (by omega))).mono ?_
    rintro e w26 ⟨u18, rfl, hu18, b26⟩
    have D26 : Hid (Below w3.heap.size w3 w26) := btr D25.out b26
    clear b26 D25
    have Vu18_26 := Lib.hid hu18
    clear hu18
    go_wp2_with fail
    refine (v_Sub _ _ _ (p + q) q Vu18_26.out (Y3.out _ D26.out) ((ratW_add KP.out KQ.out).mono (by omega)) (KQ.out.mono (by omega))).mono ?_
    rintro e w27 ⟨u19, rfl, hu19, b27⟩
    have D27 : Hid (Below w3.heap.size w3 w27) := btr D26.out b27
    clear b27 D26 Vu18_26
    have Vu19_27 := Lib.hid hu19
    clear hu19
    go_wp2_with fail
    refine (l_equal _ _ _ ((p + q) - q) Vu19_27.out (show RatV _ _ ((p + q) - q) from (show p = ((p + q) - q) by rw [Rat.sub_eq_add_neg, Rat.add_assoc, Rat.add_neg_cancel, Rat.add_zero]) ▸ (X3.out _ D27.out)) ((ratW_sub (ratW_add KP.out KQ.out) KQ.out).mono (by omega)) (T3.out _ D27.out)).mono ?_
    rintro e w28 ⟨rfl, b28⟩
    have D28 : Hid (Below w3.heap.size w3 w28) := btr D27.out b28
    clear b28 D27 Vu19_27
    go_wp2_with fail
    refine (v_Mul _ _ _ p q (X3.out _ D28.out) (Y3.out _ D28.out) (KP.out.mono (by omega)) (KQ.out.mono (by omega))).mono ?_
    rintro e w29 ⟨u20, rfl, hu20, b29⟩
    have D29 : Hid (Below w3.heap.size w3 w29) := btr D28.out b29
    clear b29 D28
    have Vu20_29 := Lib.hid hu20
    clear hu20
    by_cases hy0 : q = 0
    · subst hy0
      go_wp2_with fail
      refine (v_Quo_zero _ _ _ _ Vu20_29.out (Y3.out _ D29.out)).mono ?_
      rintro e w9 ⟨rfl, rfl⟩
      go_wp2_with fail
      refine (c_Sign _ _ _ _ _ (Y3.out _ D29.out)).mono ?_
      rintro e w9 ⟨rfl, rfl⟩
      rw [show signN (decide ((0 : Rat).num < 0)) (0 : Rat).num.natAbs = 0 from rfl]
      go_wp2_with fail
      refine (c_works _ m (HM.out _ (btr B3.out D29.out))).mono ?_
      rintro e w10 ⟨rfl, b10⟩
      go_wp2
      go_ret
      exact ⟨rfl, btr (btr B3.out D29.out) b10⟩
    · have HS : Hid (signN (decide (q.num < 0)) q.num.natAbs ≠ 0) := fun h9 => hy0 ((signN_zero q).1 h9)
      go_wp2_with fail
      refine (v_Quo _ _ _ (p * q) q Vu20_29.out (Y3.out _ D29.out) ((ratW_mul KP.out KQ.out).mono (by omega)) (KQ.out.mono (by omega)) hy0).mono ?_
      rintro e w30 ⟨u99, rfl, hu99, b30⟩
      have D30 : Hid (Below w3.heap.size w3 w30) := btr D29.out b30
      clear b30 D29 Vu20_29
      have V99 := Lib.hid hu99
      clear hu99
      go_wp2_with fail
      refine (c_Sign _ _ _ _ _ (Y3.out _ D30.out)).mono ?_
      rintro e w9 ⟨rfl, rfl⟩
      generalize signN (decide (q.num < 0)) q.num.natAbs = sg at *
      have sg0 : (sg == 0) = false := by rw [beq_eq_false_iff_ne]; exact HS.out
      go_wp2_with fail
      refine (l_equal _ _ _ ((p * q) / q) V99.out (show RatV _ _ ((p * q) / q) from (show p = (p * q) / q by rw [Rat.div_def, Rat.mul_assoc, Rat.mul_inv_cancel _ hy0, Rat.mul_one]) ▸ (X3.out _ D30.out)) ((ratW_div (ratW_mul KP.out KQ.out) KQ.out hy0).mono (by omega)) (T3.out _ D30.out)).mono ?_
      rintro e w31 ⟨rfl, b31⟩
      go_wp2_with fail
      refine (c_works _ m (HM.out _ (btr B3.out (btr D30.out b31)))).mono ?_
      rintro e w98 ⟨rfl, b98⟩
      go_wp2
      go_ret
      exact ⟨rfl, btr (btr B3.out (btr D30.out b31)) b98⟩
  · have WK := Lib.hid (fun W hW => c_works W m (HM.out W hW))
    go_enter Tryz.func3, Tryz.ntmps3
    by_cases k1 : (12 : Int) < (n1 : Int)
    · go_wp2_with fail
      refine (WK.out _ (Below.refl _ _)).mono ?_
      rintro e w1 ⟨rfl, hb⟩
      go_wp2
      go_ret
      exact ⟨rfl, hb⟩
    · by_cases k2 : (12 : Int) < (n2 : Int)
      · go_wp2_with fail
        refine (WK.out _ (Below.refl _ _)).mono ?_
        rintro e w1 ⟨rfl, hb⟩
        go_wp2
        go_ret
        exact ⟨rfl, hb⟩
      · have k3 : (12 : Int) < (n3 : Int) := by omega
        go_wp2_with fail
        refine (WK.out _ (Below.refl _ _)).mono ?_
        rintro e w1 ⟨rfl, hb⟩
        go_wp2
        go_ret
        exact ⟨rfl, hb⟩
end Go.Proofs.YtgbkchjpmjigbaaGreatDoor
end

/- ExactRing: the laws of arithmetic hold for whatever numbers: the law returns true. Its row lists package-level variables of Go's library, tied to the program's text by the card. -/
section
namespace Go.Proofs.YtgbkchjpmjigbaaGreatDoor
open Go.ChangeShapes Go.WideShapes Go.ChangeAt Go.RowKit

set_option maxRecDepth 100000 in
theorem ring_lifted (os : Os) (started : os.Started) (H : Type) (enc : TypeId × Value → H) :
    ReturnsInHanded {} Tryz.checked os 3 .any (fun w args => (Rows.exactRingSpec.pre enc Tryz.prog Tryz.f3 [] false w args ∧ laidMetH Tryz.prog Rows.exactRingRow.laid w) ∧ sizedMet enc Tryz.prog Tryz.f3 (OpenSpec.ofChange Rows.exactRingSpec) false w args)
      (Rows.exactRingSpec.post enc Tryz.prog Tryz.f3 false true false false) := by
  refine handed_laid_shaped (C := Tryz.checked) (X := fun w _ => laidMetH Tryz.prog Rows.exactRingRow.laid w) (fun _ _ _ hh h => h.of_heap hh) own started (by kernel_rfl) Tryz.func3
    (ChangeSpec.witness_shaped (enc := enc) (C := Tryz.checked) (os := os) (X := fun w _ => laidMetH Tryz.prog Rows.exactRingRow.laid w) false (World.laidAll Tryz.prog os Rows.exactRingRow.laid) #[.slice none 0 0, .slice none 0 0, .slice none 0 0] 8 (World.laidAll_os _ _ _)
      (World.shaped_of_ZipB (by kernel_rfl) (by kernel_rfl)) (by kernel_rfl) (by kernel_rfl) (by kernel_rfl)
      (by rw [MakeChecks.laidMetH_plain _ _ _ (by kernel_rfl)]; exact laidMet_laidAll _ (by kernel_rfl) (by kernel_rfl))) ?_
  intro W base args ds gs before hval0 hW hlaid hsh
  have hval : ∀ (j : Nat) t v, Tryz.f3.params[j]? = some t → args[j]? = some v → Value.okWide Tryz.prog W .any base t v := hval0
  have htab : Tab W := by
    rw [MakeChecks.laidMetH_plain _ _ _ (by kernel_rfl)] at hlaid
    exact tab_of hlaid
  have hW' := hW
  obtain ⟨p, q, hA0, hV, rfl, _, _⟩ := hW
  have hA : DataW.TrodAll enc Tryz.prog W 0 (fun _ => true) true Tryz.f3.params.toList args.toList ds p := hA0
  rw [Tryz.params3] at hA hval
  obtain ⟨v0, v1, v2, d0, d1, d2, p0, p1, p2, rfl, rfl, rfl, h0, h1, h2⟩ := trodAll_three hA
  obtain ⟨rfl, rfl⟩ := trodVars_none hV
  obtain ⟨A, n1, c1, rfl⟩ := okWide_slice Tryz.underlying22 (hval 0 22 v0 rfl rfl)
  obtain ⟨B, n2, c2, rfl⟩ := okWide_slice Tryz.underlying22 (hval 1 22 v1 rfl rfl)
  obtain ⟨C, n3, c3, rfl⟩ := okWide_slice Tryz.underlying22 (hval 2 22 v2 rfl rfl)
  clear hA0 hval0
  simp only [List.append_nil] at hW'
  obtain ⟨m, hm⟩ := maxLen_cell hsh
  have hlt0 : ∀ x ∈ p0, x.block < W.heap.size := fun x hx => hW'.lt x (by simp [hx])
  have hlt1 : ∀ x ∈ p1, x.block < W.heap.size := fun x hx => hW'.lt x (by simp [hx])
  have hlt2 : ∀ x ∈ p2, x.block < W.heap.size := fun x hx => hW'.lt x (by simp [hx])
  have k0 := h0
  have k1 := h1
  have k2 := h2
  obtain ⟨_, f0⟩ := h0
  obtain ⟨_, f1⟩ := h1
  obtain ⟨_, f2⟩ := h2
  obtain ⟨t1, s1, P1⟩ := open_pairs Tryz.underlying22 Tryz.underlying56 Tryz.underlying2 cellsPair cellsI64 f0
  obtain ⟨t2, s2, P2⟩ := open_pairs Tryz.underlying22 Tryz.underlying56 Tryz.underlying2 cellsPair cellsI64 f1
  obtain ⟨t3, s3, P3⟩ := open_pairs Tryz.underlying22 Tryz.underlying56 Tryz.underlying2 cellsPair cellsI64 f2
  refine (l_ring W A B C n1 c1 n2 c2 n3 c3 t1 s1 t2 s2 t3 s3 P1 P2 P3 htab m hm).mono fun e W' ⟨he, hb⟩ => ?_
  subst he
  have tr := fun {v : Value} {d : DataW H} {ps : List MemPlace} (h : DataW.Trod enc Tryz.prog W 0 (fun _ => true) true 22 v d ps) (hlt : ∀ x ∈ ps, x.block < W.heap.size) =>
    Below.trod laidOut' (t := 22) (by kernel_rfl) (of_decide_eq_true (by kernel_rfl)) h hb hlt
  exact ⟨_, rfl, ⟨_, _, _, [], _, [], hW', trodAll_mk1 (shut_bool Tryz.underlying4 _), trodAll_mk3 (tr k0 hlt0) (tr k1 hlt1) (tr k2 hlt2), rfl, hb.frame _, fun h => by cases h⟩⟩

theorem ring_row : Rows.ExactRingSaid :=
  OpenClaim.holds_of_wide 3 Tryz.f3 rfl rfl rfl rfl rfl rfl rfl ⟨rfl, rfl, rfl, rfl, rfl⟩ rfl rfl rfl rfl rfl (by kernel_rfl) Tryz.func3 (by kernel_rfl)
    (of_decide_eq_true (by kernel_rfl)) (by unfold Func.isWrapper; first | (rw [if_pos (by decide +kernel)]; kernel_rfl) | (rw [if_neg (by decide +kernel)]; exact ⟨rfl, rfl⟩))
    (fun os started H enc _ => ring_lifted os started H enc)

theorem ring_card : Rows.ExactRingCardSaid :=
  Claim7.holds_tied_plain_at .later [] Rows.exactRingCard.laidKinds true Rows.exactRingCard.stood.harness true
    ring_row (fun _ h => by cases h) (by kernel_rfl) (fun _ h => by cases h) exactRing_row_tie rfl ⟨rfl, rfl⟩ (by kernel_rfl) rfl
    (fun f fn hf hfn => by
      obtain rfl : f = 3 := Option.some.inj ((show Tryz.prog.funcNamed "tesseract/tesseractlaw01.ExactRing" = some 3 by kernel_rfl).symm.trans hf) |>.symm
      obtain rfl : fn = Tryz.f3 := (Option.some.inj (Tryz.func3.symm.trans hfn)).symm
      exact ⟨by kernel_rfl, fun j t ht => by
        rw [Tryz.params3] at ht
        have hin : t ∈ [22] := by have := Array.mem_of_getElem? ht; simpa using this
        have hall : ([22].all fun u => !Tryz.prog.wantsStandIn u) = true := by kernel_rfl
        exact (show Tryz.prog.wantsStandIn t = false by simpa using List.all_eq_true.1 hall t hin)⟩)
    (by kernel_rfl)
end Go.Proofs.YtgbkchjpmjigbaaGreatDoor
end

/- The law about numbers that are nil, or not the package's: it returns true. -/
import Derived.Test.YtfkjfeobhbocjaaGreatDoorSumB
import Derived.Test.YtfkjfeobhbocjaaGreatDoorNil2
import Derived.Test.YtfkjfeobhbocjaaGreatDoorWk
namespace Go.Proofs.YtfkjfeobhbocjaaGreatDoor
open Go.RowKit Go.Deep

set_option maxRecDepth 100000 in
set_option maxHeartbeats 8000000 in
theorem l_nil (w : World) (n d : Int) (m : Int) (hn0 : -9223372036854775808 ≤ n) (hn1 : n ≤ 9223372036854775807) (hd0 : -9223372036854775808 ≤ d) (hd1 : d ≤ 9223372036854775807) (hm : w.cell? ⟨3, 0, none⟩ = some (.int .i64 m)) :
    Calls Tryz.prog 4 #[.int .i64 n, .int .i64 d] w fun e w' => e = .returned (.bool true) ∧ Below w.heap.size w w' := by
  have h0 : 3 < w.heap.size := by
    by_cases h : 3 < w.heap.size
    · exact h
    · exfalso
      have : w.heap[3]? = none := Array.getElem?_eq_none (by omega)
      simp [World.cell?, this] at hm
  have HK := Lib.hid (fun W (hW : Below w.heap.size w W) => c_works W m ((hW.cell (p := ⟨3, 0, none⟩) h0).trans hm))
  clear hm h0
  by_cases hz : d = 0
  · subst hz
    have HO := Lib.hid (of_10 n w)
    clear hn0 hn1 hd0 hd1
    go_enter Tryz.func4, Tryz.ntmps4
    go_wp2_with fail
    refine HO.out.mono ?_
    rintro e w1 ⟨rfl, rfl⟩
    go_wp2_with fail
    refine (HK.out _ (Below.refl _ _)).mono ?_
    rintro e w1 ⟨rfl, hb⟩
    go_wp2
    go_ret
    exact ⟨rfl, hb⟩
  · have HO := Lib.hid (c_Of w n d hn0 hn1 hd0 hd1 hz)
    have hA : n.natAbs / Nat.gcd n.natAbs d.natAbs < W64 := Nat.lt_of_le_of_lt (Nat.div_le_self _ _) (by unfold W64; omega)
    have hB : d.natAbs / Nat.gcd n.natAbs d.natAbs < W64 := Nat.lt_of_le_of_lt (Nat.div_le_self _ _) (by unfold W64; omega)
    generalize sgn (decide (n < 0) != decide (d < 0)) (n.natAbs / Nat.gcd n.natAbs d.natAbs) = sg at *
    generalize n.natAbs / Nat.gcd n.natAbs d.natAbs = p at *
    generalize d.natAbs / Nat.gcd n.natAbs d.natAbs = q at *
    have HA := Lib.hid hA
    have HB := Lib.hid hB
    clear hA hB hn0 hn1 hd0 hd1 hz
    go_enter Tryz.func4, Tryz.ntmps4
    go_wp2_with fail
    refine HO.out.mono ?_
    rintro e w1 ⟨y, rfl, hy, hb1⟩
    have HYR := Lib.hid hy
    obtain ⟨ya, hya⟩ : ∃ a, y = .pointer a := by obtain ⟨b, _, _, h, _⟩ := hy; exact ⟨_, h⟩
    subst hya
    have hl1 := hb1.size
    have C1 := Lib.hid hb1
    clear hy hb1 HO
    go_wp2_with fail
    have r0 := heap_alloc_new w1 (.cells #[.pointer none, .bool false, .slice none 0 0, .slice none 0 0] 34)
    have r1 := (Below.heap_alloc (w1.alloc (.cells #[.pointer none, .bool false, .slice none 0 0, .slice none 0 0] 34)) (.cells #[.pointer none, .pointer (some ⟨w1.heap.size, 0, none⟩)] 28) w1.heap.size (by simp)).trans r0
    have s1 := heap_alloc_new (w1.alloc (.cells #[.pointer none, .bool false, .slice none 0 0, .slice none 0 0] 34)) (.cells #[.pointer none, .pointer (some ⟨w1.heap.size, 0, none⟩)] 28)
    rw [World.size_alloc] at s1
    have bL : Below w1.heap.size w1 ((w1.alloc (.cells #[.pointer none, .bool false, .slice none 0 0, .slice none 0 0] 34)).alloc (.cells #[.pointer none, .pointer (some ⟨w1.heap.size, 0, none⟩)] 28)) := ((Below.refl _ _).alloc (Nat.le_refl _) _).alloc (by simp) _
    have zL : ((w1.alloc (.cells #[.pointer none, .bool false, .slice none 0 0, .slice none 0 0] 34)).alloc (.cells #[.pointer none, .pointer (some ⟨w1.heap.size, 0, none⟩)] 28)).heap.size = w1.heap.size + 2 := by simp
    generalize (w1.alloc (.cells #[.pointer none, .bool false, .slice none 0 0, .slice none 0 0] 34)).alloc (.cells #[.pointer none, .pointer (some ⟨w1.heap.size, 0, none⟩)] 28) = wb at *
    have HYR := Lib.hid (HYR.out.below bL)
    have HZL := Lib.hid zL
    have CB := Lib.hid (btr C1.out bL)
    have HXB : Hid (Bad wb (.pointer (some ⟨w1.heap.size, 0, none⟩))) := .inr ⟨_, rfl, by omega, by rw [cell_of_row _ _ _ _ _ _ r1]; rfl⟩
    have HXN : Hid (Bad wb (.pointer none)) := .inl rfl
    have HSL : Hid (∀ W, Below wb.heap.size wb W → W.cell? ⟨w1.heap.size + 1, 0, none⟩ = some (.pointer none) ∧ W.cell? ⟨w1.heap.size + 1, 1, none⟩ = some (.pointer (some ⟨w1.heap.size, 0, none⟩))) := fun W hW => by
      have h := (hW.block (w1.heap.size + 1) (by omega)).trans s1
      exact ⟨by rw [cell_of_row _ _ _ _ _ _ h]; rfl, by rw [cell_of_row _ _ _ _ _ _ h]; rfl⟩
    clear r0 r1 s1 bL zL C1 hl1
    have BV0 := Lib.hid (Below.refl wb.heap.size wb)
    obtain ⟨c0, _⟩ := HSL.out _ BV0.out
    have HX := HXN
    have HQ1 : Hid (∀ W, Below wb.heap.size wb W → Calls Tryz.prog 10 #[.pointer none, .pointer ya] W fun e w' => e = .returned (.tuple #[.pointer none, .int .i64 1]) ∧ W = w') := fun W hW => b_quo_l W _ _ (HX.out.below hW)
    have HQ2 : Hid (∀ W, Below wb.heap.size wb W → Calls Tryz.prog 10 #[.pointer ya, .pointer none] W fun e w' => e = .returned (.tuple #[.pointer none, .int .i64 1]) ∧ W = w') := fun W hW => b_quo_r W _ _ _ _ _ (HYR.out.below hW) (HX.out.below hW)
    have HBI : Hid (∀ W, Below wb.heap.size wb W → Calls Tryz.prog 11 #[.pointer none] W fun e w' => e = .returned (.tuple #[.int .i64 0, .int .i64 0]) ∧ W = w') := fun W hW => b_bits W _ (HX.out.below hW)
    have HTX : Hid (∀ W, Below wb.heap.size wb W → Calls Tryz.prog 12 #[.pointer none] W fun e w' => e = .returned (.string noS) ∧ W = w') := fun W hW => b_text W _ (HX.out.below hW)
    have HSG : Hid (∀ W, Below wb.heap.size wb W → Calls Tryz.prog 13 #[.pointer none] W fun e w' => e = .returned (.int .i64 0) ∧ W = w') := fun W hW => b_sign W _ (HX.out.below hW)
    have HFL : Hid (∀ W, Below wb.heap.size wb W → Calls Tryz.prog 14 #[.pointer none] W fun e w' => e = .returned (.pointer none) ∧ W = w') := fun W hW => b_floor W _ (HX.out.below hW)
    have HWH : Hid (∀ W, Below wb.heap.size wb W → Calls Tryz.prog 15 #[.pointer none] W fun e w' => e = .returned (.bool false) ∧ W = w') := fun W hW => b_whole W _ (HX.out.below hW)
    have HA1 : Hid (∀ W, Below wb.heap.size wb W → Calls Tryz.prog 16 #[.pointer none, .pointer ya] W fun e w' => e = .returned (.pointer none) ∧ W = w') := fun W hW => b_add_l W _ _ (HX.out.below hW)
    have HA2 : Hid (∀ W, Below wb.heap.size wb W → Calls Tryz.prog 16 #[.pointer ya, .pointer none] W fun e w' => e = .returned (.pointer none) ∧ W = w') := fun W hW => b_add_r W _ _ _ _ _ (HYR.out.below hW) (HX.out.below hW)
    have HS1 : Hid (∀ W, Below wb.heap.size wb W → Calls Tryz.prog 17 #[.pointer none, .pointer ya] W fun e w' => e = .returned (.pointer none) ∧ W = w') := fun W hW => b_sub_l W _ _ (HX.out.below hW)
    have HM1 : Hid (∀ W, Below wb.heap.size wb W → Calls Tryz.prog 18 #[.pointer ya, .pointer none] W fun e w' => e = .returned (.pointer none) ∧ W = w') := fun W hW => b_mul_r W _ _ _ _ _ (HYR.out.below hW) (HX.out.below hW)
    have HCM : Hid (∀ W, Below wb.heap.size wb W → Calls Tryz.prog 20 #[.pointer none, .pointer ya] W fun e w' => e = .returned (.int .i64 0) ∧ W = w') := fun W hW => b_cmp_l W _ _ (HX.out.below hW)
    have HSU : Hid (∀ W, Below wb.heap.size wb W → Calls Tryz.prog 19 #[.slice (some ⟨W.heap.size, 0, none⟩) 2 2] (W.alloc (.cells #[.pointer ya, .pointer none] 28)) fun e w' => e = .returned (.pointer none) ∧ Below W.heap.size W w') := fun W hW => by
      have hh := heap_alloc_new W (.cells #[.pointer ya, .pointer none] 28)
      have hbl : Below W.heap.size W (W.alloc (.cells #[.pointer ya, .pointer none] 28)) := (Below.refl _ _).alloc (Nat.le_refl _) _
      exact (b_sum _ W.heap.size 2 _ _ sg p q (by simp) (by rw [cell_of_row _ _ _ _ _ _ hh]; rfl) (by rw [cell_of_row _ _ _ _ _ _ hh]; rfl) ((HYR.out.below hW).below hbl) ((HX.out.below hW).below hbl) HA.out HB.out).mono fun _ _ h => ⟨h.1, btr hbl h.2⟩
    have HVA : Hid (∀ W, Below wb.heap.size wb W → Calls Tryz.prog 21 #[.pointer none] W fun e w' => e = .returned (V 0 0 0 noS) ∧ Below W.heap.size W w') := fun W hW => b_value W _ (HX.out.below hW)
    clear HX
    refine wp_loop_rounds 3 ?_
    rw [rounds_succ]
    go_wp2_with fail
    refine (HQ1.out _ BV0.out).mono ?_
    rintro e w' ⟨rfl, rfl⟩
    go_wp2_with fail
    refine (HQ2.out _ BV0.out).mono ?_
    rintro e w' ⟨rfl, rfl⟩
    go_wp2_with fail
    refine (HBI.out _ BV0.out).mono ?_
    rintro e w' ⟨rfl, rfl⟩
    go_wp2_with fail
    refine (HTX.out _ BV0.out).mono ?_
    rintro e w' ⟨rfl, rfl⟩
    go_wp2_with fail
    refine (HSG.out _ BV0.out).mono ?_
    rintro e w' ⟨rfl, rfl⟩
    go_wp2_with fail
    refine (HFL.out _ BV0.out).mono ?_
    rintro e w' ⟨rfl, rfl⟩
    go_wp2_with fail
    refine (HWH.out _ BV0.out).mono ?_
    rintro e w' ⟨rfl, rfl⟩
    go_wp2_with fail
    refine (HA1.out _ BV0.out).mono ?_
    rintro e w' ⟨rfl, rfl⟩
    go_wp2_with fail
    refine (HA2.out _ BV0.out).mono ?_
    rintro e w' ⟨rfl, rfl⟩
    go_wp2_with fail
    refine (HS1.out _ BV0.out).mono ?_
    rintro e w' ⟨rfl, rfl⟩
    go_wp2_with fail
    refine (HM1.out _ BV0.out).mono ?_
    rintro e w' ⟨rfl, rfl⟩
    go_wp2_with fail
    refine (HSU.out _ BV0.out).mono ?_
    rintro e s1 ⟨rfl, hb⟩
    have BS1 := Lib.hid (btr BV0.out hb)
    clear hb
    go_wp2_with fail
    refine (HCM.out _ BS1.out).mono ?_
    rintro e w' ⟨rfl, rfl⟩
    go_wp2_with fail
    refine (HVA.out _ BS1.out).mono ?_
    rintro e v1 ⟨rfl, hb⟩
    have BV1 := Lib.hid (btr BS1.out hb)
    clear hb HQ1 HQ2 HBI HTX HSG HFL HWH HA1 HA2 HS1 HM1 HCM HSU HVA
    obtain ⟨_, c1⟩ := HSL.out _ BV1.out
    clear c0 BV0 BS1
    go_wp2
    have HX := HXB
    have HQ1 : Hid (∀ W, Below wb.heap.size wb W → Calls Tryz.prog 10 #[.pointer (some ⟨w1.heap.size, 0, none⟩), .pointer ya] W fun e w' => e = .returned (.tuple #[.pointer none, .int .i64 1]) ∧ W = w') := fun W hW => b_quo_l W _ _ (HX.out.below hW)
    have HQ2 : Hid (∀ W, Below wb.heap.size wb W → Calls Tryz.prog 10 #[.pointer ya, .pointer (some ⟨w1.heap.size, 0, none⟩)] W fun e w' => e = .returned (.tuple #[.pointer none, .int .i64 1]) ∧ W = w') := fun W hW => b_quo_r W _ _ _ _ _ (HYR.out.below hW) (HX.out.below hW)
    have HBI : Hid (∀ W, Below wb.heap.size wb W → Calls Tryz.prog 11 #[.pointer (some ⟨w1.heap.size, 0, none⟩)] W fun e w' => e = .returned (.tuple #[.int .i64 0, .int .i64 0]) ∧ W = w') := fun W hW => b_bits W _ (HX.out.below hW)
    have HTX : Hid (∀ W, Below wb.heap.size wb W → Calls Tryz.prog 12 #[.pointer (some ⟨w1.heap.size, 0, none⟩)] W fun e w' => e = .returned (.string noS) ∧ W = w') := fun W hW => b_text W _ (HX.out.below hW)
    have HSG : Hid (∀ W, Below wb.heap.size wb W → Calls Tryz.prog 13 #[.pointer (some ⟨w1.heap.size, 0, none⟩)] W fun e w' => e = .returned (.int .i64 0) ∧ W = w') := fun W hW => b_sign W _ (HX.out.below hW)
    have HFL : Hid (∀ W, Below wb.heap.size wb W → Calls Tryz.prog 14 #[.pointer (some ⟨w1.heap.size, 0, none⟩)] W fun e w' => e = .returned (.pointer none) ∧ W = w') := fun W hW => b_floor W _ (HX.out.below hW)
    have HWH : Hid (∀ W, Below wb.heap.size wb W → Calls Tryz.prog 15 #[.pointer (some ⟨w1.heap.size, 0, none⟩)] W fun e w' => e = .returned (.bool false) ∧ W = w') := fun W hW => b_whole W _ (HX.out.below hW)
    have HA1 : Hid (∀ W, Below wb.heap.size wb W → Calls Tryz.prog 16 #[.pointer (some ⟨w1.heap.size, 0, none⟩), .pointer ya] W fun e w' => e = .returned (.pointer none) ∧ W = w') := fun W hW => b_add_l W _ _ (HX.out.below hW)
    have HA2 : Hid (∀ W, Below wb.heap.size wb W → Calls Tryz.prog 16 #[.pointer ya, .pointer (some ⟨w1.heap.size, 0, none⟩)] W fun e w' => e = .returned (.pointer none) ∧ W = w') := fun W hW => b_add_r W _ _ _ _ _ (HYR.out.below hW) (HX.out.below hW)
    have HS1 : Hid (∀ W, Below wb.heap.size wb W → Calls Tryz.prog 17 #[.pointer (some ⟨w1.heap.size, 0, none⟩), .pointer ya] W fun e w' => e = .returned (.pointer none) ∧ W = w') := fun W hW => b_sub_l W _ _ (HX.out.below hW)
    have HM1 : Hid (∀ W, Below wb.heap.size wb W → Calls Tryz.prog 18 #[.pointer ya, .pointer (some ⟨w1.heap.size, 0, none⟩)] W fun e w' => e = .returned (.pointer none) ∧ W = w') := fun W hW => b_mul_r W _ _ _ _ _ (HYR.out.below hW) (HX.out.below hW)
    have HCM : Hid (∀ W, Below wb.heap.size wb W → Calls Tryz.prog 20 #[.pointer (some ⟨w1.heap.size, 0, none⟩), .pointer ya] W fun e w' => e = .returned (.int .i64 0) ∧ W = w') := fun W hW => b_cmp_l W _ _ (HX.out.below hW)
    have HSU : Hid (∀ W, Below wb.heap.size wb W → Calls Tryz.prog 19 #[.slice (some ⟨W.heap.size, 0, none⟩) 2 2] (W.alloc (.cells #[.pointer ya, .pointer (some ⟨w1.heap.size, 0, none⟩)] 28)) fun e w' => e = .returned (.pointer none) ∧ Below W.heap.size W w') := fun W hW => by
      have hh := heap_alloc_new W (.cells #[.pointer ya, .pointer (some ⟨w1.heap.size, 0, none⟩)] 28)
      have hbl : Below W.heap.size W (W.alloc (.cells #[.pointer ya, .pointer (some ⟨w1.heap.size, 0, none⟩)] 28)) := (Below.refl _ _).alloc (Nat.le_refl _) _
      exact (b_sum _ W.heap.size 2 _ _ sg p q (by simp) (by rw [cell_of_row _ _ _ _ _ _ hh]; rfl) (by rw [cell_of_row _ _ _ _ _ _ hh]; rfl) ((HYR.out.below hW).below hbl) ((HX.out.below hW).below hbl) HA.out HB.out).mono fun _ _ h => ⟨h.1, btr hbl h.2⟩
    have HVA : Hid (∀ W, Below wb.heap.size wb W → Calls Tryz.prog 21 #[.pointer (some ⟨w1.heap.size, 0, none⟩)] W fun e w' => e = .returned (V 0 0 0 noS) ∧ Below W.heap.size W w') := fun W hW => b_value W _ (HX.out.below hW)
    clear HX
    rw [rounds_succ]
    go_wp2_with fail
    refine (HQ1.out _ BV1.out).mono ?_
    rintro e w' ⟨rfl, rfl⟩
    go_wp2_with fail
    refine (HQ2.out _ BV1.out).mono ?_
    rintro e w' ⟨rfl, rfl⟩
    go_wp2_with fail
    refine (HBI.out _ BV1.out).mono ?_
    rintro e w' ⟨rfl, rfl⟩
    go_wp2_with fail
    refine (HTX.out _ BV1.out).mono ?_
    rintro e w' ⟨rfl, rfl⟩
    go_wp2_with fail
    refine (HSG.out _ BV1.out).mono ?_
    rintro e w' ⟨rfl, rfl⟩
    go_wp2_with fail
    refine (HFL.out _ BV1.out).mono ?_
    rintro e w' ⟨rfl, rfl⟩
    go_wp2_with fail
    refine (HWH.out _ BV1.out).mono ?_
    rintro e w' ⟨rfl, rfl⟩
    go_wp2_with fail
    refine (HA1.out _ BV1.out).mono ?_
    rintro e w' ⟨rfl, rfl⟩
    go_wp2_with fail
    refine (HA2.out _ BV1.out).mono ?_
    rintro e w' ⟨rfl, rfl⟩
    go_wp2_with fail
    refine (HS1.out _ BV1.out).mono ?_
    rintro e w' ⟨rfl, rfl⟩
    go_wp2_with fail
    refine (HM1.out _ BV1.out).mono ?_
    rintro e w' ⟨rfl, rfl⟩
    go_wp2_with fail
    refine (HSU.out _ BV1.out).mono ?_
    rintro e s2 ⟨rfl, hb⟩
    have BS2 := Lib.hid (btr BV1.out hb)
    clear hb
    go_wp2_with fail
    refine (HCM.out _ BS2.out).mono ?_
    rintro e w' ⟨rfl, rfl⟩
    go_wp2_with fail
    refine (HVA.out _ BS2.out).mono ?_
    rintro e v2 ⟨rfl, hb⟩
    have BV2 := Lib.hid (btr BS2.out hb)
    clear hb HQ1 HQ2 HBI HTX HSG HFL HWH HA1 HA2 HS1 HM1 HCM HSU HVA
    clear c1 BV1 BS2
    go_wp2
    rw [rounds_succ]
    go_wp2_with fail
    refine (HK.out _ (btr CB.out BV2.out)).mono ?_
    rintro e w9 ⟨rfl, hb9⟩
    go_wp2
    go_ret
    exact ⟨rfl, btr (btr CB.out BV2.out) hb9⟩
end Go.Proofs.YtfkjfeobhbocjaaGreatDoor

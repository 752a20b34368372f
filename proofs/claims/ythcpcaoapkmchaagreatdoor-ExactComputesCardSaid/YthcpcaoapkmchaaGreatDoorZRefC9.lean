/- The reference's rational numbers: the integer below one. -/
import Derived.Test.YthcpcaoapkmchaaGreatDoorZRef9
import Derived.Test.YthcpcaoapkmchaaGreatDoorZFloor
import Derived.Test.YthcpcaoapkmchaaGreatDoorZPlus9
import Derived.Test.YthcpcaoapkmchaaGreatDoorZRdV
import Derived.Test.YthcpcaoapkmchaaGreatDoorZDo
import Derived.Test.YthcpcaoapkmchaaGreatDoorZRing
import Derived.Test.YthcpcaoapkmchaaGreatDoorZFmt
import Derived.Test.YthcpcaoapkmchaaGreatDoorZRatV

/- The reference's rational numbers: the integer below one. -/
section
namespace Go.Proofs.YthcpcaoapkmchaaGreatDoor
open Go.RowKit Go.Deep

set_option maxHeartbeats 4000000 in
theorem r_Floor (w : World) (r : Value) (s : Bool) (n d : Nat) (h : Ref w r s n d) (hn : nw9 n ≤ 100000) (hd : nw9 d ≤ 100000) (hd0 : 0 < d) :
    Calls Tryz.prog 51 #[r] w (RefRet (sgn s (floorN s n d)) (floorN s n d) 1 w) := by
  obtain ⟨u, v, rfl, hu, hv⟩ := h
  have HO := Lib.hid (fun W (hW : Below w.heap.size w W) => r_over W u v n d (hu.below hW) (hv.below hW) (by omega) (by omega) hd0)
  obtain ⟨A, c, rfl⟩ := hu.sl
  obtain ⟨A', c', rfl⟩ := hv.sl
  obtain ⟨W0, hW0, hB0, hz0, K⟩ := ref_box w s (.slice A (nw9 n) c) (.slice A' (nw9 d) c')
  obtain ⟨W1, hW1, hB1, hz1, KR⟩ := zero_box W0
  have HB0 := Lib.hid hB0
  have HB1 := Lib.hid hB1
  have k1 := (K.out W1 hB1).2.1
  have k2 := (K.out W1 hB1).2.2
  rw [hz0] at hz1
  clear hB0 hB1 hu hv
  have HF : Hid (floorN s n d = if s = true ∧ n % d ≠ 0 then n / d + 1 else n / d) := rfl
  generalize hff : floorN s n d = F at *
  have HFF := Lib.hid hff
  clear hff
  have HSf : Hid (∀ x, sgn false x = false) := fun _ => rfl
  have HSt : Hid (∀ x, decide (0 < nw9 x) = sgn true x) := fun x => by
    show _ = (true && decide (0 < x))
    rw [Bool.true_and, decide_eq_decide]; exact nw_pos9 x
  go_enter Tryz.func51, Tryz.ntmps51
  go_wp2_with fail
  refine (HO.out W1 (btr HB0.out HB1.out)).mono ?_
  rintro e w2 ⟨q, r, rfl, hq, hr, hb2⟩
  have HB2 := Lib.hid (btr HB1.out hb2)
  have HQ := Lib.hid hq
  obtain ⟨A2, c2, rfl⟩ := hq.sl
  obtain ⟨A3, c3, rfl⟩ := hr.sl
  have q0 := (K.out w2 HB2.out).1
  have HR2 := Lib.hid hb2
  have HB2r := Lib.hid hb2
  have hqn : nw9 (n / d) ≤ 100000 := Nat.le_trans (nw_mono9 (Nat.div_le_self _ _)) hn
  have hz := nw_pos9 (n % d)
  have hmm : (s = true ∧ n % d ≠ 0) ∨ (s = true ∧ nw9 (n % d) = 0 ∧ n % d = 0) ∨ s = false := by
    cases s
    · exact .inr (.inr rfl)
    · by_cases h9 : n % d = 0
      · exact .inr (.inl ⟨rfl, by rw [h9, nw_zero9], h9⟩)
      · exact .inl ⟨rfl, h9⟩
  clear hq hr hb2 k1 k2 HO
  rcases hmm with ⟨rfl, h9⟩ | ⟨rfl, h8, h9⟩ | rfl
  · have hp : 0 < nw9 (n % d) := hz.2 (by omega)
    have hFF : F = n / d + 1 := by rw [HF.out, if_pos ⟨rfl, h9⟩]
    clear hz h9 HF
    generalize nw9 (n % d) = m at *
    go_wp2_with fail
    refine (r_one w2).mono ?_
    rintro e w3 ⟨o, rfl, ho, hb3⟩
    have HPl := Lib.hid (r_plus w3 _ o (n / d) 1 (HQ.out.below hb3) ho (by omega) (by rw [nw_one9 1 (by omega) (by decide)]; omega))
    have HB3 := Lib.hid (btr HB2.out hb3)
    have HB3r := Lib.hid (btr HR2.out hb3)
    clear ho hb3
    go_wp2_with fail
    refine HPl.out.mono ?_
    rintro e w4 ⟨qq, rfl, hqq, hb4⟩
    have HB4 := Lib.hid (btr HB3.out hb4)
    have HB4r := Lib.hid (btr HB3r.out hb4)
    rw [← hFF] at hqq
    have HQQ := Lib.hid hqq
    obtain ⟨A4, c4, rfl⟩ := hqq.sl
    clear hqq hb4 HPl hFF
    have k0 := (K.out w4 HB4.out).1
    go_wp2_with fail
    refine (r_one w4).mono ?_
    rintro e w5 ⟨o5, rfl, ho5, hb5⟩
    have HB5 := Lib.hid (btr HB4.out hb5)
    have HB5r := Lib.hid (btr HB4r.out hb5)
    have HO5 := Lib.hid ho5
    have HQ5 := Lib.hid (HQQ.out.below hb5)
    obtain ⟨A5, c5, rfl⟩ := ho5.sl
    have hcell := KR.out w5 HB5r.out
    have HCell := Lib.hid hcell
    rw [hz0] at hcell
    clear ho5 hb5 k0
    go_wp2_with (refine wpList_store_row 29 _ _ rfl rfl rfl (w.heap.size + 1) 29 rfl [.bool (decide (0 < nw9 F)), .slice A4 (nw9 F) c4, .slice A5 (nw9 1) c5] rfl _ hcell rfl info_ref (ref_one _ _ _ _ _ _ _) ?_; intro wz hhz hgz hzz; have HGz := Lib.hid hgz; have HZz := Lib.hid hzz; clear hzz hgz hcell)
    have hno := ref_noint HCell.out
    have hG := HGz.out
    rw [← hz0] at hG
    have hBf := btr HB0.out HB5.out
    exact bodyPost_ret (v := .agg #[.bool (decide (0 < nw9 F)), .slice A4 (nw9 F) c4, .slice A5 (nw9 1) c5]) (results_cell_row Tryz.results51 _ _ (w.heap.size + 1) 29 _ (0, 0) _ rfl hhz Tryz.underlying29 rfl (by rw [info_ref]; rfl)) rfl
      ⟨_, rfl, ⟨_, _, by rw [HSt.out], HQ5.out.apart hno hG, HO5.out.apart hno hG⟩, hBf.grown hG hBf.size (fun j hj => by injection hj with hj; omega)⟩
  · have hFF : F = n / d := by rw [HF.out, if_neg (fun h => h.2 h9)]
    clear hz h9 HF
    rw [h8]
    clear h8
    rw [← hFF] at HQ ⊢
    clear hFF
    have k0 := (K.out w2 HB2.out).1
    go_wp2_with fail
    refine (r_one w2).mono ?_
    rintro e w5 ⟨o5, rfl, ho5, hb5⟩
    have HB5 := Lib.hid (btr HB2.out hb5)
    have HB5r := Lib.hid (btr HB2r.out hb5)
    have HO5 := Lib.hid ho5
    have HQ5 := Lib.hid (HQ.out.below hb5)
    obtain ⟨A5, c5, rfl⟩ := ho5.sl
    have hcell := KR.out w5 HB5r.out
    have HCell := Lib.hid hcell
    rw [hz0] at hcell
    clear ho5 hb5 k0
    go_wp2_with (refine wpList_store_row 29 _ _ rfl rfl rfl (w.heap.size + 1) 29 rfl [.bool (decide (0 < nw9 F)), .slice A2 (nw9 F) c2, .slice A5 (nw9 1) c5] rfl _ hcell rfl info_ref (ref_one _ _ _ _ _ _ _) ?_; intro wz hhz hgz hzz; have HGz := Lib.hid hgz; have HZz := Lib.hid hzz; clear hzz hgz hcell)
    have hno := ref_noint HCell.out
    have hG := HGz.out
    rw [← hz0] at hG
    have hBf := btr HB0.out HB5.out
    exact bodyPost_ret (v := .agg #[.bool (decide (0 < nw9 F)), .slice A2 (nw9 F) c2, .slice A5 (nw9 1) c5]) (results_cell_row Tryz.results51 _ _ (w.heap.size + 1) 29 _ (0, 0) _ rfl hhz Tryz.underlying29 rfl (by rw [info_ref]; rfl)) rfl
      ⟨_, rfl, ⟨_, _, by rw [HSt.out], HQ5.out.apart hno hG, HO5.out.apart hno hG⟩, hBf.grown hG hBf.size (fun j hj => by injection hj with hj; omega)⟩
  · have hFF : F = n / d := by rw [HF.out, if_neg (fun h => by cases h.1)]
    clear hz HF
    rw [← hFF] at HQ ⊢
    clear hFF
    have k0 := (K.out w2 HB2.out).1
    go_wp2_with fail
    refine (r_one w2).mono ?_
    rintro e w5 ⟨o5, rfl, ho5, hb5⟩
    have HB5 := Lib.hid (btr HB2.out hb5)
    have HB5r := Lib.hid (btr HB2r.out hb5)
    have HO5 := Lib.hid ho5
    have HQ5 := Lib.hid (HQ.out.below hb5)
    obtain ⟨A5, c5, rfl⟩ := ho5.sl
    have hcell := KR.out w5 HB5r.out
    have HCell := Lib.hid hcell
    rw [hz0] at hcell
    clear ho5 hb5 k0
    go_wp2_with (refine wpList_store_row 29 _ _ rfl rfl rfl (w.heap.size + 1) 29 rfl [.bool false, .slice A2 (nw9 F) c2, .slice A5 (nw9 1) c5] rfl _ hcell rfl info_ref (ref_one _ _ _ _ _ _ _) ?_; intro wz hhz hgz hzz; have HGz := Lib.hid hgz; have HZz := Lib.hid hzz; clear hzz hgz hcell)
    have hno := ref_noint HCell.out
    have hG := HGz.out
    rw [← hz0] at hG
    have hBf := btr HB0.out HB5.out
    exact bodyPost_ret (v := .agg #[.bool false, .slice A2 (nw9 F) c2, .slice A5 (nw9 1) c5]) (results_cell_row Tryz.results51 _ _ (w.heap.size + 1) 29 _ (0, 0) _ rfl hhz Tryz.underlying29 rfl (by rw [info_ref]; rfl)) rfl
      ⟨_, rfl, ⟨_, _, by rw [HSf.out], HQ5.out.apart hno hG, HO5.out.apart hno hG⟩, hBf.grown hG hBf.size (fun j hj => by injection hj with hj; omega)⟩
end Go.Proofs.YthcpcaoapkmchaaGreatDoor
end

/- The reference's rational numbers: the value of one. -/
section
namespace Go.Proofs.YthcpcaoapkmchaaGreatDoor
open Go.RowKit Go.Deep

theorem r_max (w : World) : Calls Tryz.prog 96 #[.int .u64 1099511627776] w (Nat9 1099511627776 w) := r_natural w 1099511627776 (by decide)

set_option maxHeartbeats 2000000 in
theorem r_word_big (w : World) (v : Value) (n : Nat) (h : N9At w v n) (hb : 1099511627776 < n) :
    Calls Tryz.prog 99 #[v] w fun e w' => e = .returned (.tuple #[.int .i64 0, .bool false]) ∧ Below w.heap.size w w' := by
  have HV := Lib.hid h
  obtain ⟨A, c, rfl⟩ := h.sl
  have HC := Lib.hid (cmpN_pos n 1099511627776 hb)
  clear hb h
  go_enter Tryz.func99, Tryz.ntmps99
  go_wp2_with fail
  refine (r_max w).mono ?_
  rintro e w1 ⟨o, rfl, ho, hb1⟩
  have HB1 := Lib.hid hb1
  have HCm := Lib.hid (r_cmpN w1 _ o n 1099511627776 (HV.out.below hb1) ho)
  clear ho hb1
  have hcz := HC.out
  generalize cmpN n 1099511627776 = cc at *
  have hc0 : 0 < cc := by omega
  go_wp2_with fail
  refine HCm.out.mono ?_
  rintro e w2 ⟨rfl, nd, rfl⟩
  go_wp2
  go_ret2
  exact ⟨rfl, below_drewN HB1.out nd⟩

set_option maxHeartbeats 2000000 in
theorem r_word_small (w : World) (v : Value) (n : Nat) (h : N9At w v n) (hb : n ≤ 1099511627776) :
    Calls Tryz.prog 99 #[v] w fun e w' => e = .returned (.tuple #[.int .i64 (n : Int), .bool true]) ∧ Below w.heap.size w w' := by
  have HV := Lib.hid h
  obtain ⟨A, c, rfl⟩ := h.sl
  have HC := Lib.hid (cmpN_le n 1099511627776 hb)
  have hx : n < B9 ^ 2 := by unfold B9; omega
  have HX : Hid (dig9 n 0 + 1000000000 * dig9 n 1 = n) := by
    show _ = _
    have h1 := vl_dig_lt9 n 2 hx
    simp only [vl9] at h1
    unfold B9 at h1
    omega
  have hd0 := dig_lt9 n 0
  have hd1 := dig_lt9 n 1
  have HBn := Lib.hid hb
  clear hb h hx
  go_enter Tryz.func99, Tryz.ntmps99
  go_wp2_with fail
  refine (r_max w).mono ?_
  rintro e w1 ⟨o, rfl, ho, hb1⟩
  have HB1 := Lib.hid hb1
  have HCm := Lib.hid (r_cmpN w1 _ o n 1099511627776 (HV.out.below hb1) ho)
  have HV1 := Lib.hid (HV.out.below hb1)
  clear ho hb1
  have hcz := HC.out
  generalize cmpN n 1099511627776 = cc at *
  have hc0 : ¬ 0 < cc := by omega
  go_wp2_with fail
  refine HCm.out.mono ?_
  rintro e w2 ⟨rfl, nd, rfl⟩
  have HD0 := Lib.hid (r_digitN (w1.drewN nd) _ 0 n (HV1.out.drewN nd))
  have HD1 := Lib.hid (r_digitN (w1.drewN nd) _ 1 n (HV1.out.drewN nd))
  unfold B9 at hd0 hd1
  generalize dig9 n 0 = a at *
  generalize dig9 n 1 = b at *
  go_wp2_with fail
  refine HD0.out.mono ?_
  rintro e w' ⟨rfl, rfl⟩
  go_wp2_with fail
  refine HD1.out.mono ?_
  rintro e w' ⟨rfl, rfl⟩
  go_wp2
  go_ret2
  exact ⟨by
    have h1 := HX.out
    have h2 := HBn.out
    have e1 : ∀ z : Int, z = (n : Int) → Ending.returned (.tuple #[.int .i64 z, .bool true]) = Ending.returned (.tuple #[.int .i64 (n : Int), .bool true]) := fun z hz => by rw [hz]
    refine e1 _ ?_
    first | omega | (simp only [IntKind.wrap_i64]; omega) | (simp only [IntKind.wrap_u64, IntKind.wrap_i64]; omega), below_drewN HB1.out nd⟩

def RefV (w : World) (r : Value) (q : Rat) : Prop := Ref w r (decide (q.num < 0)) q.num.natAbs q.den
theorem RefV.below {w w' : World} {r : Value} {q : Rat} (h : RefV w r q) (hb : Below w.heap.size w w') : RefV w' r q := Ref.below h hb

set_option maxHeartbeats 400000 in
theorem r_Missing (w : World) : Calls Tryz.prog 100 #[.int .i64 2] w fun e w' => e = .returned (V 0 2 0 noS) ∧ Below w.heap.size w w' := by
  go_enter Tryz.func100, Tryz.ntmps100
  go_wp2
  exact bodyPost_ret (v := V 0 2 0 noS) (by simp [results, Tryz.results100, go_sem]) rfl ⟨rfl, (Below.refl _ _).alloc (Nat.le_refl _) _⟩

set_option maxHeartbeats 4000000 in
theorem r_Value (w : World) (r : Value) (q : Rat) (h : RefV w r q) :
    Calls Tryz.prog 53 #[r] w fun e w' => e = .returned (V (valK q) (valN q) (valD q) noS) ∧ Below w.heap.size w w' := by
  obtain ⟨u, v, rfl, hu, hv⟩ := h
  have HU := Lib.hid hu
  have HV := Lib.hid hv
  obtain ⟨A, c, rfl⟩ := hu.sl
  obtain ⟨A', c', rfl⟩ := hv.sl
  generalize hs : decide (q.num < 0) = s at *
  have HS := Lib.hid hs
  obtain ⟨W0, hW0, hB0, hz0, K⟩ := ref_box w s (.slice A (nw9 q.num.natAbs) c) (.slice A' (nw9 q.den) c')
  obtain ⟨W1, hW1, hB1, hz1, KR⟩ := valz_box W0
  have HB0 := Lib.hid hB0
  have HB1 := Lib.hid hB1
  have k1 := (K.out W1 hB1).2.1
  rw [hz0] at hz1
  clear hB0 hB1 hs
  generalize hgn : q.num.natAbs = n at *
  have HGn := Lib.hid hgn
  generalize hgd : q.den = d at *
  have HGd := Lib.hid hgd
  clear hgn hgd
  have HWn : Hid (n ≤ 1099511627776 → ∀ W, Below w.heap.size w W → Calls Tryz.prog 99 #[.slice A (nw9 n) c] W fun e w' => e = .returned (.tuple #[.int .i64 (n : Int), .bool true]) ∧ Below W.heap.size W w') := fun hn W hW => r_word_small W _ _ (hu.below hW) hn
  have HWn' : Hid (1099511627776 < n → ∀ W, Below w.heap.size w W → Calls Tryz.prog 99 #[.slice A (nw9 n) c] W fun e w' => e = .returned (.tuple #[.int .i64 0, .bool false]) ∧ Below W.heap.size W w') := fun hn W hW => r_word_big W _ _ (hu.below hW) hn
  have HWd : Hid (d ≤ 1099511627776 → ∀ W, Below w.heap.size w W → Calls Tryz.prog 99 #[.slice A' (nw9 d) c'] W fun e w' => e = .returned (.tuple #[.int .i64 (d : Int), .bool true]) ∧ Below W.heap.size W w') := fun hn W hW => r_word_small W _ _ (hv.below hW) hn
  have HWd' : Hid (1099511627776 < d → ∀ W, Below w.heap.size w W → Calls Tryz.prog 99 #[.slice A' (nw9 d) c'] W fun e w' => e = .returned (.tuple #[.int .i64 0, .bool false]) ∧ Below W.heap.size W w') := fun hn W hW => r_word_big W _ _ (hv.below hW) hn
  clear hu hv
  by_cases hsm : n ≤ 1099511627776 ∧ d ≤ 1099511627776
  · obtain ⟨hn, hd⟩ := hsm
    have hSm : Small q := ⟨by rw [HGn.out]; exact hn, by rw [HGd.out]; exact hd⟩
    have HRes : Hid (V (valK q) (valN q) (valD q) noS = V 2 q.num (d : Int) noS) := by show _ = _; unfold valK valN valD; rw [if_pos hSm, if_pos hSm, if_pos hSm, HGd.out]
    clear hSm
    go_enter Tryz.func53, Tryz.ntmps53
    go_wp2_with fail
    refine (HWn.out hn W1 (btr HB0.out HB1.out)).mono ?_
    rintro e w2 ⟨rfl, hb2⟩
    have HB2 := Lib.hid (btr HB1.out hb2)
    have HB2r := Lib.hid hb2
    have k2 := (K.out w2 HB2.out).2.2
    clear hb2 k1
    go_wp2_with fail
    refine (HWd.out hd w2 (btr HB0.out HB2.out)).mono ?_
    rintro e w3 ⟨rfl, hb3⟩
    have HB3 := Lib.hid (btr HB2.out hb3)
    have HB3r := Lib.hid (btr HB2r.out hb3)
    have k0 := (K.out w3 HB3.out).1
    have hcell := KR.out w3 HB3r.out
    rw [hz0] at hcell
    clear hb3 k2
    have hBf := btr HB0.out HB3.out
    cases s
    · have HNm : Hid (q.num = (n : Int)) := by have h1 := HS.out; have h2 := HGn.out; have h3 := of_decide_eq_false h1; show _ = _; omega
      go_wp2_with (refine wpList_store_row 43 _ _ rfl rfl rfl (w.heap.size + 1) 43 rfl [.int .i64 2, .int .i64 (n : Int), .int .i64 (d : Int), .string noS] rfl _ hcell rfl info_val (val_one _ _ _ _) ?_; intro wz hhz hgz hzz; have HGz := Lib.hid hgz; have HZz := Lib.hid hzz; clear hzz hgz hcell)
      rw [HNm.out] at HRes
      exact bodyPost_ret (v := V 2 (n : Int) (d : Int) noS) (results_cell_row Tryz.results53 _ _ (w.heap.size + 1) 43 _ (0, 0) _ rfl hhz Tryz.underlying43 rfl (by rw [info_val]; rfl)) rfl ⟨by rw [HRes.out], hBf.grown HGz.out hBf.size (fun j hj => by injection hj with hj; omega)⟩
    · have HNm : Hid (q.num = -(n : Int)) := by have h1 := HS.out; have h2 := HGn.out; have h3 := of_decide_eq_true h1; show _ = _; omega
      go_wp2_with (refine wpList_store_row 43 _ _ rfl rfl rfl (w.heap.size + 1) 43 rfl [.int .i64 2, .int .i64 (-(n : Int)), .int .i64 (d : Int), .string noS] rfl _ hcell rfl info_val (val_one _ _ _ _) ?_; intro wz hhz hgz hzz; have HGz := Lib.hid hgz; have HZz := Lib.hid hzz; clear hzz hgz hcell)
      rw [HNm.out] at HRes
      exact bodyPost_ret (v := V 2 (-(n : Int)) (d : Int) noS) (results_cell_row Tryz.results53 _ _ (w.heap.size + 1) 43 _ (0, 0) _ rfl hhz Tryz.underlying43 rfl (by rw [info_val]; rfl)) rfl ⟨by rw [HRes.out], hBf.grown HGz.out hBf.size (fun j hj => by injection hj with hj; omega)⟩
  · have hSm : ¬ Small q := fun h => hsm ⟨by have := h.1; rw [HGn.out] at this; exact this, by have := h.2; rw [HGd.out] at this; exact this⟩
    have HRes : Hid (V (valK q) (valN q) (valD q) noS = V 0 2 0 noS) := by show _ = _; unfold valK valN valD; rw [if_neg hSm, if_neg hSm, if_neg hSm]
    clear hSm
    have h3 : (n ≤ 1099511627776 ∧ 1099511627776 < d) ∨ (1099511627776 < n ∧ d ≤ 1099511627776) ∨ (1099511627776 < n ∧ 1099511627776 < d) := by omega
    clear hsm
    rcases h3 with ⟨hn, hd⟩ | ⟨hn, hd⟩ | ⟨hn, hd⟩
    all_goals
      go_enter Tryz.func53, Tryz.ntmps53
      go_wp2_with fail
      first | refine (HWn.out hn W1 (btr HB0.out HB1.out)).mono ?_ | refine (HWn'.out hn W1 (btr HB0.out HB1.out)).mono ?_
      rintro e w2 ⟨rfl, hb2⟩
      have HB2 := Lib.hid (btr HB1.out hb2)
      have HB2r := Lib.hid hb2
      have k2 := (K.out w2 HB2.out).2.2
      clear hb2 k1
      go_wp2_with fail
      first | refine (HWd.out hd w2 (btr HB0.out HB2.out)).mono ?_ | refine (HWd'.out hd w2 (btr HB0.out HB2.out)).mono ?_
      rintro e w3 ⟨rfl, hb3⟩
      have HB3 := Lib.hid (btr HB2.out hb3)
      have HB3r := Lib.hid (btr HB2r.out hb3)
      clear hb3 k2
      go_wp2_with fail
      refine (r_Missing w3).mono ?_
      rintro e w4 ⟨rfl, hb4⟩
      have HB4 := Lib.hid (btr HB3.out hb4)
      have HB4r := Lib.hid (btr HB3r.out hb4)
      have hcell := KR.out w4 HB4r.out
      rw [hz0] at hcell
      clear hb4
      have hBf := btr HB0.out HB4.out
      go_wp2_with (refine wpList_store_row 43 _ _ rfl rfl rfl (w.heap.size + 1) 43 rfl [.int .i64 0, .int .i64 2, .int .i64 0, .string noS] rfl _ hcell rfl info_val (val_one _ _ _ _) ?_; intro wz hhz hgz hzz; have HGz := Lib.hid hgz; have HZz := Lib.hid hzz; clear hzz hgz hcell)
      exact bodyPost_ret (v := V 0 2 0 noS) (results_cell_row Tryz.results53 _ _ (w.heap.size + 1) 43 _ (0, 0) _ rfl hhz Tryz.underlying43 rfl (by rw [info_val]; rfl)) rfl ⟨by rw [HRes.out], hBf.grown HGz.out hBf.size (fun j hj => by injection hj with hj; omega)⟩
end Go.Proofs.YthcpcaoapkmchaaGreatDoor
end

/- The integer below a number of any size. -/
section
namespace Go.Proofs.YthcpcaoapkmchaaGreatDoor
open Go.RowKit Go.Deep

set_option maxHeartbeats 2000000 in
theorem g_Floor (w : World) (v : Value) (neg : Bool) (n d : Nat) (h : RatAt w v neg n d) (hd0 : 0 < d) (hnn : nw n ≤ 100000) :
    Calls Tryz.prog 27 #[v] w (RatRet w (sgn neg (floorN neg n d)) (floorN neg n d) 1) := by
  have HV := Lib.hid (c_valid w v neg n d h)
  obtain ⟨b, nv, dv, rfl, hlt, _, h1, h2, h3, hn, hd⟩ := h
  have HDv := Lib.hid (fun k => g_divided (w.drewN k) nv dv n d (hn.drewN k) (hd.drewN k) (by omega) hd0)
  have K : Hid (∀ W, Below w.heap.size w W → W.cell? ⟨b, 1, none⟩ = some (.bool neg) ∧ W.cell? ⟨b, 2, none⟩ = some nv ∧ W.cell? ⟨b, 3, none⟩ = some dv) := fun W hW =>
    ⟨(hW.cell (p := ⟨b, 1, none⟩) hlt).trans h1, (hW.cell (p := ⟨b, 2, none⟩) hlt).trans h2, (hW.cell (p := ⟨b, 3, none⟩) hlt).trans h3⟩
  have hq : nw (n / d) ≤ 100000 := Nat.le_trans (nw_mono (Nat.div_le_self _ _)) hnn
  clear hn hd h1 h2 h3
  go_enter Tryz.func27, Tryz.ntmps27
  go_wp2_with fail
  refine HV.out.mono ?_
  rintro e w' ⟨rfl, rfl⟩
  have B0 : Below w.heap.size w w.drew := Below.drew (Below.refl _ _)
  go_wp2_with fail
  go_region_held3 (fun w' => w'.cell? ⟨b, 1, none⟩ = some (.bool neg) ∧ w'.cell? ⟨b, 2, none⟩ = some nv ∧ w'.cell? ⟨b, 3, none⟩ = some dv)
    (first | exact K.out _ B1 | exact K.out _ B0 | exact K.out _ (Below.refl _ _)) (first
      | (go_at_call 74; refine (HDv.out 1).mono ?_; rintro e w1 ⟨q, r, rfl, hqa, hra, hb1⟩; have B1 : Below w.heap.size w w1 := btr B0 hb1))
  obtain ⟨c1, c2, c3⟩ := K.out _ B1
  have HRA := Lib.hid hra
  obtain ⟨A, c, rfl, _, _, _⟩ := hra
  have HQA := Lib.hid hqa
  have B1d : Below w1.heap.size w1 w1.drew := Below.drew (Below.refl _ _)
  have K1 : Hid (∀ W, Below w1.heap.size w1 W → W.cell? ⟨b, 1, none⟩ = some (.bool neg)) := fun W hW => (K.out W (btr B1 hW)).1
  have HW1 := Lib.hid (fun W => n_word W 1 (by decide))
  clear hqa HDv B0 HV
  by_cases hc : neg = true ∧ n % d ≠ 0
  · have HF : Hid (floorN neg n d = n / d + 1) := if_pos hc
    have hr0 : 0 < nw (n % d) := by rw [nw_pos]; omega
    have hng : neg = true := hc.1
    subst hng
    clear hc
    generalize nw (n % d) = m at *
    have hdm : decide (0 < m) = true := by simp [hr0]
    go_wp2_with fail
    refine (HW1.out _).mono ?_
    rintro e w2 ⟨o, rfl, ho, hb2⟩
    have HPl := Lib.hid (n_plus w2 q o (n / d) 1 (HQA.out.below hb2) ho (by omega) (by rw [nw_one 1 (by omega) (by decide)]; omega))
    go_wp2_with fail
    refine HPl.out.mono ?_
    rintro e w3 ⟨wh, rfl, hwh, hb3⟩
    have B3 : Below w1.heap.size w1 w3 := btr hb2 hb3
    have B3d : Below w3.heap.size w3 w3.drew := Below.drew (Below.refl _ _)
    have HWH := Lib.hid hwh
    clear ho hwh HPl
    go_wp2_with fail
    go_region_held3 (fun w' => w'.cell? ⟨b, 1, none⟩ = some (.bool true))
      (first | exact K1.out _ (btr B3 B5) | exact K1.out _ (btr B3 B4) | exact K1.out _ (btr B3 B3d) | exact K1.out _ B3) (first
        | (go_at_call 73; refine (HW1.out _).mono ?_; rintro e w4 ⟨o2, rfl, ho2, hb4⟩; have B4 : Below w3.heap.size w3 w4 := btr B3d hb4)
        | (go_at_call 44; refine (c_made _ wh o2 true (n / d + 1) 1 (HWH.out.below B4) ho2).mono ?_; rintro e w5 ⟨u, rfl, hu, hb5⟩; have B5 : Below w3.heap.size w3 w5 := btr B4 hb5))
    all_goals
      go_wp2
      go_ret
      exact ⟨u, rfl, by rw [HF.out]; exact hu, btr B1 (btr B3 B5)⟩
  · have HF : Hid (floorN neg n d = n / d) := if_neg hc
    have hdm : neg = false ∨ (neg = true ∧ nw (n % d) = 0) := by
      cases neg
      · exact .inl rfl
      · refine .inr ⟨rfl, ?_⟩
        rw [nw_eq_zero]
        rcases Nat.eq_zero_or_pos (n % d) with h9 | h9
        · exact h9
        · exact absurd ⟨rfl, by omega⟩ hc
    clear hc
    generalize nw (n % d) = m at *
    rcases hdm with rfl | ⟨rfl, rfl⟩
    · go_wp2_with fail
      go_region_held3 (fun w' => w'.cell? ⟨b, 1, none⟩ = some (.bool false))
        (first | exact K1.out _ B5 | exact K1.out _ B4 | exact K1.out _ B1d | exact K1.out _ (Below.refl _ _)) (first
          | (go_at_call 73; refine (HW1.out _).mono ?_; rintro e w4 ⟨o2, rfl, ho2, hb4⟩; have B4 : Below w1.heap.size w1 w4 := btr B1d hb4)
          | (go_at_call 44; refine (c_made _ q o2 false (n / d) 1 (HQA.out.below B4) ho2).mono ?_; rintro e w5 ⟨u, rfl, hu, hb5⟩; have B5 : Below w1.heap.size w1 w5 := btr B4 hb5))
      all_goals
        go_wp2
        go_ret
        exact ⟨u, rfl, by rw [HF.out]; exact hu, btr B1 B5⟩
    · go_wp2_with fail
      go_region_held3 (fun w' => w'.cell? ⟨b, 1, none⟩ = some (.bool true))
        (first | exact K1.out _ B5 | exact K1.out _ B4 | exact K1.out _ B1d | exact K1.out _ (Below.refl _ _)) (first
          | (go_at_call 73; refine (HW1.out _).mono ?_; rintro e w4 ⟨o2, rfl, ho2, hb4⟩; have B4 : Below w1.heap.size w1 w4 := btr B1d hb4)
          | (go_at_call 44; refine (c_made _ q o2 true (n / d) 1 (HQA.out.below B4) ho2).mono ?_; rintro e w5 ⟨u, rfl, hu, hb5⟩; have B5 : Below w1.heap.size w1 w5 := btr B4 hb5))
      all_goals
        go_wp2
        go_ret
        exact ⟨u, rfl, by rw [HF.out]; exact hu, btr B1 B5⟩

/-- The three parts of the integer below a number. -/
theorem floor_parts (q : Rat) : sgn (decide (q.num < 0)) (floorN (decide (q.num < 0)) q.num.natAbs q.den) = decide (((q.floor : Int) : Rat).num < 0) ∧
    floorN (decide (q.num < 0)) q.num.natAbs q.den = ((q.floor : Int) : Rat).num.natAbs ∧ 1 = ((q.floor : Int) : Rat).den := by
  rw [Rat.num_intCast, Rat.den_intCast, Rat.floor_def]
  have hd := q.den_pos
  generalize q.num = m
  generalize q.den = d at *
  unfold sgn floorN
  by_cases hm : m < 0
  · obtain ⟨k, rfl⟩ : ∃ k : Nat, m = -((k : Int) + 1) := ⟨(-m - 1).toNat, by omega⟩
    have e1 : (-((k : Int) + 1)).natAbs = k + 1 := by omega
    have e2 : -((k : Int) + 1) / (d : Int) = -((k / d : Nat) : Int) - 1 := by
      rw [show -((k : Int) + 1) = Int.negSucc k from by rw [Int.negSucc_eq]]
      rw [Int.negSucc_ediv _ (by omega)]
      rw [show (k : Int).ediv (d : Int) = ((k / d : Nat) : Int) from rfl]
      omega
    rw [e1, e2]
    have e3 : (if decide (-((k : Int) + 1) < 0) = true ∧ (k + 1) % d ≠ 0 then (k + 1) / d + 1 else (k + 1) / d) = k / d + 1 := by
      simp only [hm, decide_true, true_and]
      rw [Nat.succ_div]
      by_cases h : d ∣ k + 1
      · rw [if_neg (by have := Nat.mod_eq_zero_of_dvd h; omega), if_pos h]
      · rw [if_pos (by intro h9; exact h (Nat.dvd_of_mod_eq_zero h9)), if_neg h]
    rw [e3]
    refine ⟨?_, by omega, rfl⟩
    simp only [hm, decide_true, Bool.true_and, decide_eq_decide]
    omega
  · obtain ⟨k, rfl⟩ : ∃ k : Nat, m = (k : Int) := ⟨m.toNat, by omega⟩
    have e2 : (k : Int) / (d : Int) = ((k / d : Nat) : Int) := rfl
    simp only [hm, decide_false, Bool.false_and, Bool.false_eq_true, false_and, if_false, e2, Int.natAbs_natCast]
    refine ⟨?_, trivial, trivial⟩
    symm
    rw [decide_eq_false_iff_not]
    generalize k / d = z
    omega
theorem v_Floor (w : World) (x : Value) (q : Rat) (hx : RatV w x q) (k : RatW q 100000) :
    Calls Tryz.prog 27 #[x] w (RatVRet w ((q.floor : Int) : Rat)) := by
  obtain ⟨e1, e2, e3⟩ := floor_parts q
  refine (g_Floor w x _ _ _ hx q.den_pos k.1).mono ?_
  rintro e w' ⟨u, rfl, hu, hb⟩
  rw [e1, e2] at hu
  exact ⟨u, rfl, hu.toV rfl rfl e3, hb⟩
theorem ratW_floor {q : Rat} {a : Nat} (h : RatW q a) : RatW ((q.floor : Int) : Rat) (a + 2) := by
  obtain ⟨_, e2, e3⟩ := floor_parts q
  refine ⟨?_, ?_⟩
  · rw [← e2]
    have h1 : floorN (decide (q.num < 0)) q.num.natAbs q.den ≤ q.num.natAbs + 1 := by
      have := Nat.div_le_self q.num.natAbs q.den
      unfold floorN
      split <;> omega
    have h2 := nw_add q.num.natAbs 1
    have h3 := nw_mono h1
    have h4 : nw 1 = 1 := nw_one 1 (by omega) (by decide)
    have := h.1
    omega
  · rw [← e3, nw_one 1 (by omega) (by decide)]
    omega
theorem whole_floor (q : Rat) : isOneB q.den = decide (((q.floor : Int) : Rat) = q) := by
  rw [Bool.eq_iff_iff, decide_eq_true_iff]
  unfold isOneB
  constructor
  · intro h
    have h1 : q.den = 1 := by simpa using h
    rw [Rat.eq_iff_mul_eq_mul, Rat.num_intCast, Rat.den_intCast, Rat.floor_def, h1]
    simp
  · intro h
    rw [← h, Rat.den_intCast]
    rfl
end Go.Proofs.YthcpcaoapkmchaaGreatDoor
end

/- The driver's comparison of a number with the document's own: what the call returns where both are the same number. -/
section
namespace Go.Proofs.YthcpcaoapkmchaaGreatDoor
open Go.RowKit Go.Deep

/-- How many digits of the reference a number has at most. -/
def RefW (q : Rat) (k : Nat) : Prop := nw9 q.num.natAbs ≤ k ∧ nw9 q.den ≤ k
theorem floor_natAbs_le (q : Rat) : floorN (decide (q.num < 0)) q.num.natAbs q.den ≤ q.num.natAbs + 1 := by
  unfold floorN
  have := Nat.div_le_self q.num.natAbs q.den
  split <;> omega

set_option maxRecDepth 100000 in
set_option maxHeartbeats 4000000 in
theorem l_same (w : World) (x r : Value) (q : Rat) (hx : RatV w x q) (hr : RefV w r q) (k : RatW q 90000) (k9 : RefW q 90000) (htab : Tab w)
    (HB : ∀ W, Below w.heap.size w W → Calls Tryz.prog 28 #[x] W fun e w' => e = .returned (.tuple #[.int .i64 (halves q.num.natAbs : Int), .int .i64 (halves q.den : Int)]) ∧ Below W.heap.size W w') :
    Calls Tryz.prog 9 #[x, r] w fun e w' => e = .returned (.bool true) ∧ Below w.heap.size w w' := by
  have hq0 : 0 < q.den := q.den_pos
  have HTx : Hid (∀ W, Below w.heap.size w W → Calls Tryz.prog 21 #[x] W fun e w' => e = .returned (.string ⟨(txt q).toArray⟩) ∧ Below W.heap.size W w') :=
    fun W hW => v_Text W x q (hx.below hW) (k.mono (by omega)) (htab.below hW)
  have HTr : Hid (∀ W, Below w.heap.size w W → Calls Tryz.prog 47 #[r] W fun e w' => e = .returned (.string ⟨(txt q).toArray⟩) ∧ Below W.heap.size W w') :=
    fun W hW => r_Text W r _ _ _ (hr.below hW) (Nat.le_trans k9.1 (by omega)) (Nat.le_trans k9.2 (by omega))
  have HBx := Lib.hid HB
  have HBr : Hid (∀ W, Below w.heap.size w W → Calls Tryz.prog 48 #[r] W fun e w' => e = .returned (.tuple #[.int .i64 (halves q.num.natAbs : Int), .int .i64 (halves q.den : Int)]) ∧ Below W.heap.size W w') :=
    fun W hW => r_Bits W r _ _ _ (hr.below hW) (Nat.le_trans k9.1 (by omega)) (Nat.le_trans k9.2 (by omega))
  have HSx : Hid (∀ W, Below w.heap.size w W → Calls Tryz.prog 29 #[x] W fun e w' => e = .returned (.int .i64 (signN (decide (q.num < 0)) q.num.natAbs)) ∧ W = w') :=
    fun W hW => c_Sign W x _ _ _ (hx.below hW)
  have HSr : Hid (∀ W, Below w.heap.size w W → Calls Tryz.prog 49 #[r] W fun e w' => e = .returned (.int .i64 (signN (decide (q.num < 0)) q.num.natAbs)) ∧ Below W.heap.size W w') :=
    fun W hW => r_Sign W r _ _ _ (hr.below hW)
  have HWx : Hid (∀ W, Below w.heap.size w W → Calls Tryz.prog 30 #[x] W fun e w' => e = .returned (.bool (isOneB q.den)) ∧ W = w') :=
    fun W hW => c_Whole W x _ _ _ (hx.below hW)
  have HWr : Hid (∀ W, Below w.heap.size w W → Calls Tryz.prog 50 #[r] W fun e w' => e = .returned (.bool (isOneB q.den)) ∧ Below W.heap.size W w') :=
    fun W hW => r_Whole W r _ _ _ (hr.below hW)
  have HFx : Hid (∀ W, Below w.heap.size w W → Calls Tryz.prog 27 #[x] W (RatVRet W ((q.floor : Int) : Rat))) :=
    fun W hW => v_Floor W x q (hx.below hW) (k.mono (by omega))
  obtain ⟨e1, e2, e3⟩ := floor_parts q
  have HFr : Hid (∀ W, Below w.heap.size w W → Calls Tryz.prog 51 #[r] W fun e w' => ∃ u, e = .returned u ∧ RefV w' u ((q.floor : Int) : Rat) ∧ Below W.heap.size W w') := fun W hW => by
    refine (r_Floor W r _ _ _ (hr.below hW) (Nat.le_trans k9.1 (by omega)) (Nat.le_trans k9.2 (by omega)) hq0).mono ?_
    rintro e w' ⟨u, rfl, hu, hb⟩
    refine ⟨u, rfl, ?_, hb⟩
    unfold RefV
    rw [e1, e2] at hu
    rw [← e3]
    exact hu
  have kf := ratW_floor k
  have kf9 : RefW ((q.floor : Int) : Rat) 90001 := by
    constructor
    · rw [← e2]
      have h1 := nw_mono9 (floor_natAbs_le q)
      have h2 := nw_add9 q.num.natAbs 1 90000 k9.1 (by rw [nw_one9 1 (by omega) (by decide)]; omega)
      exact Nat.le_trans h1 h2
    · rw [← e3, nw_one9 1 (by omega) (by decide)]; omega
  have HFt : Hid (∀ W u, Below w.heap.size w W → RatV W u ((q.floor : Int) : Rat) → Calls Tryz.prog 21 #[u] W fun e w' => e = .returned (.string ⟨(txt ((q.floor : Int) : Rat)).toArray⟩) ∧ Below W.heap.size W w') :=
    fun W u hW hu => v_Text W u _ hu (kf.mono (by omega)) (htab.below hW)
  have HFu : Hid (∀ W u, Below w.heap.size w W → RefV W u ((q.floor : Int) : Rat) → Calls Tryz.prog 47 #[u] W fun e w' => e = .returned (.string ⟨(txt ((q.floor : Int) : Rat)).toArray⟩) ∧ Below W.heap.size W w') :=
    fun W u _ hu => r_Text W u _ _ _ hu (Nat.le_trans kf9.1 (by omega)) (Nat.le_trans kf9.2 (by omega))
  have HVx : Hid (∀ W, Below w.heap.size w W → Calls Tryz.prog 52 #[x] W fun e w' => e = .returned (V (valK q) (valN q) (valD q) noS) ∧ Below W.heap.size W w') :=
    fun W hW => v_Value W x q (hx.below hW)
  have HVr : Hid (∀ W, Below w.heap.size w W → Calls Tryz.prog 53 #[r] W fun e w' => e = .returned (V (valK q) (valN q) (valD q) noS) ∧ Below W.heap.size W w') :=
    fun W hW => r_Value W r q (hr.below hW)
  obtain ⟨px, rfl⟩ : ∃ b, x = .pointer (some ⟨b, 0, none⟩) := by
    obtain ⟨b, nv, dv, e, _⟩ := hx
    exact ⟨b, e⟩
  obtain ⟨ru, rv, rfl, hru, hrv⟩ := hr
  obtain ⟨A, c, rfl⟩ := hru.sl
  obtain ⟨A', c', rfl⟩ := hrv.sl
  clear hru hrv hx kf kf9 e1 e2 e3 k k9 htab HB hq0
  generalize decide (q.num < 0) = s at *
  generalize (⟨(txt q).toArray⟩ : ByteArray) = T at *
  generalize (⟨(txt ((q.floor : Int) : Rat)).toArray⟩ : ByteArray) = TF at *
  generalize signN s q.num.natAbs = sg at *
  generalize halves q.num.natAbs = ln at *
  generalize halves q.den = ld at *
  generalize isOneB q.den = wh at *
  generalize valK q = vk at *
  generalize valN q = vn at *
  generalize valD q = vd at *
  generalize q.num.natAbs = n at *
  generalize q.den = d at *
  generalize nw9 n = m at *
  generalize nw9 d = m' at *
  obtain ⟨W0, hW0, hB0, hz0, K⟩ := ref_box w s (.slice A m c) (.slice A' m' c')
  have HB0 := Lib.hid hB0
  clear hB0
  go_enter Tryz.func9, Tryz.ntmps9
  go_wp2_with fail
  have B0d : Below W0.heap.size W0 W0.drew := Below.drew (Below.refl _ _)
  go_region_held3 (fun w' => w'.cell? ⟨w.heap.size, 0, none⟩ = some (.bool s) ∧ w'.cell? ⟨w.heap.size, 1, none⟩ = some (.slice A m c) ∧ w'.cell? ⟨w.heap.size, 2, none⟩ = some (.slice A' m' c'))
    (first | exact K.out _ B2 | exact K.out _ B1 | exact K.out _ B0d | exact K.out _ (Below.refl _ _))
    (first
      | (go_at_call 21; refine (HTx.out _ (btr HB0.out B0d)).mono ?_; rintro e w1 ⟨rfl, hb1⟩; have B1 : Below W0.heap.size W0 w1 := btr B0d hb1)
      | (go_at_call 47; refine (HTr.out _ (btr HB0.out B1)).mono ?_; rintro e w2 ⟨rfl, hb2⟩; have B2 : Below W0.heap.size W0 w2 := btr B1 hb2))
  all_goals
    have HB2 := Lib.hid B2
    clear hb1 B1 hb2 B2
    go_wp2_with fail
    refine (HBx.out _ (btr HB0.out HB2.out)).mono ?_
    rintro e w3 ⟨rfl, hb3⟩
    have HB3 := Lib.hid (btr HB2.out hb3)
    obtain ⟨k30, k31, k32⟩ := K.out _ HB3.out
    clear hb3
    go_wp2_with fail
    refine (HBr.out _ (btr HB0.out HB3.out)).mono ?_
    rintro e w4 ⟨rfl, hb4⟩
    have HB4 := Lib.hid (btr HB3.out hb4)
    clear hb4 k30 k31 k32
    go_wp2_with fail
    have B4d : Below w4.heap.size w4 w4.drew := Below.drew (Below.refl _ _)
    have HM : Hid (∀ W, Below w4.heap.size w4 W → Below w.heap.size w W) := fun W h => btr HB0.out (btr HB4.out h)
    have HKM : Hid (∀ W, Below w4.heap.size w4 W → W.cell? ⟨w.heap.size, 0, none⟩ = some (.bool s) ∧ W.cell? ⟨w.heap.size, 1, none⟩ = some (.slice A m c) ∧ W.cell? ⟨w.heap.size, 2, none⟩ = some (.slice A' m' c')) := fun W h => K.out W (btr HB4.out h)
    go_region_held3 (fun w' => w'.cell? ⟨w.heap.size, 0, none⟩ = some (.bool s) ∧ w'.cell? ⟨w.heap.size, 1, none⟩ = some (.slice A m c) ∧ w'.cell? ⟨w.heap.size, 2, none⟩ = some (.slice A' m' c'))
      (first | exact HKM.out _ C8 | exact HKM.out _ C7 | exact HKM.out _ C6 | exact HKM.out _ C5 | exact HKM.out _ C4 | exact HKM.out _ C3 | exact HKM.out _ C2 | exact HKM.out _ C1 | exact HKM.out _ B4d | exact HKM.out _ (Below.refl _ _))
      (first
        | (go_at_call 29; refine (HSx.out _ (HM.out _ B4d)).mono ?_; rintro e w5 ⟨rfl, rfl⟩)
        | (go_at_call 49; refine (HSr.out _ (HM.out _ B4d)).mono ?_; rintro e w6 ⟨rfl, hb6⟩; have C1 : Below w4.heap.size w4 w6 := btr B4d hb6)
        | (go_at_call 30; refine (HWx.out _ (HM.out _ C1)).mono ?_; rintro e w7 ⟨rfl, rfl⟩)
        | (go_at_call 50; refine (HWr.out _ (HM.out _ C1)).mono ?_; rintro e w8 ⟨rfl, hb8⟩; have C2 : Below w4.heap.size w4 w8 := btr C1 hb8)
        | (go_at_call 27; refine (HFx.out _ (HM.out _ C2)).mono ?_; rintro e w9 ⟨fx, rfl, hfx, hb9⟩; have C3 : Below w4.heap.size w4 w9 := btr C2 hb9)
        | (go_at_call 21; refine (HFt.out _ fx (HM.out _ C3) hfx).mono ?_; rintro e w10 ⟨rfl, hb10⟩; have C4 : Below w4.heap.size w4 w10 := btr C3 hb10)
        | (go_at_call 51; refine (HFr.out _ (HM.out _ C4)).mono ?_; rintro e w11 ⟨fr, rfl, hfr, hb11⟩; have C5 : Below w4.heap.size w4 w11 := btr C4 hb11)
        | (go_at_call 47; refine (HFu.out _ fr (HM.out _ C5) hfr).mono ?_; rintro e w12 ⟨rfl, hb12⟩; have C6 : Below w4.heap.size w4 w12 := btr C5 hb12)
        | (go_at_call 52; refine (HVx.out _ (HM.out _ C6)).mono ?_; rintro e w13 ⟨rfl, hb13⟩; have C7 : Below w4.heap.size w4 w13 := btr C6 hb13)
        | (go_at_call 53; refine (HVr.out _ (HM.out _ C7)).mono ?_; rintro e w14 ⟨rfl, hb14⟩; have C8 : Below w4.heap.size w4 w14 := btr C7 hb14))
    all_goals
      have hF := HM.out _ C8
      go_wp2
      go_ret
      exact ⟨rfl, hF⟩
end Go.Proofs.YthcpcaoapkmchaaGreatDoor
end

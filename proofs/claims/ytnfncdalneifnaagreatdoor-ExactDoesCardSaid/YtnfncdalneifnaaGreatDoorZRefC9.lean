/- The reference's rational numbers: the integer below one. -/
import Derived.Test.YtnfncdalneifnaaGreatDoorZRef9
import Derived.Test.YtnfncdalneifnaaGreatDoorZFloor
import Derived.Test.YtnfncdalneifnaaGreatDoorZPlus9
import Derived.Test.YtnfncdalneifnaaGreatDoorZRdV
import Derived.Test.YtnfncdalneifnaaGreatDoorZDo

/- The reference's rational numbers: the integer below one. -/
section
namespace Go.Proofs.YtnfncdalneifnaaGreatDoor
open Go.RowKit Go.Deep

set_option maxHeartbeats 4000000 in
theorem r_Floor (w : World) (r : Value) (s : Bool) (n d : Nat) (h : Ref w r s n d) (hn : nw9 n ≤ 100000) (hd : nw9 d ≤ 100000) (hd0 : 0 < d) :
    Calls Tryz.prog 35 #[r] w (RefRet (sgn s (floorN s n d)) (floorN s n d) 1 w) := by
  obtain ⟨u, v, rfl, hu, hv⟩ := h
  have HO := Lib.hid (fun W (hW : Below w.heap.size w W) => r_over W u v n d (hu.below hW) (hv.below hW) (by omega) (by omega) hd0)
  obtain ⟨A, c, rfl⟩ := hu.sl
  obtain ⟨A', c', rfl⟩ := hv.sl
  obtain ⟨W0, hW0, hB0, hz0, K⟩ := ref_box w s (.slice A (nw9 n) c) (.slice A' (nw9 d) c')
  obtain ⟨W1, hW1, hB1, hz1, KR⟩ := zero_box W0
  have HB0 := Lib.hid hB0
  have HB1 := Lib.hid hB1
  have k1 := (K.out W1 hB1).2.1
  have k2 := (K.out W1 hB1).2.2
  rw [hz0] at hz1
  clear hB0 hB1 hu hv
  have HF : Hid (floorN s n d = if s = true ∧ n % d ≠ 0 then n / d + 1 else n / d) := rfl
  generalize hff : floorN s n d = F at *
  have HFF := Lib.hid hff
  clear hff
  have HSf : Hid (∀ x, sgn false x = false) := fun _ => rfl
  have HSt : Hid (∀ x, decide (0 < nw9 x) = sgn true x) := fun x => by
    show _ = (true && decide (0 < x))
    rw [Bool.true_and, decide_eq_decide]; exact nw_pos9 x
  go_enter Tryz.func35, Tryz.ntmps35
  go_wp2_with fail
  refine (HO.out W1 (btr HB0.out HB1.out)).mono ?_
  rintro e w2 ⟨q, r, rfl, hq, hr, hb2⟩
  have HB2 := Lib.hid (btr HB1.out hb2)
  have HQ := Lib.hid hq
  obtain ⟨A2, c2, rfl⟩ := hq.sl
  obtain ⟨A3, c3, rfl⟩ := hr.sl
  have q0 := (K.out w2 HB2.out).1
  have HR2 := Lib.hid hb2
  have HB2r := Lib.hid hb2
  have hqn : nw9 (n / d) ≤ 100000 := Nat.le_trans (nw_mono9 (Nat.div_le_self _ _)) hn
  have hz := nw_pos9 (n % d)
  have hmm : (s = true ∧ n % d ≠ 0) ∨ (s = true ∧ nw9 (n % d) = 0 ∧ n % d = 0) ∨ s = false := by
    cases s
    · exact .inr (.inr rfl)
    · by_cases h9 : n % d = 0
      · exact .inr (.inl ⟨rfl, by rw [h9, nw_zero9], h9⟩)
      · exact .inl ⟨rfl, h9⟩
  clear hq hr hb2 k1 k2 HO
  rcases hmm with ⟨rfl, h9⟩ | ⟨rfl, h8, h9⟩ | rfl
  · have hp : 0 < nw9 (n % d) := hz.2 (by omega)
    have hFF : F = n / d + 1 := by rw [HF.out, if_pos ⟨rfl, h9⟩]
    clear hz h9 HF
    generalize nw9 (n % d) = m at *
    go_wp2_with fail
    refine (r_one w2).mono ?_
    rintro e w3 ⟨o, rfl, ho, hb3⟩
    have HPl := Lib.hid (r_plus w3 _ o (n / d) 1 (HQ.out.below hb3) ho (by omega) (by rw [nw_one9 1 (by omega) (by decide)]; omega))
    have HB3 := Lib.hid (btr HB2.out hb3)
    have HB3r := Lib.hid (btr HR2.out hb3)
    clear ho hb3
    go_wp2_with fail
    refine HPl.out.mono ?_
    rintro e w4 ⟨qq, rfl, hqq, hb4⟩
    have HB4 := Lib.hid (btr HB3.out hb4)
    have HB4r := Lib.hid (btr HB3r.out hb4)
    rw [← hFF] at hqq
    have HQQ := Lib.hid hqq
    obtain ⟨A4, c4, rfl⟩ := hqq.sl
    clear hqq hb4 HPl hFF
    have k0 := (K.out w4 HB4.out).1
    go_wp2_with fail
    refine (r_one w4).mono ?_
    rintro e w5 ⟨o5, rfl, ho5, hb5⟩
    have HB5 := Lib.hid (btr HB4.out hb5)
    have HB5r := Lib.hid (btr HB4r.out hb5)
    have HO5 := Lib.hid ho5
    have HQ5 := Lib.hid (HQQ.out.below hb5)
    obtain ⟨A5, c5, rfl⟩ := ho5.sl
    have hcell := KR.out w5 HB5r.out
    have HCell := Lib.hid hcell
    rw [hz0] at hcell
    clear ho5 hb5 k0
    go_wp2_with (refine wpList_store_row 64 _ _ rfl rfl rfl (w.heap.size + 1) 64 rfl [.bool (decide (0 < nw9 F)), .slice A4 (nw9 F) c4, .slice A5 (nw9 1) c5] rfl _ hcell rfl info_ref (ref_one _ _ _ _ _ _ _) ?_; intro wz hhz hgz hzz; have HGz := Lib.hid hgz; have HZz := Lib.hid hzz; clear hzz hgz hcell)
    have hno := ref_noint HCell.out
    have hG := HGz.out
    rw [← hz0] at hG
    have hBf := btr HB0.out HB5.out
    exact bodyPost_ret (v := .agg #[.bool (decide (0 < nw9 F)), .slice A4 (nw9 F) c4, .slice A5 (nw9 1) c5]) (results_cell_row Tryz.results35 _ _ (w.heap.size + 1) 64 _ (0, 0) _ rfl hhz Tryz.underlying64 rfl (by rw [info_ref]; rfl)) rfl
      ⟨_, rfl, ⟨_, _, by rw [HSt.out], HQ5.out.apart hno hG, HO5.out.apart hno hG⟩, hBf.grown hG hBf.size (fun j hj => by injection hj with hj; omega)⟩
  · have hFF : F = n / d := by rw [HF.out, if_neg (fun h => h.2 h9)]
    clear hz h9 HF
    rw [h8]
    clear h8
    rw [← hFF] at HQ ⊢
    clear hFF
    have k0 := (K.out w2 HB2.out).1
    go_wp2_with fail
    refine (r_one w2).mono ?_
    rintro e w5 ⟨o5, rfl, ho5, hb5⟩
    have HB5 := Lib.hid (btr HB2.out hb5)
    have HB5r := Lib.hid (btr HB2r.out hb5)
    have HO5 := Lib.hid ho5
    have HQ5 := Lib.hid (HQ.out.below hb5)
    obtain ⟨A5, c5, rfl⟩ := ho5.sl
    have hcell := KR.out w5 HB5r.out
    have HCell := Lib.hid hcell
    rw [hz0] at hcell
    clear ho5 hb5 k0
    go_wp2_with (refine wpList_store_row 64 _ _ rfl rfl rfl (w.heap.size + 1) 64 rfl [.bool (decide (0 < nw9 F)), .slice A2 (nw9 F) c2, .slice A5 (nw9 1) c5] rfl _ hcell rfl info_ref (ref_one _ _ _ _ _ _ _) ?_; intro wz hhz hgz hzz; have HGz := Lib.hid hgz; have HZz := Lib.hid hzz; clear hzz hgz hcell)
    have hno := ref_noint HCell.out
    have hG := HGz.out
    rw [← hz0] at hG
    have hBf := btr HB0.out HB5.out
    exact bodyPost_ret (v := .agg #[.bool (decide (0 < nw9 F)), .slice A2 (nw9 F) c2, .slice A5 (nw9 1) c5]) (results_cell_row Tryz.results35 _ _ (w.heap.size + 1) 64 _ (0, 0) _ rfl hhz Tryz.underlying64 rfl (by rw [info_ref]; rfl)) rfl
      ⟨_, rfl, ⟨_, _, by rw [HSt.out], HQ5.out.apart hno hG, HO5.out.apart hno hG⟩, hBf.grown hG hBf.size (fun j hj => by injection hj with hj; omega)⟩
  · have hFF : F = n / d := by rw [HF.out, if_neg (fun h => by cases h.1)]
    clear hz HF
    rw [← hFF] at HQ ⊢
    clear hFF
    have k0 := (K.out w2 HB2.out).1
    go_wp2_with fail
    refine (r_one w2).mono ?_
    rintro e w5 ⟨o5, rfl, ho5, hb5⟩
    have HB5 := Lib.hid (btr HB2.out hb5)
    have HB5r := Lib.hid (btr HB2r.out hb5)
    have HO5 := Lib.hid ho5
    have HQ5 := Lib.hid (HQ.out.below hb5)
    obtain ⟨A5, c5, rfl⟩ := ho5.sl
    have hcell := KR.out w5 HB5r.out
    have HCell := Lib.hid hcell
    rw [hz0] at hcell
    clear ho5 hb5 k0
    go_wp2_with (refine wpList_store_row 64 _ _ rfl rfl rfl (w.heap.size + 1) 64 rfl [.bool false, .slice A2 (nw9 F) c2, .slice A5 (nw9 1) c5] rfl _ hcell rfl info_ref (ref_one _ _ _ _ _ _ _) ?_; intro wz hhz hgz hzz; have HGz := Lib.hid hgz; have HZz := Lib.hid hzz; clear hzz hgz hcell)
    have hno := ref_noint HCell.out
    have hG := HGz.out
    rw [← hz0] at hG
    have hBf := btr HB0.out HB5.out
    exact bodyPost_ret (v := .agg #[.bool false, .slice A2 (nw9 F) c2, .slice A5 (nw9 1) c5]) (results_cell_row Tryz.results35 _ _ (w.heap.size + 1) 64 _ (0, 0) _ rfl hhz Tryz.underlying64 rfl (by rw [info_ref]; rfl)) rfl
      ⟨_, rfl, ⟨_, _, by rw [HSf.out], HQ5.out.apart hno hG, HO5.out.apart hno hG⟩, hBf.grown hG hBf.size (fun j hj => by injection hj with hj; omega)⟩
end Go.Proofs.YtnfncdalneifnaaGreatDoor
end

/- The reference's rational numbers: the value of one. -/
section
namespace Go.Proofs.YtnfncdalneifnaaGreatDoor
open Go.RowKit Go.Deep

theorem r_max (w : World) : Calls Tryz.prog 68 #[.int .u64 1099511627776] w (Nat9 1099511627776 w) := r_natural w 1099511627776 (by decide)

set_option maxHeartbeats 2000000 in
theorem r_word_big (w : World) (v : Value) (n : Nat) (h : N9At w v n) (hb : 1099511627776 < n) :
    Calls Tryz.prog 71 #[v] w fun e w' => e = .returned (.tuple #[.int .i64 0, .bool false]) ∧ Below w.heap.size w w' := by
  have HV := Lib.hid h
  obtain ⟨A, c, rfl⟩ := h.sl
  have HC := Lib.hid (cmpN_pos n 1099511627776 hb)
  clear hb h
  go_enter Tryz.func71, Tryz.ntmps71
  go_wp2_with fail
  refine (r_max w).mono ?_
  rintro e w1 ⟨o, rfl, ho, hb1⟩
  have HB1 := Lib.hid hb1
  have HCm := Lib.hid (r_cmpN w1 _ o n 1099511627776 (HV.out.below hb1) ho)
  clear ho hb1
  have hcz := HC.out
  generalize cmpN n 1099511627776 = cc at *
  have hc0 : 0 < cc := by omega
  go_wp2_with fail
  refine HCm.out.mono ?_
  rintro e w2 ⟨rfl, nd, rfl⟩
  go_wp2
  go_ret2
  exact ⟨rfl, below_drewN HB1.out nd⟩

set_option maxHeartbeats 2000000 in
theorem r_word_small (w : World) (v : Value) (n : Nat) (h : N9At w v n) (hb : n ≤ 1099511627776) :
    Calls Tryz.prog 71 #[v] w fun e w' => e = .returned (.tuple #[.int .i64 (n : Int), .bool true]) ∧ Below w.heap.size w w' := by
  have HV := Lib.hid h
  obtain ⟨A, c, rfl⟩ := h.sl
  have HC := Lib.hid (cmpN_le n 1099511627776 hb)
  have hx : n < B9 ^ 2 := by unfold B9; omega
  have HX : Hid (dig9 n 0 + 1000000000 * dig9 n 1 = n) := by
    show _ = _
    have h1 := vl_dig_lt9 n 2 hx
    simp only [vl9] at h1
    unfold B9 at h1
    omega
  have hd0 := dig_lt9 n 0
  have hd1 := dig_lt9 n 1
  have HBn := Lib.hid hb
  clear hb h hx
  go_enter Tryz.func71, Tryz.ntmps71
  go_wp2_with fail
  refine (r_max w).mono ?_
  rintro e w1 ⟨o, rfl, ho, hb1⟩
  have HB1 := Lib.hid hb1
  have HCm := Lib.hid (r_cmpN w1 _ o n 1099511627776 (HV.out.below hb1) ho)
  have HV1 := Lib.hid (HV.out.below hb1)
  clear ho hb1
  have hcz := HC.out
  generalize cmpN n 1099511627776 = cc at *
  have hc0 : ¬ 0 < cc := by omega
  go_wp2_with fail
  refine HCm.out.mono ?_
  rintro e w2 ⟨rfl, nd, rfl⟩
  have HD0 := Lib.hid (r_digitN (w1.drewN nd) _ 0 n (HV1.out.drewN nd))
  have HD1 := Lib.hid (r_digitN (w1.drewN nd) _ 1 n (HV1.out.drewN nd))
  unfold B9 at hd0 hd1
  generalize dig9 n 0 = a at *
  generalize dig9 n 1 = b at *
  go_wp2_with fail
  refine HD0.out.mono ?_
  rintro e w' ⟨rfl, rfl⟩
  go_wp2_with fail
  refine HD1.out.mono ?_
  rintro e w' ⟨rfl, rfl⟩
  go_wp2
  go_ret2
  exact ⟨by
    have h1 := HX.out
    have h2 := HBn.out
    have e1 : ∀ z : Int, z = (n : Int) → Ending.returned (.tuple #[.int .i64 z, .bool true]) = Ending.returned (.tuple #[.int .i64 (n : Int), .bool true]) := fun z hz => by rw [hz]
    refine e1 _ ?_
    first | omega | (simp only [IntKind.wrap_i64]; omega) | (simp only [IntKind.wrap_u64, IntKind.wrap_i64]; omega), below_drewN HB1.out nd⟩

def RefV (w : World) (r : Value) (q : Rat) : Prop := Ref w r (decide (q.num < 0)) q.num.natAbs q.den
theorem RefV.below {w w' : World} {r : Value} {q : Rat} (h : RefV w r q) (hb : Below w.heap.size w w') : RefV w' r q := Ref.below h hb

set_option maxHeartbeats 400000 in
theorem r_Missing (w : World) : Calls Tryz.prog 72 #[.int .i64 2] w fun e w' => e = .returned (V 0 2 0 noS) ∧ Below w.heap.size w w' := by
  go_enter Tryz.func72, Tryz.ntmps72
  go_wp2
  exact bodyPost_ret (v := V 0 2 0 noS) (by simp [results, Tryz.results72, go_sem]) rfl ⟨rfl, (Below.refl _ _).alloc (Nat.le_refl _) _⟩

set_option maxHeartbeats 4000000 in
theorem r_Value (w : World) (r : Value) (q : Rat) (h : RefV w r q) :
    Calls Tryz.prog 33 #[r] w fun e w' => e = .returned (V (valK q) (valN q) (valD q) noS) ∧ Below w.heap.size w w' := by
  obtain ⟨u, v, rfl, hu, hv⟩ := h
  have HU := Lib.hid hu
  have HV := Lib.hid hv
  obtain ⟨A, c, rfl⟩ := hu.sl
  obtain ⟨A', c', rfl⟩ := hv.sl
  generalize hs : decide (q.num < 0) = s at *
  have HS := Lib.hid hs
  obtain ⟨W0, hW0, hB0, hz0, K⟩ := ref_box w s (.slice A (nw9 q.num.natAbs) c) (.slice A' (nw9 q.den) c')
  obtain ⟨W1, hW1, hB1, hz1, KR⟩ := valz_box W0
  have HB0 := Lib.hid hB0
  have HB1 := Lib.hid hB1
  have k1 := (K.out W1 hB1).2.1
  rw [hz0] at hz1
  clear hB0 hB1 hs
  generalize hgn : q.num.natAbs = n at *
  have HGn := Lib.hid hgn
  generalize hgd : q.den = d at *
  have HGd := Lib.hid hgd
  clear hgn hgd
  have HWn : Hid (n ≤ 1099511627776 → ∀ W, Below w.heap.size w W → Calls Tryz.prog 71 #[.slice A (nw9 n) c] W fun e w' => e = .returned (.tuple #[.int .i64 (n : Int), .bool true]) ∧ Below W.heap.size W w') := fun hn W hW => r_word_small W _ _ (hu.below hW) hn
  have HWn' : Hid (1099511627776 < n → ∀ W, Below w.heap.size w W → Calls Tryz.prog 71 #[.slice A (nw9 n) c] W fun e w' => e = .returned (.tuple #[.int .i64 0, .bool false]) ∧ Below W.heap.size W w') := fun hn W hW => r_word_big W _ _ (hu.below hW) hn
  have HWd : Hid (d ≤ 1099511627776 → ∀ W, Below w.heap.size w W → Calls Tryz.prog 71 #[.slice A' (nw9 d) c'] W fun e w' => e = .returned (.tuple #[.int .i64 (d : Int), .bool true]) ∧ Below W.heap.size W w') := fun hn W hW => r_word_small W _ _ (hv.below hW) hn
  have HWd' : Hid (1099511627776 < d → ∀ W, Below w.heap.size w W → Calls Tryz.prog 71 #[.slice A' (nw9 d) c'] W fun e w' => e = .returned (.tuple #[.int .i64 0, .bool false]) ∧ Below W.heap.size W w') := fun hn W hW => r_word_big W _ _ (hv.below hW) hn
  clear hu hv
  by_cases hsm : n ≤ 1099511627776 ∧ d ≤ 1099511627776
  · obtain ⟨hn, hd⟩ := hsm
    have hSm : Small q := ⟨by rw [HGn.out]; exact hn, by rw [HGd.out]; exact hd⟩
    have HRes : Hid (V (valK q) (valN q) (valD q) noS = V 2 q.num (d : Int) noS) := by show _ = _; unfold valK valN valD; rw [if_pos hSm, if_pos hSm, if_pos hSm, HGd.out]
    clear hSm
    go_enter Tryz.func33, Tryz.ntmps33
    go_wp2_with fail
    refine (HWn.out hn W1 (btr HB0.out HB1.out)).mono ?_
    rintro e w2 ⟨rfl, hb2⟩
    have HB2 := Lib.hid (btr HB1.out hb2)
    have HB2r := Lib.hid hb2
    have k2 := (K.out w2 HB2.out).2.2
    clear hb2 k1
    go_wp2_with fail
    refine (HWd.out hd w2 (btr HB0.out HB2.out)).mono ?_
    rintro e w3 ⟨rfl, hb3⟩
    have HB3 := Lib.hid (btr HB2.out hb3)
    have HB3r := Lib.hid (btr HB2r.out hb3)
    have k0 := (K.out w3 HB3.out).1
    have hcell := KR.out w3 HB3r.out
    rw [hz0] at hcell
    clear hb3 k2
    have hBf := btr HB0.out HB3.out
    cases s
    · have HNm : Hid (q.num = (n : Int)) := by have h1 := HS.out; have h2 := HGn.out; have h3 := of_decide_eq_false h1; show _ = _; omega
      go_wp2_with (refine wpList_store_row 25 _ _ rfl rfl rfl (w.heap.size + 1) 25 rfl [.int .i64 2, .int .i64 (n : Int), .int .i64 (d : Int), .string noS] rfl _ hcell rfl info_val (val_one _ _ _ _) ?_; intro wz hhz hgz hzz; have HGz := Lib.hid hgz; have HZz := Lib.hid hzz; clear hzz hgz hcell)
      rw [HNm.out] at HRes
      exact bodyPost_ret (v := V 2 (n : Int) (d : Int) noS) (results_cell_row Tryz.results33 _ _ (w.heap.size + 1) 25 _ (0, 0) _ rfl hhz Tryz.underlying25 rfl (by rw [info_val]; rfl)) rfl ⟨by rw [HRes.out], hBf.grown HGz.out hBf.size (fun j hj => by injection hj with hj; omega)⟩
    · have HNm : Hid (q.num = -(n : Int)) := by have h1 := HS.out; have h2 := HGn.out; have h3 := of_decide_eq_true h1; show _ = _; omega
      go_wp2_with (refine wpList_store_row 25 _ _ rfl rfl rfl (w.heap.size + 1) 25 rfl [.int .i64 2, .int .i64 (-(n : Int)), .int .i64 (d : Int), .string noS] rfl _ hcell rfl info_val (val_one _ _ _ _) ?_; intro wz hhz hgz hzz; have HGz := Lib.hid hgz; have HZz := Lib.hid hzz; clear hzz hgz hcell)
      rw [HNm.out] at HRes
      exact bodyPost_ret (v := V 2 (-(n : Int)) (d : Int) noS) (results_cell_row Tryz.results33 _ _ (w.heap.size + 1) 25 _ (0, 0) _ rfl hhz Tryz.underlying25 rfl (by rw [info_val]; rfl)) rfl ⟨by rw [HRes.out], hBf.grown HGz.out hBf.size (fun j hj => by injection hj with hj; omega)⟩
  · have hSm : ¬ Small q := fun h => hsm ⟨by have := h.1; rw [HGn.out] at this; exact this, by have := h.2; rw [HGd.out] at this; exact this⟩
    have HRes : Hid (V (valK q) (valN q) (valD q) noS = V 0 2 0 noS) := by show _ = _; unfold valK valN valD; rw [if_neg hSm, if_neg hSm, if_neg hSm]
    clear hSm
    have h3 : (n ≤ 1099511627776 ∧ 1099511627776 < d) ∨ (1099511627776 < n ∧ d ≤ 1099511627776) ∨ (1099511627776 < n ∧ 1099511627776 < d) := by omega
    clear hsm
    rcases h3 with ⟨hn, hd⟩ | ⟨hn, hd⟩ | ⟨hn, hd⟩
    all_goals
      go_enter Tryz.func33, Tryz.ntmps33
      go_wp2_with fail
      first | refine (HWn.out hn W1 (btr HB0.out HB1.out)).mono ?_ | refine (HWn'.out hn W1 (btr HB0.out HB1.out)).mono ?_
      rintro e w2 ⟨rfl, hb2⟩
      have HB2 := Lib.hid (btr HB1.out hb2)
      have HB2r := Lib.hid hb2
      have k2 := (K.out w2 HB2.out).2.2
      clear hb2 k1
      go_wp2_with fail
      first | refine (HWd.out hd w2 (btr HB0.out HB2.out)).mono ?_ | refine (HWd'.out hd w2 (btr HB0.out HB2.out)).mono ?_
      rintro e w3 ⟨rfl, hb3⟩
      have HB3 := Lib.hid (btr HB2.out hb3)
      have HB3r := Lib.hid (btr HB2r.out hb3)
      clear hb3 k2
      go_wp2_with fail
      refine (r_Missing w3).mono ?_
      rintro e w4 ⟨rfl, hb4⟩
      have HB4 := Lib.hid (btr HB3.out hb4)
      have HB4r := Lib.hid (btr HB3r.out hb4)
      have hcell := KR.out w4 HB4r.out
      rw [hz0] at hcell
      clear hb4
      have hBf := btr HB0.out HB4.out
      go_wp2_with (refine wpList_store_row 25 _ _ rfl rfl rfl (w.heap.size + 1) 25 rfl [.int .i64 0, .int .i64 2, .int .i64 0, .string noS] rfl _ hcell rfl info_val (val_one _ _ _ _) ?_; intro wz hhz hgz hzz; have HGz := Lib.hid hgz; have HZz := Lib.hid hzz; clear hzz hgz hcell)
      exact bodyPost_ret (v := V 0 2 0 noS) (results_cell_row Tryz.results33 _ _ (w.heap.size + 1) 25 _ (0, 0) _ rfl hhz Tryz.underlying25 rfl (by rw [info_val]; rfl)) rfl ⟨by rw [HRes.out], hBf.grown HGz.out hBf.size (fun j hj => by injection hj with hj; omega)⟩
/-- How many digits of the reference a number has at most. -/
def RefW (q : Rat) (k : Nat) : Prop := nw9 q.num.natAbs ≤ k ∧ nw9 q.den ≤ k
end Go.Proofs.YtnfncdalneifnaaGreatDoor
end

/- Print, of an array without an error. -/
import Derived.Test.YtmhggphkhabjlaaGreatDoorZPrA
namespace Go.Proofs.YtmhggphkhabjlaaGreatDoor
open Go Go.RowKit Go.Deep

set_option maxRecDepth 100000 in
set_option maxHeartbeats 8000000 in
theorem s_Print (w : World) (A B C : Option Addr) (n cap m bcap N ccap : Nat) (nm : Nat → ByteArray) (lo hi : Nat → Int) (an : Nat → ByteArray) (ty : Nat → Int) (ln vl : Nat → Nat) (x vk vn vd : Nat → Nat → Int) (vs : Nat → Nat → ByteArray) (ml : Int)
    (hd : DimsAt w A n nm lo hi) (ha : AttrsAt w B m an ty) (hc : CellsAt w C N ln vl x vk vn vd vs) (hn : n ≤ 1000) (hm : m ≤ 1000) (hN : N ≤ 10000) (htab : Tab w) (htt : TyTab w) (hml : w.cell? ⟨6, 0, none⟩ = some (.int .i64 ml))
    (hdr : ∀ k, k < n → (nm k).size ≤ 1000 ∧ (-9223372036854775808 ≤ lo k ∧ lo k ≤ 9223372036854775807) ∧ -9223372036854775808 ≤ hi k ∧ hi k ≤ 9223372036854775807)
    (har : ∀ k, k < m → (an k).size ≤ 1000 ∧ 1 ≤ ty k ∧ ty k ≤ 4)
    (hcr : ∀ k, k < N → ln k ≤ 10 ∧ vl k ≤ 9 ∧ (∀ j, j < ln k → -9223372036854775808 ≤ x k j ∧ x k j ≤ 9223372036854775807) ∧ ∀ j, j < vl k → (prnV (vk k j) (vn k j) (vd k j) (vs k j)).size ≤ 1000)
    (hck : checkE nm lo hi n an ty m N ln vl x vk vn vd vs = 0) :
    Calls Tryz.prog 45 #[ArrV A n cap B m bcap C N ccap] w fun e w' => e = .returned (.tuple #[.string ⟨(dimsT nm lo hi n ++ attrsT an ty m ++ rowsT ln vl x vk vn vd vs N).toArray⟩, .int .i64 0]) ∧ Below w.heap.size w w' := by
  have KB := Lib.hid (arr_box w (.slice A n cap) (.slice B m bcap) (.slice C N ccap) 74)
  have HB : Hid (Below w.heap.size w (w.alloc (.cells #[.slice A n cap, .slice B m bcap, .slice C N ccap] 74))) := (Below.refl _ _).alloc (Nat.le_refl _) _
  have hz0 : (w.alloc (.cells #[.slice A n cap, .slice B m bcap, .slice C N ccap] 74)).heap.size = w.heap.size + 1 := by simp
  have HCK : Hid (∀ W, Below w.heap.size w W → Calls Tryz.prog 47 #[ArrV A n cap B m bcap C N ccap] W fun e w' => e = .returned (.int .i64 0) ∧ Below W.heap.size W w') := fun W hW => by
    rw [← hck]
    exact s_Check W A B C n cap m bcap N ccap nm lo hi an ty ln vl x vk vn vd vs (hd.below hW) (ha.below hW) (hc.below hW) hn hm (by omega)
  have hml0 : 6 < w.heap.size := cell_lt' hml
  have htt0 : 0 < w.heap.size := cell_lt' (htt 1 (by omega) (by omega))
  have HML : Hid (∀ W, Below w.heap.size w W → W.cell? ⟨6, 0, none⟩ = some (.int .i64 ml)) := fun W hW => (hW.cell (p := ⟨6, 0, none⟩) hml0).trans hml
  have HTT : Hid (∀ W, Below w.heap.size w W → TyTab W) := fun W hW t h1 h2 => (hW.cell (p := ⟨0, t, none⟩) htt0).trans (htt t h1 h2)
  have HT : Hid (∀ W, Below w.heap.size w W → Tab W) := fun W hW => htab.below hW
  have HD := Lib.hid hd
  have HA := Lib.hid ha
  have HC := Lib.hid hc
  have HDR := Lib.hid hdr
  have HAR := Lib.hid har
  have HCR := Lib.hid hcr
  have HDL := Lib.hid (dimsT_len hdr)
  have HAL := Lib.hid (attrsT_len (ty := ty) fun k hk => (har k hk).1)
  have HRL := Lib.hid (rowsT_len (ln := ln) (vl := vl) (x := x) (vk := vk) (vn := vn) (vd := vd) (vs := vs) fun k hk => by
    obtain ⟨h1, h2, h3, h4⟩ := hcr k hk
    have a1 := atT_len h3 _ (Nat.le_refl _)
    have a2 := valsT_len h4 _ (Nat.le_refl _)
    exact ⟨by omega, by omega⟩)
  clear hd ha hc htab htt hml hdr har hcr hck
  go_enter Tryz.func45, Tryz.ntmps45
  go_wp2_with fail
  generalize w.alloc (.cells #[.slice A n cap, .slice B m bcap, .slice C N ccap] 74) = W0 at *
  obtain ⟨l0, l1, l2⟩ := KB.out W0 (Below.refl _ _)
  go_wp2_with fail
  refine (HCK.out _ HB.out).mono ?_
  rintro e w1 ⟨rfl, hb1⟩
  have HB1 : Hid (Below w.heap.size w w1) := st HB.out hb1
  have hz1 : w.heap.size < w1.heap.size := by have := hb1.size; omega
  have KB1 : Hid (∀ W, Below w1.heap.size w1 W → W.cell? ⟨w.heap.size, 0, none⟩ = some (.slice A n cap) ∧ W.cell? ⟨w.heap.size, 1, none⟩ = some (.slice B m bcap) ∧ W.cell? ⟨w.heap.size, 2, none⟩ = some (.slice C N ccap)) := fun W hW => KB.out W (hb1.trans (hW.mono hb1.size))
  clear l0 l1 l2 KB HB hb1 HCK
  obtain ⟨l0, l1, l2⟩ := KB1.out (w1.alloc (.cells #[.pointer none, .slice none 0 0] 103)) ((Below.refl _ _).alloc (Nat.le_refl _) _)
  have HI : Hid (IsB w1.heap.size w1.heap.size [] (w1.alloc (.cells #[.pointer none, .slice none 0 0] 103))) := Lib.fresh_isBuilder _ _ _
  have HBa : Hid (Below w1.heap.size w1 (w1.alloc (.cells #[.pointer none, .slice none 0 0] 103))) := (Below.refl _ _).alloc (Nat.le_refl _) _
  have hza : (w1.alloc (.cells #[.pointer none, .slice none 0 0] 103)).heap.size = w1.heap.size + 1 := by simp
  go_wp2_with fail
  generalize w1.alloc (.cells #[.pointer none, .slice none 0 0] 103) = wB at *
  generalize hb : w1.heap.size = b at *
  have HW0 : Hid (Wrote b b [] wB wB) := ⟨HI.out, Below.refl _ _, KeepB.refl _⟩
  have HDn : Hid (∀ W, Below b wB W → Below w.heap.size w W) := fun W hW => HB1.out.trans ((HBa.out.trans hW).mono (by omega))
  have KW : Hid (∀ W, Below b wB W → W.cell? ⟨w.heap.size, 0, none⟩ = some (.slice A n cap) ∧ W.cell? ⟨w.heap.size, 1, none⟩ = some (.slice B m bcap) ∧ W.cell? ⟨w.heap.size, 2, none⟩ = some (.slice C N ccap)) := fun W hW => KB1.out W (HBa.out.trans hW)
  clear l0 l1 l2 KB1 HBa
  go_loopw [6, 17] (fun _ i wr => ∃ k : Nat, k ≤ n ∧ i = .int .i64 k ∧ Hid (Wrote b b (dimsT nm lo hi k) wB wr)) (fun _ i _ => n - (intOf i).toNat)
  case atStart => exact ⟨0, Nat.zero_le _, rfl, HW0.out⟩
  case round =>
    obtain ⟨k, hk, rfl, HW⟩ := hrel
    obtain ⟨l0, l1, l2⟩ := KW.out wr HW.out.2.1
    have hsz := HW.out.2.1.size
    by_cases hlt : k < n
    · obtain ⟨bd, od, rfl, _, hcd⟩ := (HD.out.below (HDn.out wr HW.out.2.1)) (by omega)
      obtain ⟨x0, x1, x2⟩ := hcd k hlt
      clear hcd
      obtain ⟨r1, ⟨r2, r3⟩, r4, r5⟩ := HDR.out k hlt
      have hdl := HDL.out k (by omega)
      have hil := Lib.itoa_length_le (lo k) r2 r3
      have hul := upT_len r4 r5
      have HTo : Hid (∀ W, Below b wB W → Calls Tryz.prog 78 #[.int .i64 (lo k)] W fun e w' => e = .returned (.string ⟨(Lib.itoa (lo k)).toArray⟩) ∧ Below W.heap.size W w') := fun W hW => i_toa (lo k) r2 r3 W (HT.out W (HDn.out W hW))
      have HUp : Hid (∀ W, Below b wB W → Calls Tryz.prog 79 #[.int .i64 (hi k)] W fun e w' => e = .returned (.string ⟨(upT (hi k)).toArray⟩) ∧ Below W.heap.size W w') := fun W hW => s_printUpper (hi k) r4 r5 W (HT.out W (HDn.out W hW))
      have HS : Hid (dimsT nm lo hi (k + 1) = dimsT nm lo hi k ++ ([100, 105, 109, 32] ++ (nm k).data.toList ++ [32] ++ Lib.itoa (lo k) ++ [58] ++ upT (hi k) ++ [10])) := rfl
      clear r2 r3 r4 r5
      obtain ⟨c1, z1, q1, j1⟩ := joined ⟨#[100, 105, 109, 32]⟩ (nm k) _ rfl (by show 4 + _ ≤ _; omega)
      obtain ⟨c2, z2, q2, j2⟩ := joined c1 ⟨#[32]⟩ _ rfl (by rw [z1]; show 4 + _ + 1 ≤ _; omega)
      obtain ⟨c3, z3, q3, j3⟩ := joined c2 ⟨(Lib.itoa (lo k)).toArray⟩ _ rfl (by rw [z2, z1]; show 4 + _ + 1 + (Lib.itoa (lo k)).toArray.size ≤ _; rw [List.size_toArray]; omega)
      obtain ⟨c4, z4, q4, j4⟩ := joined c3 ⟨#[58]⟩ _ rfl (by rw [z3, z2, z1]; show 4 + _ + 1 + (Lib.itoa (lo k)).toArray.size + 1 ≤ _; rw [List.size_toArray]; omega)
      obtain ⟨c5, z5, q5, j5⟩ := joined c4 ⟨(upT (hi k)).toArray⟩ _ rfl (by rw [z4, z3, z2, z1]; show 4 + _ + 1 + (Lib.itoa (lo k)).toArray.size + 1 + (upT (hi k)).toArray.size ≤ _; rw [List.size_toArray, List.size_toArray]; omega)
      obtain ⟨c6, z6, q6, j6⟩ := joined c5 ⟨#[10]⟩ _ rfl (by rw [z5, z4, z3, z2, z1]; show 4 + _ + 1 + (Lib.itoa (lo k)).toArray.size + 1 + (upT (hi k)).toArray.size + 1 ≤ _; rw [List.size_toArray, List.size_toArray]; omega)
      have hz6 : c6.size ≤ 10000 := by rw [z6, z5, z4, z3, z2, z1]; show 4 + _ + 1 + (Lib.itoa (lo k)).toArray.size + 1 + (upT (hi k)).toArray.size + 1 ≤ _; rw [List.size_toArray, List.size_toArray]; omega
      have HC6 : Hid (c6.data.toList = [100, 105, 109, 32] ++ (nm k).data.toList ++ [32] ++ Lib.itoa (lo k) ++ [58] ++ upT (hi k) ++ [10]) := by show _ = _; rw [q6, q5, q4, q3, q2, q1]
      clear z1 z2 z3 z4 z5 z6 q1 q2 q3 q4 q5 q6
      generalize Lib.itoa (lo k) = tl at *
      generalize upT (hi k) = tu at *
      generalize nm k = s9 at *
      generalize lo k = l9 at *
      generalize hi k = h9 at *
      have hba : Below wr.heap.size wr (wr.alloc (.cells #[.string s9, .int .i64 l9, .int .i64 h9] 28)) := (Below.refl _ _).alloc (Nat.le_refl _) _
      have hnw := heap_alloc_new wr (.cells #[.string s9, .int .i64 l9, .int .i64 h9] 28)
      go_wp2_with fail
      generalize wr.alloc (.cells #[.string s9, .int .i64 l9, .int .i64 h9] 28) = wa at *
      have KD : Hid (∀ W, KeepB wa W → W.cell? ⟨wr.heap.size, 0, none⟩ = some (.string s9) ∧ W.cell? ⟨wr.heap.size, 1, none⟩ = some (.int .i64 l9) ∧ W.cell? ⟨wr.heap.size, 2, none⟩ = some (.int .i64 h9)) := fun W hW =>
        ⟨(hW.cell (i := 0) hnw (by decide) (by decide)).trans rfl, (hW.cell (i := 1) hnw (by decide) (by decide)).trans rfl, (hW.cell (i := 2) hnw (by decide) (by decide)).trans rfl⟩
      have HWd : Hid (Wrote b b (dimsT nm lo hi k) wB wa.drew) := (HW.out.grow hba (by omega)).grow (Below.drew (Below.refl _ _)) (by have := hba.size; omega)
      have hzr : b ≤ wa.drew.heap.size := by have := hba.size; show b ≤ wa.heap.size; omega
      have K0 : KeepB wa wa.drew := KeepB.below (Below.drew (Below.refl _ _))
      clear x0 x1 x2 hnw hba HW l0 l1 l2
      go_region_held3 (fun W => W.cell? ⟨wr.heap.size, 0, none⟩ = some (.string s9) ∧ W.cell? ⟨wr.heap.size, 1, none⟩ = some (.int .i64 l9) ∧ W.cell? ⟨wr.heap.size, 2, none⟩ = some (.int .i64 h9))
        (first | exact KD.out _ (K0.trans ((KeepB.below hb2).trans ((KeepB.below hb3).trans hw4.2.2))) | exact KD.out _ (K0.trans ((KeepB.below hb2).trans (KeepB.below hb3))) | exact KD.out _ (K0.trans (KeepB.below hb2)) | exact KD.out _ K0 | exact KD.out _ (KeepB.refl _))
        (first
          | (go_at_call 78; refine (HTo.out _ HWd.out.2.1).mono ?_; rintro e w2 ⟨rfl, hb2⟩; have HW2 := Lib.hid (HWd.out.grow hb2 hzr); have hz2 : b ≤ w2.heap.size := Nat.le_trans hzr hb2.size)
          | (go_at_call 79; refine (HUp.out _ HW2.out.2.1).mono ?_; rintro e w3 ⟨rfl, hb3⟩; have HW3 := Lib.hid (HW2.out.grow hb3 hz2); have hz3 : b ≤ w3.heap.size := Nat.le_trans hz2 hb3.size)
          | (go_at_call 77; refine (w_string b b _ c6 w3 HW3.out.1 (by omega) hz3).mono ?_; rintro e w4 ⟨rfl, hw4⟩))
      all_goals
        have HN : Hid (Wrote b b (dimsT nm lo hi (k + 1)) wB w4) := by show Wrote _ _ _ _ _; rw [HS.out, ← HC6.out]; exact HW3.out.then hw4
        go_wp2
        exact ⟨⟨k + 1, by omega, by go_num, HN⟩, by simp [intOf]; omega⟩
    · obtain rfl : k = n := by omega
      have hdl := HDL.out k (Nat.le_refl _)
      go_wp2_with fail
      clear l0 l1 l2
      go_loopw [8, 40] (fun _ i wr => ∃ j : Nat, j ≤ m ∧ i = .int .i64 j ∧ Hid (Wrote b b (dimsT nm lo hi k ++ attrsT an ty j) wB wr)) (fun _ i _ => m - (intOf i).toNat)
      case atStart => exact ⟨0, Nat.zero_le _, rfl, by show Wrote b b (_ ++ []) wB wr; rw [List.append_nil]; exact HW.out⟩
      case round =>
        clear HW hsz
        obtain ⟨j, hj, rfl, HW⟩ := hrel
        obtain ⟨l0, l1, l2⟩ := KW.out wr HW.out.2.1
        have hsz := HW.out.2.1.size
        by_cases hlt : j < m
        · obtain ⟨ba, oa, rfl, _, hca⟩ := (HA.out.below (HDn.out wr HW.out.2.1)) (by omega)
          obtain ⟨x0, x1⟩ := hca j hlt
          clear hca
          obtain ⟨r1, r2, r3⟩ := HAR.out j hlt
          have hal := HAL.out j (by omega)
          obtain ⟨tn, htn⟩ : ∃ tn : Nat, ty j = tn := ⟨(ty j).toNat, by omega⟩
          have HS : Hid (dimsT nm lo hi k ++ attrsT an ty (j + 1) = dimsT nm lo hi k ++ attrsT an ty j ++ ([97, 116, 116, 114, 32] ++ (an j).data.toList ++ [32] ++ (tyN tn).data.toList ++ [10])) := by show _ = _; rw [attrsT, attrT, htn]; simp only [List.append_assoc]; rfl
          have HTy : Hid (∀ W, Below b wB W → W.cell? ⟨0, tn, none⟩ = some (.string (tyN tn))) := fun W hW => HTT.out W (HDn.out W hW) tn (by omega) (by omega)
          have htl := tyN_len tn
          have htl2 : (tyN tn).data.toList.length = (tyN tn).size := by simp
          rw [htn] at x1
          generalize an j = s9 at *
          generalize tyN tn = ts at *
          obtain ⟨c1, z1, q1, j1⟩ := joined ⟨#[97, 116, 116, 114, 32]⟩ s9 _ rfl (by show 5 + _ ≤ _; omega)
          obtain ⟨c2, z2, q2, j2⟩ := joined c1 ⟨#[32]⟩ _ rfl (by rw [z1]; show 5 + _ + 1 ≤ _; omega)
          obtain ⟨c3, z3, q3, j3⟩ := joined c2 ts _ rfl (by rw [z2, z1]; show 5 + _ + 1 + _ ≤ _; omega)
          obtain ⟨c4, z4, q4, j4⟩ := joined c3 ⟨#[10]⟩ _ rfl (by rw [z3, z2, z1]; show 5 + _ + 1 + _ + 1 ≤ _; omega)
          have hz4 : c4.size ≤ 10000 := by rw [z4, z3, z2, z1]; show 5 + _ + 1 + _ + 1 ≤ _; omega
          have HC4 : Hid (c4.data.toList = [97, 116, 116, 114, 32] ++ s9.data.toList ++ [32] ++ ts.data.toList ++ [10]) := by show _ = _; rw [q4, q3, q2, q1]
          have htn0 : (0 : Int) ≤ (tn : Int) := by omega
          have htn5 : (tn : Int) < 5 := by omega
          have htn6 : tn < 5 := by omega
          clear z1 z2 z3 z4 q1 q2 q3 q4 r2 r3 htl htl2
          have hba : Below wr.heap.size wr (wr.alloc (.cells #[.string s9, .int .i64 tn] 66)) := (Below.refl _ _).alloc (Nat.le_refl _) _
          have hnw := heap_alloc_new wr (.cells #[.string s9, .int .i64 tn] 66)
          go_wp2_with fail
          generalize wr.alloc (.cells #[.string s9, .int .i64 tn] 66) = wa at *
          have KD : Hid (∀ W, KeepB wa W → W.cell? ⟨wr.heap.size, 0, none⟩ = some (.string s9) ∧ W.cell? ⟨wr.heap.size, 1, none⟩ = some (.int .i64 tn)) := fun W hW =>
            ⟨(hW.cell (i := 0) hnw (by decide) (by decide)).trans rfl, (hW.cell (i := 1) hnw (by decide) (by decide)).trans rfl⟩
          have HWd : Hid (Wrote b b (dimsT nm lo hi k ++ attrsT an ty j) wB wa.drew) := (HW.out.grow hba (by omega)).grow (Below.drew (Below.refl _ _)) (by have := hba.size; omega)
          have hzr : b ≤ wa.drew.heap.size := by have := hba.size; show b ≤ wa.heap.size; omega
          have K0 : KeepB wa wa.drew := KeepB.below (Below.drew (Below.refl _ _))
          have hT0 := HTy.out wa ((HW.out.grow hba (by omega)).2.1)
          clear x0 x1 hnw hba HW l0 l1 l2
          go_region_held3 (fun W => W.cell? ⟨0, tn, none⟩ = some (.string ts) ∧ W.cell? ⟨wr.heap.size, 0, none⟩ = some (.string s9) ∧ W.cell? ⟨wr.heap.size, 1, none⟩ = some (.int .i64 tn))
            (first | exact ⟨HTy.out _ (HWd.out.then hw4).2.1, KD.out _ (K0.trans hw4.2.2)⟩ | exact ⟨HTy.out _ HWd.out.2.1, KD.out _ K0⟩ | exact ⟨hT0, KD.out _ (KeepB.refl _)⟩)
            (first
              | (go_at_call 77; refine (w_string b b _ c4 wa.drew HWd.out.1 (by rw [List.length_append]; omega) hzr).mono ?_; rintro e w4 ⟨rfl, hw4⟩))
          all_goals
            have HN : Hid (Wrote b b (dimsT nm lo hi k ++ attrsT an ty (j + 1)) wB w4) := by show Wrote _ _ _ _ _; rw [HS.out, ← HC4.out]; exact HWd.out.then hw4
            go_wp2
            exact ⟨⟨j + 1, by omega, by go_num, HN⟩, by simp [intOf]; omega⟩
        · obtain rfl : j = m := by omega
          have hal := HAL.out j (Nat.le_refl _)
          go_wp2_with fail
          clear l0 l1 l2
          go_loopw [10, 59] (fun _ i wr => ∃ t : Nat, t ≤ N ∧ i = .int .i64 t ∧ Hid (Wrote b b (dimsT nm lo hi k ++ attrsT an ty j ++ rowsT ln vl x vk vn vd vs t) wB wr)) (fun _ i _ => N - (intOf i).toNat)
          case atStart => exact ⟨0, Nat.zero_le _, rfl, by show Wrote b b (_ ++ []) wB wr; rw [List.append_nil]; exact HW.out⟩
          case round =>
            clear HW hsz
            obtain ⟨t, ht, rfl, HW⟩ := hrel
            obtain ⟨l0, l1, l2⟩ := KW.out wr HW.out.2.1
            have hsz := HW.out.2.1.size
            by_cases hlt : t < N
            · obtain ⟨bc, oc, rfl, hbc, hcc⟩ := HC.out (by omega)
              obtain ⟨P, pc, Q, qc, y0, y1, y2, y3, y4⟩ := hcc t hlt
              have x0 := ((HDn.out wr HW.out.2.1).cell (p := ⟨bc, oc + t * 2, none⟩) hbc).trans y0
              have x1 := ((HDn.out wr HW.out.2.1).cell (p := ⟨bc, oc + t * 2 + 1, none⟩) hbc).trans y1
              obtain ⟨r1, r2, r3, r4⟩ := HCR.out t hlt
              have hrl := HRL.out t (by omega)
              have hba : Below wr.heap.size wr (wr.alloc (.cells #[.slice P (ln t) pc, .slice Q (vl t) qc] 112)) := (Below.refl _ _).alloc (Nat.le_refl _) _
              have HWa : Hid (Wrote b b (dimsT nm lo hi k ++ attrsT an ty j ++ rowsT ln vl x vk vn vd vs t) wB (wr.alloc (.cells #[.slice P (ln t) pc, .slice Q (vl t) qc] 112))) := HW.out.grow hba (by omega)
              have hza2 := hba.size
              have HS : Hid (dimsT nm lo hi k ++ attrsT an ty j ++ rowsT ln vl x vk vn vd vs (t + 1) = dimsT nm lo hi k ++ attrsT an ty j ++ rowsT ln vl x vk vn vd vs t ++ cellT (x t) (ln t) (vk t) (vn t) (vd t) (vs t) (vl t)) := by show _ = _; rw [rowsT]; simp only [List.append_assoc]
              have hDa : ∀ W, Below b (wr.alloc (.cells #[.slice P (ln t) pc, .slice Q (vl t) qc] 112)) W → Below w.heap.size w W := fun W hW => HDn.out W (HWa.out.2.1.trans hW)
              have HPc := Lib.hid (s_printCell (wr.alloc (.cells #[.slice P (ln t) pc, .slice Q (vl t) qc] 112)) b b _ P Q (ln t) pc (vl t) qc (x t) (vk t) (vn t) (vd t) (vs t) ml HWa.out.1 (by omega) (fun W hW => y2.below (hDa W hW)) (fun W hW => y3.below (hDa W hW)) (fun W hW => HT.out W (hDa W hW)) (fun W hW => HML.out W (hDa W hW)) (by rw [List.length_append, List.length_append]; omega) (by omega) (by omega) r3 r4)
              clear y0 y1 y2 y3 hcc r3 r4 hDa
              go_wp2_with fail
              refine HPc.out.mono ?_
              rintro e w4 ⟨rfl, hw4⟩
              have HN : Hid (Wrote b b (dimsT nm lo hi k ++ attrsT an ty j ++ rowsT ln vl x vk vn vd vs (t + 1)) wB w4) := by show Wrote _ _ _ _ _; rw [HS.out]; exact HWa.out.then hw4
              clear hw4 HPc
              go_wp2
              exact ⟨⟨t + 1, by omega, by go_num, HN⟩, by simp [intOf]; omega⟩
            · obtain rfl : t = N := by omega
              have HSt := Lib.hid (Tryz.Builder_String_any b b _ wr HW.out.1 (by omega))
              go_wp2_with fail
              refine HSt.out.mono ?_
              rintro e w4 ⟨rfl, hb4⟩
              go_wp2
              go_ret2
              exact ⟨by rw [List.append_assoc]; rfl, HDn.out _ (HW.out.2.1.trans hb4)⟩
end Go.Proofs.YtmhggphkhabjlaaGreatDoor

/- The text that the reference takes out of a string between quotes: arithmetic of lists. -/
import Derived.Test.YtmejbkfamapnkaaGreatDoorZRdV
import Derived.Test.YtmejbkfamapnkaaGreatDoorZNum9
import Derived.Test.YtmejbkfamapnkaaGreatDoorZSeeG
import Derived.Test.YtmejbkfamapnkaaGreatDoorZFit9

/- The text that the reference takes out of a string between quotes: arithmetic of lists. -/
section
namespace Go.Proofs.YtmejbkfamapnkaaGreatDoor


/-- The rest of the text, from the byte i on, behind what is there; in at most f steps. -/
def gt (l : List UInt8) : Nat → Nat → List UInt8 → List UInt8
  | 0, _, t => t
  | f + 1, i, t => if i + 1 < l.length ∧ i < 40 then gt l f (if l.getD i 0 = 39 then i + 2 else i + 1) (t ++ [l.getD i 0]) else t
theorem gt_step (l : List UInt8) (f i : Nat) (t : List UInt8) (h : i + 1 < l.length ∧ i < 40) : gt l (f + 1) i t = gt l f (if l.getD i 0 = 39 then i + 2 else i + 1) (t ++ [l.getD i 0]) := if_pos h
theorem gt_stop (l : List UInt8) (f i : Nat) (t : List UInt8) (h : ¬ (i + 1 < l.length ∧ i < 40)) : gt l f i t = t := by
  cases f with
  | zero => rfl
  | succ f => exact if_neg h
theorem quo_len2 : ∀ l : List UInt8, (quo l).length ≤ 2 * l.length
  | [] => Nat.le_refl _
  | c :: l => by
    have h := quo_len2 l
    have e : quo (c :: l) = (if c = 39 then [39, 39] else [c]) ++ quo l := rfl
    rw [e, List.length_append, List.length_cons]
    have : (if c = 39 then [39, 39] else ([c] : List UInt8)).length ≤ 2 := by split <;> simp
    omega
theorem gt_quo (l : List UInt8) : ∀ (r : List UInt8) (f i : Nat) (t : List UInt8), l.drop i = quo r ++ [39] → r.length ≤ f → i + 2 * r.length < 40 → i ≤ l.length → gt l f i t = t ++ r
  | [], f, i, t, h, _, _, hi => by
    have h1 : (l.drop i).length = 1 := by rw [h]; rfl
    rw [List.length_drop] at h1
    rw [gt_stop _ _ _ _ (by omega), List.append_nil]
  | c :: r, 0, i, t, _, hf, _, _ => by simp at hf
  | c :: r, f + 1, i, t, h, hf, h40, hi => by
    have e : quo (c :: r) = (if c = 39 then [39, 39] else [c]) ++ quo r := rfl
    rw [List.length_cons] at hf h40
    have hlen : (l.drop i).length = l.length - i := List.length_drop ..
    have hg : l.getD i 0 = c := by
      have h2 : (l.drop i).head? = some c := by
        rw [h, e]
        split
        · rename_i hc; rw [hc]; rfl
        · rfl
      rw [List.head?_drop] at h2
      rw [List.getD_eq_getElem?_getD, h2]
      rfl
    have h2 : 2 ≤ l.length - i := by
      rw [← hlen, h, e, List.length_append, List.length_append]
      have : 1 ≤ (if c = 39 then [39, 39] else ([c] : List UInt8)).length := by split <;> simp
      have : ([39] : List UInt8).length = 1 := rfl
      omega
    rw [gt_step _ _ _ _ ⟨by omega, by omega⟩, hg]
    by_cases hc : c = 39
    · rw [if_pos hc]
      have h3 : l.drop (i + 2) = quo r ++ [39] := by
        rw [← List.drop_drop, h, e, if_pos hc]
        rfl
      have h4 : i + 2 ≤ l.length := by omega
      rw [gt_quo l r f (i + 2) _ h3 (by omega) (by omega) h4, List.append_assoc]
      rfl
    · rw [if_neg hc]
      have h3 : l.drop (i + 1) = quo r ++ [39] := by
        rw [← List.drop_drop, h, e, if_neg hc]
        rfl
      rw [gt_quo l r f (i + 1) _ h3 (by omega) (by omega) (by omega), List.append_assoc]
      rfl
/-- Of the string of a text it is the text. -/
theorem gt_text (l : List UInt8) (t : List UInt8) (h : l = 39 :: quo t ++ [39]) (ht : t.length ≤ 16) : gt l 50 1 [] = t := by
  have h1 : l.drop 1 = quo t ++ [39] := by rw [h]; rfl
  rw [gt_quo l t 50 1 [] h1 (by omega) (by omega) (by rw [h]; simp)]
  rfl
theorem gt_len (l : List UInt8) : ∀ (f i : Nat) (t : List UInt8), (gt l f i t).length ≤ t.length + f
  | 0, _, _ => Nat.le_refl _
  | f + 1, i, t => by
    by_cases h : i + 1 < l.length ∧ i < 40
    · rw [gt_step _ _ _ _ h]
      have := gt_len l f (if l.getD i 0 = 39 then i + 2 else i + 1) (t ++ [l.getD i 0])
      rw [List.length_append] at this
      have e : ([l.getD i 0] : List UInt8).length = 1 := rfl
      omega
    · rw [gt_stop _ _ _ _ h]; omega
end Go.Proofs.YtmejbkfamapnkaaGreatDoor
end

/- What the reference guesses of a string. -/
section
namespace Go.Proofs.YtmejbkfamapnkaaGreatDoor
open Go.RowKit Go.Deep

/-- What guess returns. -/
def Gue (s : ByteArray) (k n d : Int) (t : ByteArray) : Prop := ∀ W, Calls Tryz.prog 26 #[.string s] W fun e w' => e = .returned (V k n d t) ∧ Below W.heap.size W w'

set_option maxHeartbeats 400000 in
theorem r_MissingN (n : Int) (w : World) : Calls Tryz.prog 71 #[.int .i64 n] w fun e w' => e = .returned (V 0 n 0 noS) ∧ Below w.heap.size w w' := by
  go_enter Tryz.func71, Tryz.ntmps71
  go_wp2
  exact bodyPost_ret (v := V 0 n 0 noS) (by simp [results, Tryz.results71, go_sem]) rfl ⟨rfl, (Below.refl _ _).alloc (Nat.le_refl _) _⟩
set_option maxHeartbeats 400000 in
theorem r_Truth1 (w : World) : Calls Tryz.prog 37 #[.bool true] w fun e w' => e = .returned (V 1 1 0 noS) ∧ Below w.heap.size w w' := by
  go_enter Tryz.func37, Tryz.ntmps37
  go_wp2
  exact bodyPost_ret (v := V 1 1 0 noS) (by simp [results, Tryz.results37, go_sem]) rfl ⟨rfl, (Below.refl _ _).alloc (Nat.le_refl _) _⟩
set_option maxHeartbeats 400000 in
theorem r_Truth0 (w : World) : Calls Tryz.prog 37 #[.bool false] w fun e w' => e = .returned (V 1 0 0 noS) ∧ Below w.heap.size w w' := by
  go_enter Tryz.func37, Tryz.ntmps37
  go_wp2
  exact bodyPost_ret (v := V 1 0 0 noS) (by simp [results, Tryz.results37, go_sem]) rfl ⟨rfl, (Below.refl _ _).alloc (Nat.le_refl _) _⟩

set_option maxRecDepth 100000 in
set_option maxHeartbeats 4000000 in
theorem g_true : Gue ⟨#[116, 114, 117, 101]⟩ 1 1 0 noS := fun w => by
  obtain ⟨W0, hW0, hB0, hz0, KR⟩ := valz_box w
  have HB0 := Lib.hid hB0
  have HT := Lib.hid (fun W => r_Truth1 W)
  clear hB0
  go_enter Tryz.func26, Tryz.ntmps26
  go_wp2_with fail
  refine (HT.out _).mono ?_
  rintro e w2 ⟨rfl, hb2⟩
  have HB2 := Lib.hid hb2
  have hh2 := KR.out w2 HB2.out
  obtain ⟨r0, r1, r2, r3, f0, f1, f2, f3⟩ := res_at hh2
  have HH2 := Lib.hid hh2
  clear hh2 hb2
  go_wp2
  exact bodyPost_ret (v := V 1 1 0 noS) (results_cell_row Tryz.results26 _ _ w.heap.size 24 _ (0, 0) _ rfl (put4 HH2.out _ _ _ _) Tryz.underlying24 rfl (by rw [info_v4]; rfl)) rfl ⟨rfl, below4 (btr HB0.out HB2.out) _ (Nat.le_refl _) _ _ _ _⟩
set_option maxRecDepth 100000 in
set_option maxHeartbeats 4000000 in
theorem g_false : Gue ⟨#[102, 97, 108, 115, 101]⟩ 1 0 0 noS := fun w => by
  obtain ⟨W0, hW0, hB0, hz0, KR⟩ := valz_box w
  have HB0 := Lib.hid hB0
  have HT := Lib.hid (fun W => r_Truth0 W)
  clear hB0
  go_enter Tryz.func26, Tryz.ntmps26
  go_wp2_with fail
  refine (HT.out _).mono ?_
  rintro e w2 ⟨rfl, hb2⟩
  have HB2 := Lib.hid hb2
  have hh2 := KR.out w2 HB2.out
  obtain ⟨r0, r1, r2, r3, f0, f1, f2, f3⟩ := res_at hh2
  have HH2 := Lib.hid hh2
  clear hh2 hb2
  go_wp2
  exact bodyPost_ret (v := V 1 0 0 noS) (results_cell_row Tryz.results26 _ _ w.heap.size 24 _ (0, 0) _ rfl (put4 HH2.out _ _ _ _) Tryz.underlying24 rfl (by rw [info_v4]; rfl)) rfl ⟨rfl, below4 (btr HB0.out HB2.out) _ (Nat.le_refl _) _ _ _ _⟩
theorem sl_two (s : ByteArray) (l : List UInt8) (c : UInt8) (hs : s.data.toList = c :: l) : s.size = l.length + 1 ∧ (s.extract 1 s.size).data.toList = l ∧ ∃ h : 0 < s.size, s[0] = c := by
  have hlen : s.data.toList.length = s.size := by simp
  have hz : s.size = l.length + 1 := by rw [← hlen, hs]; rfl
  refine ⟨hz, ?_, by omega, ?_⟩
  · rw [ByteArray.data_extract, Array.toList_extract, List.extract_eq_take_drop, hs, hz]
    simp
  · have : s[0]'(by omega) = s.data.toList[0]'(by rw [hs]; simp) := rfl
    rw [this]
    simp [hs]
theorem be_ne (s : ByteArray) (l : List UInt8) (h : s.data.toList ≠ l) : (s.toList == l) = false := by
  rw [beq_eq_false_iff_ne, ByteArray.toList_eq]
  exact h

set_option maxRecDepth 100000 in
set_option maxHeartbeats 4000000 in
/-- The number behind a question mark. -/
noncomputable def missN (l : List UInt8) : Int := by classical exact if DecL l then decN l else 0
theorem g_miss (s : ByteArray) (l : List UInt8) (hs : s.data.toList = 63 :: l) (h1 : 1 ≤ l.length) (h2 : l.length ≤ 3) : Gue s 0 (missN l) 0 noS := fun w => by
  obtain ⟨hz, hx, hp, h0⟩ := sl_two s l 63 hs
  have e1 := be_ne s [116, 114, 117, 101] (by rw [hs]; simp)
  have e2 := be_ne s [102, 97, 108, 115, 101] (by rw [hs]; simp)
  have h50 : (1 : Int) < s.size := by omega
  have h51 : (s.size : Int) < 5 := by omega
  have h52 : ((s[0].toNat : Int) == 63) = true := by rw [h0]; rfl
  obtain ⟨W0, hW0, hB0, hz0, KR⟩ := valz_box w
  have HB0 := Lib.hid hB0
  have HN := Lib.hid (fun W => r_number2 (s.extract 1 s.size) l hx W (by omega))
  have HMi := Lib.hid (fun n W => r_MissingN n W)
  by_cases hd : DecL l
  · have d1 : dig9 (decN l) 0 = decN l := by
      apply dig_small9
      have h3 := decN_lt _ l rfl (fun x hx => (hd.2.2 x hx).2)
      have h4 : 10 ^ l.length ≤ 10 ^ 3 := Nat.pow_le_pow_right (by decide) h2
      unfold B9
      omega
    have d2 : missN l = decN l := if_pos hd
    have hlt : decN l < 1000000000 := by rw [← d1]; exact dig_lt9 _ _
    rw [d2]
    have HD := Lib.hid hd
    have HDg := Lib.hid (fun W v (h : N9At W v (decN l)) => r_digitN W v 0 _ h)
    rw [d1] at HDg
    clear hB0 hs hz hx h0 h1 h2 d1 d2 hd
    generalize decN l = D at *
    go_enter Tryz.func26, Tryz.ntmps26
    go_wp2_with fail
    refine (HN.out _).mono ?_
    rintro e w1 ⟨A, n, c, b, rfl, hb, hn, hb1⟩
    obtain rfl : b = true := hb.2 HD.out
    have HB1 := Lib.hid hb1
    have HNn := Lib.hid (hn rfl).1
    clear hb hn hb1
    go_wp2_with fail
    refine (HDg.out w1 _ HNn.out).mono ?_
    rintro e w2 ⟨rfl, rfl⟩
    go_wp2_with fail
    refine (HMi.out _ _).mono ?_
    rintro e w2 ⟨rfl, hb2⟩
    have HB2 := Lib.hid (btr HB1.out hb2)
    have hh2 := KR.out w2 HB2.out
    obtain ⟨r0, r1, r2, r3, f0, f1, f2, f3⟩ := res_at hh2
    have HH2 := Lib.hid hh2
    clear hh2 hb2
    go_wp2
    exact bodyPost_ret (v := V 0 (D : Int) 0 noS) (results_cell_row Tryz.results26 _ _ w.heap.size 24 _ (0, 0) _ rfl (put4 HH2.out _ _ _ _) Tryz.underlying24 rfl (by rw [info_v4]; rfl)) rfl ⟨rfl, below4 (btr HB0.out HB2.out) _ (Nat.le_refl _) _ _ _ _⟩
  · rw [show missN l = 0 from if_neg hd]
    have HD := Lib.hid hd
    clear hB0 hs hz hx h0 h1 h2 hd
    go_enter Tryz.func26, Tryz.ntmps26
    go_wp2_with fail
    refine (HN.out _).mono ?_
    rintro e w1 ⟨A, n, c, b, rfl, hb, hn, hb1⟩
    obtain rfl : b = false := by
      cases b
      · rfl
      · exact absurd (hb.1 rfl) HD.out
    have HB1 := Lib.hid hb1
    clear hb hn hb1
    have hh2 := KR.out w1 HB1.out
    obtain ⟨r0, r1, r2, r3, f0, f1, f2, f3⟩ := res_at hh2
    have HH2 := Lib.hid hh2
    clear hh2
    go_wp2
    exact bodyPost_ret (v := V 0 0 0 noS) (results_cell_row Tryz.results26 _ _ w.heap.size 24 _ (0, 0) _ rfl (put4 HH2.out _ _ _ _) Tryz.underlying24 rfl (by rw [info_v4]; rfl)) rfl ⟨rfl, below4 (btr HB0.out HB1.out) _ (Nat.le_refl _) _ _ _ _⟩

set_option maxRecDepth 100000 in
set_option maxHeartbeats 8000000 in
theorem g_text (s : ByteArray) (l : List UInt8) (hs : s.data.toList = 39 :: l) (h1 : 1 ≤ l.length) (hmx : s.size ≤ 400) : Gue s 3 0 0 ⟨(gt (39 :: l) 50 1 []).toArray⟩ := fun w => by
  obtain ⟨hz, hx, hp, h0⟩ := sl_two s l 39 hs
  have e1 := be_ne s [116, 114, 117, 101] (by rw [hs]; simp)
  have e2 := be_ne s [102, 97, 108, 115, 101] (by rw [hs]; simp)
  have h50 : (1 : Int) < s.size := by omega
  have h52 : ((s[0].toNat : Int) == 63) = false := by rw [h0]; rfl
  have h53 : ((s[0].toNat : Int) == 39) = true := by rw [h0]; rfl
  have h54 : (s.size : Int) ≤ 400 := by omega
  have hl : s.size = (39 :: l).length := hz
  have HG : Hid (∀ i (h : i < s.size), (39 :: l).getD i 0 = s[i]) := fun i h => by
    rw [← hs]
    have h2 : i < s.data.toList.length := by simpa using h
    rw [List.getD_eq_getElem?_getD, List.getElem?_eq_getElem h2]
    rfl
  have h5 : ¬ (s.size : Int) < 5 ∨ (s.size : Int) < 5 := by omega
  obtain ⟨W0, hW0, hB0, hz0, KR⟩ := valz_box w
  have HB0 := Lib.hid hB0
  have HL := Lib.hid hl
  clear hB0 hs hz hx h0 h1 hmx hl
  generalize (39 :: l) = L at *
  rcases h5 with h5 | h5
  all_goals
    go_enter Tryz.func26, Tryz.ntmps26
    go_wp2
    go_loop [5, 6] (fun tx i => ∃ (f k : Nat) (t : List UInt8), tx = strOf9 t ∧ i = .int .i64 k ∧ Hid (gt L f k t = gt L 50 1 []) ∧ Hid (51 ≤ f + k) ∧ k ≤ 42 ∧ t.length + f ≤ 50) (fun _ i => 60 - (intOf i).toNat)
    case atStart => exact ⟨50, 1, [], rfl, rfl, rfl, by show 51 ≤ 51; omega, by omega, by simp⟩
    case round =>
      obtain ⟨f, k, t, rfl, rfl, HGt, HF, hk, ht⟩ := hrel
      have fin : ¬ (k + 1 < L.length ∧ k < 40) → t = gt L 50 1 [] := fun h => by rw [← HGt.out, gt_stop _ _ _ _ h]
      by_cases c1 : k + 1 < s.size
      · by_cases c2 : k < 40
        · obtain ⟨f, rfl⟩ : ∃ g, f = g + 1 := ⟨f - 1, by have := HF.out; omega⟩
          have hk1 : k < s.size := by omega
          have i1 : (k : Int) < (s.size : Int) - 1 := by omega
          have HX := Lib.hid (ext_one s k hk1)
          have HS := Lib.hid (gt_step L f k t ⟨by have := HL.out; omega, c2⟩)
          have HGk := Lib.hid (HG.out k hk1)
          unfold strOf9
          have hlen : ¬ 9223372036854775807 < t.length + 1 := by omega
          by_cases h9 : ((s[k].toNat : Int) == 39) = true
          · have e9 : L.getD k 0 = 39 := by
              rw [HGk.out]
              apply UInt8.toNat_inj.1
              have : (39 : UInt8).toNat = 39 := rfl
              have h8 : (s[k].toNat : Int) = 39 := by simpa using h9
              omega
            have HE := Lib.hid e9
            clear e9
            go_wp2
            refine ⟨⟨f, k + 2, t ++ [L.getD k 0], ?_, by go_num, ?_, by show _ ≤ _; have := HF.out; omega, by omega, by rw [List.length_append]; show t.length + 1 + f ≤ 50; omega⟩, by simp [intOf]; omega⟩
            · rw [HX.out, HGk.out]
              exact congrArg Value.string (by apply ByteArray.ext; simp [ByteArray.data_append])
            · show _ = _
              rw [← HGt.out, HS.out, if_pos HE.out]
          · have h9 : ((s[k].toNat : Int) == 39) = false := by simpa using h9
            have e9 : ¬ L.getD k 0 = 39 := by
              rw [HGk.out]
              intro h8
              rw [beq_eq_false_iff_ne] at h9
              apply h9
              rw [h8]
              rfl
            have HE := Lib.hid e9
            clear e9
            go_wp2
            refine ⟨⟨f, k + 1, t ++ [L.getD k 0], ?_, by go_num, ?_, by show _ ≤ _; have := HF.out; omega, by omega, by rw [List.length_append]; show t.length + 1 + f ≤ 50; omega⟩, by simp [intOf]; omega⟩
            · rw [HX.out, HGk.out]
              exact congrArg Value.string (by apply ByteArray.ext; simp [ByteArray.data_append])
            · show _ = _
              rw [← HGt.out, HS.out, if_neg HE.out]
        · first
          | (exfalso; omega)
          | (have HT := Lib.hid (fin (fun h => c2 h.2))
             have i1 : (k : Int) < (s.size : Int) - 1 := by omega
             rw [HT.out]
             obtain ⟨TT, hTT⟩ : ∃ TT : ByteArray, TT = ⟨(gt L 50 1 []).toArray⟩ := ⟨_, rfl⟩
             unfold strOf9
             rw [← hTT]
             have HTT := Lib.hid hTT
             clear hTT
             have hcell := KR.out W0 (Below.refl _ _)
             have hBf := HB0.out
             go_wp2_with (refine wpList_store_row 24 _ _ rfl rfl rfl w.heap.size 24 rfl [.int .i64 3, .int .i64 0, .int .i64 0, .string TT] rfl _ hcell rfl info_val (val_one _ _ _ _) ?_; intro wz hhz hgz hzz; have HBz : Hid (Below w.heap.size w wz) := hBf.grown hgz hBf.size (fun j hj => by injection hj with hj; omega); clear hzz hgz hcell)
             exact bodyPost_ret (v := V 3 0 0 TT) (results_cell_row Tryz.results26 _ _ w.heap.size 24 _ (0, 0) _ rfl hhz Tryz.underlying24 rfl (by rw [info_v4]; rfl)) rfl ⟨by rw [HTT.out], HBz.out⟩)
      · have HT := Lib.hid (fin (fun h => c1 (by have := HL.out; omega)))
        have i1 : ¬ (k : Int) < (s.size : Int) - 1 := by omega
        rw [HT.out]
        obtain ⟨TT, hTT⟩ : ∃ TT : ByteArray, TT = ⟨(gt L 50 1 []).toArray⟩ := ⟨_, rfl⟩
        unfold strOf9
        rw [← hTT]
        have HTT := Lib.hid hTT
        clear hTT
        have hcell := KR.out W0 (Below.refl _ _)
        have hBf := HB0.out
        go_wp2_with (refine wpList_store_row 24 _ _ rfl rfl rfl w.heap.size 24 rfl [.int .i64 3, .int .i64 0, .int .i64 0, .string TT] rfl _ hcell rfl info_val (val_one _ _ _ _) ?_; intro wz hhz hgz hzz; have HBz : Hid (Below w.heap.size w wz) := hBf.grown hgz hBf.size (fun j hj => by injection hj with hj; omega); clear hzz hgz hcell)
        exact bodyPost_ret (v := V 3 0 0 TT) (results_cell_row Tryz.results26 _ _ w.heap.size 24 _ (0, 0) _ rfl hhz Tryz.underlying24 rfl (by rw [info_v4]; rfl)) rfl ⟨by rw [HTT.out], HBz.out⟩

/-- It is no word, nothing missing and no text. -/
def Plain (s : ByteArray) : Prop := ¬ (1 : Int) < s.size ∨ (∃ h : 0 < s.size, (1 : Int) < s.size ∧ ((s[0].toNat : Int) == 63) = false ∧ ((s[0].toNat : Int) == 39) = false) ∨ (∃ h : 0 < s.size, (1 : Int) < s.size ∧ ¬ (s.size : Int) < 5 ∧ ((s[0].toNat : Int) == 39) = false)
theorem r_ParseQ (s : ByteArray) (q : Rat) (hs : s.size ≤ 10000) (hq : s.data.toList = txt q) (w : World) : Calls Tryz.prog 73 #[.string s] w fun e w' => ∃ b A n c A' n' c', e = .returned (.tuple #[.agg #[.bool b, .slice A n c, .slice A' n' c'], .int .i64 0]) ∧ RefV w' (.agg #[.bool b, .slice A n c, .slice A' n' c']) q ∧ Below w.heap.size w w' := by
  refine (r_Parse s w hs).mono ?_
  rintro e w' ⟨⟨r, q', rfl, h1, h2⟩ | ⟨h1, _⟩, hb⟩
  · obtain rfl := txt_inj (hq.symm.trans h1)
    obtain ⟨u, v, rfl, hu, hv⟩ := h2
    obtain ⟨A, c, rfl⟩ := hu.sl
    obtain ⟨A', c', rfl⟩ := hv.sl
    exact ⟨_, A, _, c, A', _, c', rfl, ⟨_, _, rfl, hu, hv⟩, hb⟩
  · exact absurd hq (h1 q)
theorem r_ParseN (s : ByteArray) (hs : s.size ≤ 10000) (hn : ∀ q, s.data.toList ≠ txt q) (w : World) : Calls Tryz.prog 73 #[.string s] w fun e w' => e = .returned (.tuple #[.agg #[.bool false, .slice none 0 0, .slice none 0 0], .int .i64 7]) ∧ Below w.heap.size w w' := by
  refine (r_Parse s w hs).mono ?_
  rintro e w' ⟨⟨r, q', rfl, h1, h2⟩ | ⟨_, rfl⟩, hb⟩
  · exact absurd h1 (hn _)
  · exact ⟨rfl, hb⟩
set_option maxRecDepth 100000 in
set_option maxHeartbeats 8000000 in
theorem g_num (s : ByteArray) (h1 : s.data.toList ≠ [116, 114, 117, 101]) (h2 : s.data.toList ≠ [102, 97, 108, 115, 101]) (hp : Plain s) (hs : s.size < 30) (q : Rat) (hq : s.data.toList = txt q) : Gue s (valK q) (valN q) (valD q) noS := fun w => by
  have e1 := be_ne s _ h1
  have e2 := be_ne s _ h2
  have h30 : (s.size : Int) < 30 := by omega
  have HP := Lib.hid (fun W => r_ParseQ s q (by omega) hq W)
  have HV := Lib.hid (fun W r (h : RefV W r q) => r_Value W r q h)
  generalize valK q = vk at *
  generalize valN q = vn at *
  generalize valD q = vd at *
  obtain ⟨W0, hW0, hB0, hz0, KR⟩ := valz_box w
  have HB0 := Lib.hid hB0
  clear hB0 h1 h2 hq hs
  have h5 : ¬ (s.size : Int) < 5 ∨ (s.size : Int) < 5 := by omega
  rcases hp with p1 | ⟨p0, p1, p2, p3⟩ | ⟨p0, p1, p2, p3⟩
  all_goals
    rcases h5 with h5 | h5
  all_goals
    first
    | (exfalso; omega)
    | (exfalso; exact p2 h5)
    | skip
  all_goals
    go_enter Tryz.func26, Tryz.ntmps26
    go_wp2_with fail
    refine (HP.out _).mono ?_
    rintro e w1 ⟨b, A, n, c, A', n', c', rfl, hr, hb1⟩
    obtain ⟨w2, hw2, hb2, hz2, K2⟩ := ref_box w1 b (.slice A n c) (.slice A' n' c')
    have HB2 := Lib.hid (btr hb1 hb2)
    have HR2 := Lib.hid (hr.below hb2)
    obtain ⟨x0, x1, x2⟩ := K2.out w2 (Below.refl _ _)
    clear hb1 hb2 hr
    go_wp2_with fail
    refine (HV.out w2 _ HR2.out).mono ?_
    rintro e w3 ⟨rfl, hb3⟩
    have HB3 := Lib.hid (btr HB2.out hb3)
    have hh2 := KR.out w3 HB3.out
    obtain ⟨r0, r1, r2, r3, f0, f1, f2, f3⟩ := res_at hh2
    have HH2 := Lib.hid hh2
    clear hh2 hb3 x0 x1 x2
    go_wp2
    exact bodyPost_ret (v := V vk vn vd noS) (results_cell_row Tryz.results26 _ _ w.heap.size 24 _ (0, 0) _ rfl (put4 HH2.out _ _ _ _) Tryz.underlying24 rfl (by rw [info_v4]; rfl)) rfl ⟨rfl, below4 (btr HB0.out HB3.out) _ (Nat.le_refl _) _ _ _ _⟩
set_option maxRecDepth 100000 in
set_option maxHeartbeats 8000000 in
theorem g_none (s : ByteArray) (h1 : s.data.toList ≠ [116, 114, 117, 101]) (h2 : s.data.toList ≠ [102, 97, 108, 115, 101]) (hp : Plain s) (hmx : s.size ≤ 400) (hq : 30 ≤ s.size ∨ ∀ q, s.data.toList ≠ txt q) : Gue s 0 0 0 noS := fun w => by
  have e1 := be_ne s _ h1
  have e2 := be_ne s _ h2
  obtain ⟨W0, hW0, hB0, hz0, KR⟩ := valz_box w
  have HB0 := Lib.hid hB0
  clear hB0 h1 h2
  have h5 : ¬ (s.size : Int) < 5 ∨ (s.size : Int) < 5 := by omega
  by_cases h30 : s.size < 30
  · have HP := Lib.hid (fun W => r_ParseN s (by omega) (by
      rcases hq with h | h
      · omega
      · exact h) W)
    have h31 : (s.size : Int) < 30 := by omega
    clear hq h30
    rcases hp with p1 | ⟨p0, p1, p2, p3⟩ | ⟨p0, p1, p2, p3⟩
    all_goals
      rcases h5 with h5 | h5
    all_goals
      first
      | (exfalso; omega)
      | (exfalso; exact p2 h5)
      | skip
    all_goals
      go_enter Tryz.func26, Tryz.ntmps26
      go_wp2_with fail
      refine (HP.out _).mono ?_
      rintro e w1 ⟨rfl, hb1⟩
      have HB3 := Lib.hid (Below.alloc hb1 hb1.size (.cells #[.bool false, .slice none 0 0, .slice none 0 0] 65))
      clear hb1
      have hh2 := KR.out _ HB3.out
      obtain ⟨r0, r1, r2, r3, f0, f1, f2, f3⟩ := res_at hh2
      have HH2 := Lib.hid hh2
      clear hh2
      go_wp2
      exact bodyPost_ret (v := V 0 0 0 noS) (results_cell_row Tryz.results26 _ _ w.heap.size 24 _ (0, 0) _ rfl (put4 HH2.out _ _ _ _) Tryz.underlying24 rfl (by rw [info_v4]; rfl)) rfl ⟨rfl, below4 (btr HB0.out HB3.out) _ (Nat.le_refl _) _ _ _ _⟩
  · have h31 : ¬ (s.size : Int) < 30 := by omega
    have h50 : ¬ (s.size : Int) < 5 := by omega
    clear hq h30 h5
    have hp2 : ∃ h : 0 < s.size, (1 : Int) < s.size ∧ ((s[0].toNat : Int) == 39) = false := by
      rcases hp with p1 | ⟨p0, p1, p2, p3⟩ | ⟨p0, p1, p2, p3⟩
      · exfalso; omega
      · exact ⟨p0, p1, p3⟩
      · exact ⟨p0, p1, p3⟩
    obtain ⟨p0, p1, p3⟩ := hp2
    clear hp
    have HB3 : Hid (Below W0.heap.size W0 W0) := Below.refl _ _
    have hh2 := KR.out _ HB3.out
    obtain ⟨r0, r1, r2, r3, f0, f1, f2, f3⟩ := res_at hh2
    have HH2 := Lib.hid hh2
    clear hh2
    go_enter Tryz.func26, Tryz.ntmps26
    go_wp2
    exact bodyPost_ret (v := V 0 0 0 noS) (results_cell_row Tryz.results26 _ _ w.heap.size 24 _ (0, 0) _ rfl (put4 HH2.out _ _ _ _) Tryz.underlying24 rfl (by rw [info_v4]; rfl)) rfl ⟨rfl, below4 (btr HB0.out HB3.out) _ (Nat.le_refl _) _ _ _ _⟩
end Go.Proofs.YtmejbkfamapnkaaGreatDoor
end

/- What a string seems to denote: numbers. -/
import Derived.Test.YtmejbkfamapnkaaGreatDoorZParG
import Derived.Test.YtmejbkfamapnkaaGreatDoorZRdV
import Derived.Test.YtmejbkfamapnkaaGreatDoorZRead
import Derived.Lib.ParseIntB
import Derived.Lib.ConvBytes

/- What a string seems to denote: numbers. -/
section
namespace Go.Proofs.YtmejbkfamapnkaaGreatDoor
open Go.RowKit Go.Deep

set_option maxRecDepth 100000 in
set_option maxHeartbeats 4000000 in
theorem v_seem_numA (s : ByteArray) (m : Int) (w : World) (hs : s.size ≤ 10000) (hm : w.cell? ⟨5, 0, none⟩ = some (.int .i64 m))
    (h1 : s.toList ≠ [116, 114, 117, 101]) (h2 : s.toList ≠ [102, 97, 108, 115, 101]) (h3 : Lib.hasPrefix s.data.toList [63] = false) (h5 : ¬ (2 : Int) ≤ s.size ∨ ∃ h : 0 < s.size, (2 : Int) ≤ s.size ∧ ((s[0].toNat : Int) == 39) = false) :
    Calls Tryz.prog 25 #[.string s] w fun e w' => ((∃ q, s.data.toList = txt q ∧ e = .returned (V (valK q) (valN q) (valD q) noS)) ∨ ((∀ q, s.data.toList ≠ txt q) ∧ e = .returned (V 0 0 0 noS))) ∧ Below w.heap.size w w' := by
  have h0 : 5 < w.heap.size := by
    by_cases h : 5 < w.heap.size
    · exact h
    · exfalso
      have : w.heap[5]? = none := Array.getElem?_eq_none (by omega)
      simp [World.cell?, this] at hm
  have HA := Lib.hid (fun W (hW : Below w.heap.size w W) => v_Parse s m W hs ((hW.cell (p := ⟨5, 0, none⟩) h0).trans hm))
  have HP : Hid (∀ W, Calls Tryz.prog 65 #[.string s, .string ⟨#[63]⟩] W fun e w' => e = .returned (.tuple #[.string s, .bool false]) ∧ w' = W) := fun W => by
    have h9 := Tryz.strings_CutPrefix s ⟨#[63]⟩ W
    have e1 : Lib.hasPrefix s.data.toList (⟨#[63]⟩ : ByteArray).data.toList = false := h3
    have e2 : Lib.trimPrefix s.data.toList (⟨#[63]⟩ : ByteArray).data.toList = s.data.toList := by unfold Lib.trimPrefix; rw [e1]; rfl
    rw [e1, e2] at h9
    exact h9
  have e1 : (s.toList == [116, 114, 117, 101]) = false := by rw [beq_eq_false_iff_ne]; exact h1
  have e2 : (s.toList == [102, 97, 108, 115, 101]) = false := by rw [beq_eq_false_iff_ne]; exact h2
  obtain ⟨W0, hW0, hB0, hz0, KR⟩ := valz_box w
  have HB0 := Lib.hid hB0
  clear hB0 hm h0 h1 h2 h3
  rcases h5 with h5 | ⟨h50, h51, h52⟩
  all_goals
    go_enter Tryz.func25, Tryz.ntmps25
    go_wp2_with fail
    refine (HP.out _).mono ?_
    rintro e w1 ⟨rfl, hw⟩
    subst w1
    go_wp2_with fail
    refine (HA.out _ HB0.out).mono ?_
    rintro e w1 (⟨u, q, rfl, hq, hu, hb1⟩ | ⟨rfl, hq, hb1⟩)
    · have HB1 := Lib.hid hb1
      have HU := Lib.hid hu
      have HQ := Lib.hid hq
      have HV := Lib.hid (v_Value w1 u q hu)
      clear hb1 hu hq
      have HE : Hid (∃ a b c, a = valK q ∧ b = valN q ∧ c = valD q) := ⟨_, _, _, rfl, rfl, rfl⟩
      obtain ⟨vk, vn, vd, ek, en, ed⟩ := HE.out
      rw [← ek, ← en, ← ed] at HV
      have HEk := Lib.hid ek
      have HEn := Lib.hid en
      have HEd := Lib.hid ed
      clear HE ek en ed
      go_wp2_with fail
      refine HV.out.mono ?_
      rintro e w2 ⟨rfl, hb2⟩
      have HB2 := Lib.hid (btr HB1.out hb2)
      have hh2 := KR.out w2 HB2.out
      obtain ⟨r0, r1, r2, r3, f0, f1, f2, f3⟩ := res_at hh2
      have HH2 := Lib.hid hh2
      clear hh2 hb2
      go_wp2
      exact bodyPost_ret (v := V vk vn vd noS) (results_cell_row Tryz.results25 _ _ w.heap.size 24 _ (0, 0) _ rfl (put4 HH2.out _ _ _ _) Tryz.underlying24 rfl (by rw [info_v4]; rfl)) rfl ⟨.inl ⟨q, HQ.out, by rw [HEk.out, HEn.out, HEd.out]⟩, below4 (btr HB0.out HB2.out) _ (Nat.le_refl _) _ _ _ _⟩
    · have HB1 := Lib.hid hb1
      have HQ := Lib.hid hq
      clear hb1 hq
      go_wp2_with fail
      refine (value_nil _).mono ?_
      rintro e w2 ⟨rfl, hb2⟩
      have HB2 := Lib.hid (btr HB1.out hb2)
      have hh2 := KR.out w2 HB2.out
      obtain ⟨r0, r1, r2, r3, f0, f1, f2, f3⟩ := res_at hh2
      have HH2 := Lib.hid hh2
      clear hh2 hb2
      go_wp2
      exact bodyPost_ret (v := V 0 0 0 noS) (results_cell_row Tryz.results25 _ _ w.heap.size 24 _ (0, 0) _ rfl (put4 HH2.out _ _ _ _) Tryz.underlying24 rfl (by rw [info_v4]; rfl)) rfl ⟨.inr ⟨HQ.out, rfl⟩, below4 (btr HB0.out HB2.out) _ (Nat.le_refl _) _ _ _ _⟩

theorem v_seem_num (s : ByteArray) (m : Int) (w : World) (hs : s.size ≤ 10000) (hm : w.cell? ⟨5, 0, none⟩ = some (.int .i64 m))
    (h1 : s.toList ≠ [116, 114, 117, 101]) (h2 : s.toList ≠ [102, 97, 108, 115, 101]) (h3 : Lib.hasPrefix s.data.toList [63] = false) (h4 : Lib.hasPrefix s.data.toList [39] = false) :
    Calls Tryz.prog 25 #[.string s] w fun e w' => ((∃ q, s.data.toList = txt q ∧ e = .returned (V (valK q) (valN q) (valD q) noS)) ∨ ((∀ q, s.data.toList ≠ txt q) ∧ e = .returned (V 0 0 0 noS))) ∧ Below w.heap.size w w' := by
  have h5 : ¬ (2 : Int) ≤ s.size ∨ ∃ h : 0 < s.size, (2 : Int) ≤ s.size ∧ ((s[0].toNat : Int) == 39) = false := by
    by_cases hz : 2 ≤ s.size
    · refine .inr ⟨by omega, by omega, ?_⟩
      rw [beq_eq_false_iff_ne]
      intro h6
      have h7 : s[0] = 39 := UInt8.toNat_inj.1 (by
        have : (39 : UInt8).toNat = 39 := rfl
        omega)
      have h8 : s.data.toList = s[0] :: s.data.toList.tail := by
        have hl : s.data.toList.length = s.size := by simp
        cases hq : s.data.toList with
        | nil => rw [hq] at hl; simp at hl; omega
        | cons a l =>
          have : s[0] = s.data.toList[0]'(by rw [hl]; omega) := rfl
          rw [this]
          simp [hq]
      rw [h8, h7] at h4
      simp [Lib.hasPrefix, List.isPrefixOf] at h4
    · exact .inl (by omega)
  exact v_seem_numA s m w hs hm h1 h2 h3 h5

set_option maxRecDepth 100000 in
set_option maxHeartbeats 4000000 in
theorem v_seem_true (w : World) :
    Calls Tryz.prog 25 #[.string ⟨#[116, 114, 117, 101]⟩] w fun e w' => e = .returned (V 1 1 0 noS) ∧ Below w.heap.size w w' := by
  obtain ⟨W0, hW0, hB0, hz0, KR⟩ := valz_box w
  have HB0 := Lib.hid hB0
  have HT := Lib.hid (fun W => c_truth1 W)
  clear hB0
  go_enter Tryz.func25, Tryz.ntmps25
  go_wp2_with fail
  refine (HT.out _).mono ?_
  rintro e w2 ⟨rfl, hb2⟩
  have HB2 := Lib.hid hb2
  have hh2 := KR.out w2 HB2.out
  obtain ⟨r0, r1, r2, r3, f0, f1, f2, f3⟩ := res_at hh2
  have HH2 := Lib.hid hh2
  clear hh2 hb2
  go_wp2
  exact bodyPost_ret (v := V 1 1 0 noS) (results_cell_row Tryz.results25 _ _ w.heap.size 24 _ (0, 0) _ rfl (put4 HH2.out _ _ _ _) Tryz.underlying24 rfl (by rw [info_v4]; rfl)) rfl ⟨rfl, below4 (btr HB0.out HB2.out) _ (Nat.le_refl _) _ _ _ _⟩
set_option maxRecDepth 100000 in
set_option maxHeartbeats 4000000 in
theorem v_seem_false (w : World) :
    Calls Tryz.prog 25 #[.string ⟨#[102, 97, 108, 115, 101]⟩] w fun e w' => e = .returned (V 1 0 0 noS) ∧ Below w.heap.size w w' := by
  obtain ⟨W0, hW0, hB0, hz0, KR⟩ := valz_box w
  have HB0 := Lib.hid hB0
  have HT := Lib.hid (fun W => c_truth0 W)
  clear hB0
  go_enter Tryz.func25, Tryz.ntmps25
  go_wp2_with fail
  refine (HT.out _).mono ?_
  rintro e w2 ⟨rfl, hb2⟩
  have HB2 := Lib.hid hb2
  have hh2 := KR.out w2 HB2.out
  obtain ⟨r0, r1, r2, r3, f0, f1, f2, f3⟩ := res_at hh2
  have HH2 := Lib.hid hh2
  clear hh2 hb2
  go_wp2
  exact bodyPost_ret (v := V 1 0 0 noS) (results_cell_row Tryz.results25 _ _ w.heap.size 24 _ (0, 0) _ rfl (put4 HH2.out _ _ _ _) Tryz.underlying24 rfl (by rw [info_v4]; rfl)) rfl ⟨rfl, below4 (btr HB0.out HB2.out) _ (Nat.le_refl _) _ _ _ _⟩
end Go.Proofs.YtmejbkfamapnkaaGreatDoor
end

/- Plain lists of bytes: doubled quotes made single again. No condition. -/
section
namespace Go.Proofs.YtmejbkfamapnkaaGreatDoor

theorem index2_ne (b : UInt8) (l : List UInt8) (h : b ≠ 39) : Lib.index (b :: l) [39, 39] = if Lib.index l [39, 39] == -1 then -1 else Lib.index l [39, 39] + 1 := by
  rw [Lib.index]
  have h1 : ([39, 39] : List UInt8).isPrefixOf (b :: l) = false := by
    simp [List.isPrefixOf]
    exact fun e => absurd e.symm h
  rw [h1]
  rfl
theorem index2_eq (l : List UInt8) : Lib.index (39 :: 39 :: l) [39, 39] = 0 := by
  rw [Lib.index]
  have h1 : ([39, 39] : List UInt8).isPrefixOf (39 :: 39 :: l) = true := by simp [List.isPrefixOf]
  rw [h1]
  rfl
theorem count2_eq (l : List UInt8) : Lib.count (39 :: 39 :: l) [39, 39] = 1 + Lib.count l [39, 39] := by
  rw [Lib.count_hit (i := 0) (by simp) (index2_eq l)]
  rfl
theorem count2_ne (b : UInt8) (l : List UInt8) (h : b ≠ 39) : Lib.count (b :: l) [39, 39] = Lib.count l [39, 39] := by
  by_cases hm : Lib.index l [39, 39] = -1
  · rw [Lib.count_miss hm, Lib.count_miss]
    rw [index2_ne b l h, hm]
    rfl
  · have hge := Lib.index_ge l [39, 39]
    obtain ⟨i, hi⟩ : ∃ i : Nat, Lib.index l [39, 39] = i := ⟨(Lib.index l [39, 39]).toNat, by omega⟩
    have h2 : Lib.index (b :: l) [39, 39] = ((i + 1 : Nat) : Int) := by
      rw [index2_ne b l h, if_neg (by rw [beq_iff_eq]; exact hm), hi]; omega
    rw [Lib.count_hit (by simp) h2, Lib.count_hit (by simp) hi]
    show 1 + Lib.count ((b :: l).drop (i + 1 + [(39 : UInt8), 39].length)) [39, 39] = _
    rw [show i + 1 + [(39 : UInt8), 39].length = (i + [(39 : UInt8), 39].length) + 1 by simp, List.drop_succ_cons]
theorem replaceK_unquo : ∀ l : List UInt8, Lib.replaceK [39, 39] [39] (Lib.count (quo l) [39, 39]) (quo l) = l
  | [] => by rw [show quo [] = [] from rfl, Lib.count_miss (by rfl)]; rfl
  | b :: l => by
    have ih := replaceK_unquo l
    by_cases h : b = 39
    · subst h
      have hq : quo (39 :: l) = 39 :: 39 :: quo l := by rw [quo, if_pos rfl]; rfl
      rw [hq, count2_eq, Nat.add_comm, Lib.replaceK_hit _ _ _ _ 0 (index2_eq _)]
      show [] ++ [39] ++ Lib.replaceK [39, 39] [39] (Lib.count (quo l) [39, 39]) (quo l) = _
      rw [ih]; rfl
    · have hq : quo (b :: l) = b :: quo l := by rw [quo, if_neg h]; rfl
      rw [hq, count2_ne b _ h]
      rcases hc : Lib.count (quo l) [39, 39] with _ | k
      · rw [hc] at ih
        have : quo l = l := ih
        rw [this]; rfl
      · rw [hc] at ih
        obtain ⟨i, hi⟩ := Lib.index_of_count (s := quo l) (old := [39, 39]) (by omega)
        have hm : Lib.index (quo l) [39, 39] ≠ -1 := by omega
        have h2 : Lib.index (b :: quo l) [39, 39] = ((i + 1 : Nat) : Int) := by
          rw [index2_ne b _ h, if_neg (by rw [beq_iff_eq]; exact hm), hi]; omega
        rw [Lib.replaceK_hit _ _ _ _ i hi] at ih
        rw [Lib.replaceK_hit _ _ _ _ (i + 1) h2, show i + 1 + [(39 : UInt8), 39].length = (i + [(39 : UInt8), 39].length) + 1 by simp, List.drop_succ_cons, List.take_succ_cons]
        exact congrArg (b :: ·) ih
theorem replaceAll_unquo (l : List UInt8) : Lib.replaceAll (quo l) [39, 39] [39] = l := by
  have h1 : Lib.replaceNum (quo l) [39, 39] (-1) = Lib.count (quo l) [39, 39] := by unfold Lib.replaceNum; rw [if_pos (.inl (by decide))]
  unfold Lib.replaceAll Lib.replace
  rw [if_neg (by decide), h1, replaceK_unquo]
theorem count2_le : ∀ l : List UInt8, Lib.count (quo l) [39, 39] ≤ l.length
  | [] => by rw [show quo [] = [] from rfl, Lib.count_miss (by rfl)]; exact Nat.zero_le _
  | b :: l => by
    have ih := count2_le l
    by_cases h : b = 39
    · subst h
      have hq : quo (39 :: l) = 39 :: 39 :: quo l := by rw [quo, if_pos rfl]; rfl
      rw [hq, count2_eq, List.length_cons]; omega
    · have hq : quo (b :: l) = b :: quo l := by rw [quo, if_neg h]; rfl
      rw [hq, count2_ne b _ h, List.length_cons]; omega
end Go.Proofs.YtmejbkfamapnkaaGreatDoor
end

/- What a string seems to denote: texts. -/
section
namespace Go.Proofs.YtmejbkfamapnkaaGreatDoor
open Go.RowKit Go.Deep

set_option maxRecDepth 100000 in
set_option maxHeartbeats 4000000 in
theorem v_seem_text (s t : ByteArray) (m : Int) (w : World) (ht : Txt t) (hs : s.data.toList = 39 :: quo t.data.toList ++ [39]) (hm : w.cell? ⟨5, 0, none⟩ = some (.int .i64 m)) :
    Calls Tryz.prog 25 #[.string s] w fun e w' => e = .returned (V 3 0 0 t) ∧ Below w.heap.size w w' := by
  have h0 : 5 < w.heap.size := by
    by_cases h : 5 < w.heap.size
    · exact h
    · exfalso
      have : w.heap[5]? = none := Array.getElem?_eq_none (by omega)
      simp [World.cell?, this] at hm
  have hz := ht.1
  have hlt : t.data.toList.length = t.size := by simp
  have hlq := quo_length t.data.toList
  have hls : s.size = (quo t.data.toList).length + 2 := by
    have : s.data.toList.length = s.size := by simp
    rw [← this, hs]; simp
  have HR : Hid (∀ W x, Below w.heap.size w W → x = s.extract 1 (s.size - 1) → Calls Tryz.prog 63 #[.string x, .string ⟨#[39, 39]⟩, .string ⟨#[39]⟩] W fun e w' => e = .returned (.string t) ∧ Below W.heap.size W w') := fun W x hW hx => by
    have hxl : x.data.toList = quo t.data.toList := by
      rw [hx, ByteArray.data_extract, Array.toList_extract, List.extract_eq_take_drop, hs]
      simp [hls]
    have hxs : x.size = (quo t.data.toList).length := by
      have : x.data.toList.length = x.size := by simp
      rw [← this, hxl]
    have h9 := Tryz.strings_ReplaceAll x ⟨#[39, 39]⟩ ⟨#[39]⟩ m W (by omega) ((hW.cell (p := ⟨5, 0, none⟩) h0).trans hm) (by decide) (by
      have e1 : Lib.countB x ⟨#[39, 39]⟩ ≤ t.size := by
        have h8 := count2_le t.data.toList
        rw [← hxl] at h8
        rw [← hlt]
        exact h8
      have e2 : (⟨#[39]⟩ : ByteArray).size = 1 := rfl
      rw [e2]; omega)
    have e3 : Lib.replaceAll x.data.toList (⟨#[39, 39]⟩ : ByteArray).data.toList (⟨#[39]⟩ : ByteArray).data.toList = t.data.toList := by
      rw [hxl]; exact replaceAll_unquo _
    rw [e3] at h9
    exact h9
  have HP : Hid (∀ W, Calls Tryz.prog 65 #[.string s, .string ⟨#[63]⟩] W fun e w' => e = .returned (.tuple #[.string s, .bool false]) ∧ w' = W) := fun W => by
    have h9 := Tryz.strings_CutPrefix s ⟨#[63]⟩ W
    have e1 : Lib.hasPrefix s.data.toList (⟨#[63]⟩ : ByteArray).data.toList = false := by rw [hs]; simp [Lib.hasPrefix, List.isPrefixOf]
    have e2 : Lib.trimPrefix s.data.toList (⟨#[63]⟩ : ByteArray).data.toList = s.data.toList := by unfold Lib.trimPrefix; rw [e1]; rfl
    rw [e1, e2] at h9
    exact h9
  have e1 : (s.toList == [116, 114, 117, 101]) = false := by rw [beq_eq_false_iff_ne, ByteArray.toList_eq, hs]; simp
  have e2 : (s.toList == [102, 97, 108, 115, 101]) = false := by rw [beq_eq_false_iff_ne, ByteArray.toList_eq, hs]; simp
  have h50 : 0 < s.size := by omega
  have h51 : (2 : Int) ≤ s.size := by omega
  have h52 : ((s[0].toNat : Int) == 39) = true := by
    have : s[0] = s.data.toList[0]'(by rw [hs]; simp) := rfl
    rw [this]
    simp [hs]
  have h53 : (s.size : Int) ≤ 100 := by omega
  obtain ⟨W0, hW0, hB0, hz0, KR⟩ := valz_box w
  have HB0 := Lib.hid hB0
  clear hB0 hm h0 hs hz hlt hlq hls ht
  go_enter Tryz.func25, Tryz.ntmps25
  go_wp2_with fail
  refine (HP.out _).mono ?_
  rintro e w1 ⟨rfl, hw⟩
  subst w1
  go_wp2_with fail
  refine (HR.out _ _ HB0.out (by first | rfl | (congr 1; omega))).mono ?_
  rintro e w2 ⟨rfl, hb2⟩
  have HB2 := Lib.hid hb2
  have hcell := KR.out w2 HB2.out
  have hBf := btr HB0.out HB2.out
  clear hb2
  go_wp2_with (refine wpList_store_row 24 _ _ rfl rfl rfl w.heap.size 24 rfl [.int .i64 3, .int .i64 0, .int .i64 0, .string t] rfl _ hcell rfl info_val (val_one _ _ _ _) ?_; intro wz hhz hgz hzz; have HBz : Hid (Below w.heap.size w wz) := hBf.grown hgz hBf.size (fun j hj => by injection hj with hj; omega); clear hzz hgz hcell)
  exact bodyPost_ret (v := V 3 0 0 t) (results_cell_row Tryz.results25 _ _ w.heap.size 24 _ (0, 0) _ rfl hhz Tryz.underlying24 rfl (by rw [info_v4]; rfl)) rfl ⟨rfl, HBz.out⟩
end Go.Proofs.YtmejbkfamapnkaaGreatDoor
end

/- A reason's digits, read. -/
section
namespace Go.Proofs.YtmejbkfamapnkaaGreatDoor
open Go.RowKit Go.Deep

theorem dec_reason (n : Nat) (h : n ≤ 255) : Lib.decDigits n = if n < 10 then [UInt8.ofNat (48 + n)] else if n < 100 then [UInt8.ofNat (48 + n / 10), UInt8.ofNat (48 + n % 10)] else [UInt8.ofNat (48 + n / 100), UInt8.ofNat (48 + n / 10 % 10), UInt8.ofNat (48 + n % 10)] := by
  by_cases h1 : n < 10
  · rw [if_pos h1, dec_small n h1]
  · rw [if_neg h1, dec_big n h1]
    by_cases h2 : n < 100
    · rw [if_pos h2, dec_small (n / 10) (by omega)]; rfl
    · rw [if_neg h2, dec_big (n / 10) (by omega), dec_small (n / 10 / 10) (by omega), show n / 10 / 10 = n / 100 by omega]; rfl
theorem parse_reason (n : Nat) (h : n ≤ 255) : Lib.parseIntB 64 (Lib.decDigits n) = .ok (n : Int) := by
  rw [dec_reason n h]
  have H : ∀ n : Fin 256, Lib.parseIntB 64 (if n.val < 10 then [UInt8.ofNat (48 + n.val)] else if n.val < 100 then [UInt8.ofNat (48 + n.val / 10), UInt8.ofNat (48 + n.val % 10)] else [UInt8.ofNat (48 + n.val / 100), UInt8.ofNat (48 + n.val / 10 % 10), UInt8.ofNat (48 + n.val % 10)]) = .ok (n.val : Int) := by
    decide +kernel
  exact H ⟨n, by omega⟩
end Go.Proofs.YtmejbkfamapnkaaGreatDoor
end

/- What a string seems to denote: missing values. The contract of strconv.ParseInt is a premise. -/
section
namespace Go.Proofs.YtmejbkfamapnkaaGreatDoor
open Go.RowKit Go.Deep

set_option maxHeartbeats 400000 in
theorem c_missingN (n : Int) (w : World) : Calls Tryz.prog 67 #[.int .i64 n] w fun e w' => e = .returned (V 0 n 0 noS) ∧ Below w.heap.size w w' := by
  go_enter Tryz.func67, Tryz.ntmps67
  go_wp2
  exact bodyPost_ret (v := V 0 n 0 noS) (by simp [results, Tryz.results67, go_sem]) rfl ⟨rfl, (Below.refl _ _).alloc (Nat.le_refl _) _⟩

set_option maxRecDepth 100000 in
set_option maxHeartbeats 4000000 in
theorem v_seem_missing (s : ByteArray) (l : List UInt8) (v : Int) (ev : Value) (w : World) (hs : s.data.toList = 63 :: l)
    (HI : ∀ W, Calls Tryz.prog 66 #[.string ⟨l.toArray⟩, .int .i64 10, .int .i64 64] W fun e w' => e = .returned (.tuple #[.int .i64 v, ev]) ∧ Below W.heap.size W w') :
    Calls Tryz.prog 25 #[.string s] w fun e w' => e = .returned (V 0 v 0 noS) ∧ Below w.heap.size w w' := by
  have HP : Hid (∀ W, Calls Tryz.prog 65 #[.string s, .string ⟨#[63]⟩] W fun e w' => e = .returned (.tuple #[.string ⟨l.toArray⟩, .bool true]) ∧ w' = W) := fun W => by
    have h9 := Tryz.strings_CutPrefix s ⟨#[63]⟩ W
    have e1 : Lib.hasPrefix s.data.toList (⟨#[63]⟩ : ByteArray).data.toList = true := by rw [hs]; simp [Lib.hasPrefix, List.isPrefixOf]
    have e2 : Lib.trimPrefix s.data.toList (⟨#[63]⟩ : ByteArray).data.toList = l := by unfold Lib.trimPrefix; rw [e1, hs]; rfl
    rw [e1, e2] at h9
    exact h9
  have e1 : (s.toList == [116, 114, 117, 101]) = false := by rw [beq_eq_false_iff_ne, ByteArray.toList_eq, hs]; simp
  have e2 : (s.toList == [102, 97, 108, 115, 101]) = false := by rw [beq_eq_false_iff_ne, ByteArray.toList_eq, hs]; simp
  have HII := Lib.hid HI
  have HMi := Lib.hid (fun W => c_missingN v W)
  obtain ⟨W0, hW0, hB0, hz0, KR⟩ := valz_box w
  have HB0 := Lib.hid hB0
  clear hB0 hs HI
  go_enter Tryz.func25, Tryz.ntmps25
  go_wp2_with fail
  refine (HP.out _).mono ?_
  rintro e w1 ⟨rfl, hw⟩
  subst w1
  go_wp2_with fail
  refine (HII.out _).mono ?_
  rintro e w1 ⟨rfl, hb1⟩
  have HB1 := Lib.hid hb1
  clear hb1
  go_wp2_with fail
  refine (HMi.out _).mono ?_
  rintro e w2 ⟨rfl, hb2⟩
  have HB2 := Lib.hid (btr HB1.out hb2)
  have hh2 := KR.out w2 HB2.out
  obtain ⟨r0, r1, r2, r3, f0, f1, f2, f3⟩ := res_at hh2
  have HH2 := Lib.hid hh2
  clear hh2 hb2
  go_wp2
  exact bodyPost_ret (v := V 0 v 0 noS) (results_cell_row Tryz.results25 _ _ w.heap.size 24 _ (0, 0) _ rfl (put4 HH2.out _ _ _ _) Tryz.underlying24 rfl (by rw [info_v4]; rfl)) rfl ⟨rfl, below4 (btr HB0.out HB2.out) _ (Nat.le_refl _) _ _ _ _⟩
end Go.Proofs.YtmejbkfamapnkaaGreatDoor
end

/- No two values have one string. -/
section
namespace Go.Proofs.YtmejbkfamapnkaaGreatDoor
open Go.RowKit Go.Deep

theorem txt_inj {p q : Rat} (h : txt p = txt q) : p = q := by
  obtain ⟨_, b1, n1, d1⟩ := txt_parts p
  obtain ⟨_, b2, n2, d2⟩ := txt_parts q
  rw [h] at b1 n1 d1
  have hd : p.den = q.den := by rw [← d1, ← d2]
  have hn : p.num.natAbs = q.num.natAbs := by rw [← n1, ← n2]
  have hb : (p.num < 0) ↔ (q.num < 0) := by rw [← decide_eq_decide, ← b1, ← b2]
  exact Rat.ext (by omega) hd
theorem txt_head (q : Rat) : ∃ a l, txt q = a :: l ∧ (a = 45 ∨ (48 ≤ a.toNat ∧ a.toNat ≤ 57)) := by
  unfold txt ratText
  cases hq : decide (q.num < 0) with
  | true => exact ⟨45, _, rfl, .inl rfl⟩
  | false =>
    have h1 := dec_digit q.num.natAbs
    cases hd : Lib.decDigits q.num.natAbs with
    | nil => exact absurd hd (dec_ne _)
    | cons a l =>
      rw [hd] at h1
      exact ⟨a, _, rfl, .inr (h1 a List.mem_cons_self)⟩
theorem txt_not (q : Rat) (c : UInt8) (l : List UInt8) (hc : c ≠ 45) (hd : ¬ (48 ≤ c.toNat ∧ c.toNat ≤ 57)) : txt q ≠ c :: l := fun h => by
  obtain ⟨a, m, e, ha⟩ := txt_head q
  rw [e] at h
  injection h with h1 _
  subst h1
  rcases ha with h2 | h2
  · exact hc h2
  · exact hd h2
/-- The string of a value, as a list. -/
inductive PrnL : Int → Int → Int → ByteArray → List UInt8 → Prop
  | missing (n : Nat) : PrnL 0 n 0 noS (63 :: Lib.decDigits n)
  | yes : PrnL 1 1 0 noS [116, 114, 117, 101]
  | no : PrnL 1 0 0 noS [102, 97, 108, 115, 101]
  | num (n d : Int) (h : Low n d) : PrnL 2 n d noS (txt (qV n d))
  | text (s : ByteArray) : PrnL 3 0 0 s (39 :: quo s.data.toList ++ [39])
theorem prnL_of {k n d : Int} {s : ByteArray} (h : okB k n d s = true) : PrnL k n d s (prnV k n d s).data.toList := by
  have hp : prnV k n d s = if k = 0 then ⟨(63 :: Lib.decDigits n.toNat).toArray⟩ else if k = 1 then (if n = 1 then ⟨#[116, 114, 117, 101]⟩ else ⟨#[102, 97, 108, 115, 101]⟩) else if k = 2 then ⟨(txt (qV n d)).toArray⟩ else ⟨(39 :: quo s.data.toList ++ [39]).toArray⟩ := if_pos h
  rw [hp]
  have hg := okB_good.1 h
  clear hp h
  cases hg with
  | missing n h1 h2 =>
    obtain ⟨m, rfl⟩ : ∃ m : Nat, n = (m : Int) := ⟨n.toNat, by omega⟩
    rw [if_pos rfl, Int.toNat_natCast]
    exact .missing m
  | truth t =>
    rw [if_neg (by decide), if_pos rfl]
    cases t
    · exact .no
    · exact .yes
  | num n d h =>
    rw [if_neg (by decide), if_neg (by decide), if_pos rfl]
    exact .num n d h
  | text s h =>
    rw [if_neg (by decide), if_neg (by decide), if_neg (by decide)]
    exact .text s
theorem prnL_inj {k n d k' n' d' : Int} {s s' : ByteArray} {l : List UInt8} (h : PrnL k n d s l) (h' : PrnL k' n' d' s' l) : k = k' ∧ n = n' ∧ d = d' ∧ s = s' := by
  generalize hl : l = l' at h'
  cases h with
  | missing n =>
    cases h' with
    | missing m =>
      injection hl with _ h2
      have := congrArg decN h2
      rw [decN_dec, decN_dec] at this
      subst this
      exact ⟨rfl, rfl, rfl, rfl⟩
    | yes => injection hl with h1 _; exact absurd h1 (by decide)
    | no => injection hl with h1 _; exact absurd h1 (by decide)
    | num n d h => exact absurd hl.symm (txt_not _ _ _ (by decide) (by decide))
    | text s => injection hl with h1 _; exact absurd h1 (by decide)
  | yes =>
    cases h' with
    | missing m => injection hl with h1 _; exact absurd h1 (by decide)
    | yes => exact ⟨rfl, rfl, rfl, rfl⟩
    | no => injection hl with h1 _; exact absurd h1 (by decide)
    | num n d h => exact absurd hl.symm (txt_not _ _ _ (by decide) (by decide))
    | text s => injection hl with h1 _; exact absurd h1 (by decide)
  | no =>
    cases h' with
    | missing m => injection hl with h1 _; exact absurd h1 (by decide)
    | yes => injection hl with h1 _; exact absurd h1 (by decide)
    | no => exact ⟨rfl, rfl, rfl, rfl⟩
    | num n d h => exact absurd hl.symm (txt_not _ _ _ (by decide) (by decide))
    | text s => injection hl with h1 _; exact absurd h1 (by decide)
  | num n d h =>
    cases h' with
    | missing m => exact absurd hl (txt_not _ _ _ (by decide) (by decide))
    | yes => exact absurd hl (txt_not _ _ _ (by decide) (by decide))
    | no => exact absurd hl (txt_not _ _ _ (by decide) (by decide))
    | num n' d' h' =>
      have e := txt_inj hl
      have e1 := congrArg Rat.num e
      have e2 := congrArg Rat.den e
      rw [qV_num h, qV_num h'] at e1
      rw [qV_den h, qV_den h'] at e2
      have a1 := h.2.2.1
      have a2 := h'.2.2.1
      exact ⟨rfl, e1, by omega, rfl⟩
    | text s => exact absurd hl (txt_not _ _ _ (by decide) (by decide))
  | text s =>
    cases h' with
    | missing m => injection hl with h1 _; exact absurd h1 (by decide)
    | yes => injection hl with h1 _; exact absurd h1 (by decide)
    | no => injection hl with h1 _; exact absurd h1 (by decide)
    | num n d h => exact absurd hl.symm (txt_not _ _ _ (by decide) (by decide))
    | text s' =>
      have h1 : quo s.data.toList ++ [39] = quo s'.data.toList ++ [39] := by
        have := List.cons.inj hl
        exact this.2
      have h2 := List.append_cancel_right h1
      have h3 := congrArg (fun l => Lib.replaceAll l [39, 39] [39]) h2
      have h4 : s.data.toList = s'.data.toList := by
        have e := h3
        simp only [replaceAll_unquo] at e
        exact e
      have h5 : s = s' := by
        apply ByteArray.ext
        exact Array.toList_inj.1 h4
      exact ⟨rfl, rfl, rfl, h5⟩
/-- Two values with one string are one value. -/
theorem prnV_inj {k n d k' n' d' : Int} {s s' : ByteArray} (h : okB k n d s = true) (h' : okB k' n' d' s' = true) (e : prnV k n d s = prnV k' n' d' s') : k = k' ∧ n = n' ∧ d = d' ∧ s = s' := by
  have h1 := prnL_of h
  rw [e] at h1
  exact prnL_inj h1 (prnL_of h')
end Go.Proofs.YtmejbkfamapnkaaGreatDoor
end

/- A valid value is read again from its string. -/
section
namespace Go.Proofs.YtmejbkfamapnkaaGreatDoor
open Go.RowKit Go.Deep

theorem val_of_low {n d : Int} (h : Low n d) : valK (qV n d) = 2 ∧ valN (qV n d) = n ∧ valD (qV n d) = d := by
  have h1 := qV_num h
  have h2 := qV_den h
  have hs : Small (qV n d) := by
    obtain ⟨a, b, c, e, _⟩ := h
    exact ⟨by rw [h1]; omega, by rw [h2]; omega⟩
  refine ⟨if_pos hs, (if_pos hs).trans h1, (if_pos hs).trans ?_⟩
  rw [h2]
  have := h.2.2.1
  omega
theorem below_bytes (w : World) (e : TypeId) (s : ByteArray) : Below w.heap.size w (Lib.bytesWorld w e s) :=
  ⟨rfl, rfl, rfl, by rw [Lib.bytesWorld_size]; omega, fun k hk => Lib.bytesWorld_at_old w e s k hk⟩
theorem ba_lit {s : ByteArray} {l : List UInt8} (h : s.data.toList = l) : s = ⟨l.toArray⟩ := by
  apply ByteArray.ext
  apply Array.toList_inj.1
  rw [h]

set_option maxRecDepth 100000 in
set_option maxHeartbeats 4000000 in
/-- Read of what Print returns of a value: the value, if it is valid. -/
theorem v_ReadP (k n d : Int) (s : ByteArray) (m : Int) (w : World) (htab : Tab w) (hm : w.cell? ⟨5, 0, none⟩ = some (.int .i64 m)) :
    Calls Tryz.prog 6 #[.string (prnV k n d s)] w fun e w' => ∃ k' n' d' s' h, e = .returned (.tuple #[V k' n' d' s', .int .i64 h]) ∧ (okB k n d s = true → k' = k ∧ n' = n ∧ d' = d ∧ s' = s ∧ h = 0) ∧ Below w.heap.size w w' := by
  have h0 : 5 < w.heap.size := by
    by_cases h : 5 < w.heap.size
    · exact h
    · exfalso
      have : w.heap[5]? = none := Array.getElem?_eq_none (by omega)
      simp [World.cell?, this] at hm
  have hM : ∀ W, Below w.heap.size w W → W.cell? ⟨5, 0, none⟩ = some (.int .i64 m) := fun W hW => (hW.cell (p := ⟨5, 0, none⟩) h0).trans hm
  by_cases hok : okB k n d s = true
  · have good : (∀ W, Below w.heap.size w W → Calls Tryz.prog 25 #[.string (prnV k n d s)] W fun e w' => e = .returned (V k n d s) ∧ Below W.heap.size W w') →
        Calls Tryz.prog 6 #[.string (prnV k n d s)] w fun e w' => ∃ k' n' d' s' h, e = .returned (.tuple #[V k' n' d' s', .int .i64 h]) ∧ (okB k n d s = true → k' = k ∧ n' = n ∧ d' = d ∧ s' = s ∧ h = 0) ∧ Below w.heap.size w w' := fun HA => by
      refine (v_Read (prnV k n d s) k n d s m w htab hm HA).mono ?_
      rintro e w' ⟨h1, _, h3⟩
      exact ⟨k, n, d, s, 0, h1 ⟨hok, rfl⟩, fun _ => ⟨rfl, rfl, rfl, rfl, rfl⟩, h3⟩
    apply good
    clear good
    have hp := prnL_of hok
    have hg := okB_good.1 hok
    have hz : (prnV k n d s).data.toList.length = (prnV k n d s).size := by simp
    generalize prnV k n d s = P at *
    generalize hl : P.data.toList = l at *
    intro W hW
    cases hp with
    | missing r =>
      have hr : r ≤ 255 := by
        cases hg with
        | missing _ h1 h2 => omega
      refine v_seem_missing P (Lib.decDigits r) (r : Int) .nilIface W hl fun W' => ?_
      have h9 : Lib.parseIntB 64 (⟨(Lib.decDigits r).toArray⟩ : ByteArray).data.toList = .ok (r : Int) := by
        show Lib.parseIntB 64 (Lib.decDigits r).toArray.toList = _
        rw [List.toList_toArray]
        exact parse_reason r hr
      refine (Tryz.strconv_ParseInt_10_at64_ok ⟨(Lib.decDigits r).toArray⟩ ?_ (r : Int) h9 W').mono ?_
      · show (Lib.decDigits r).toArray.size ≤ _
        rw [List.size_toArray, dec_reason r hr]
        split
        · simp
        · split <;> simp
      · rintro e w' ⟨rfl, rfl | ⟨t, rfl⟩⟩
        · exact ⟨rfl, Below.refl _ _⟩
        · exact ⟨rfl, below_bytes _ _ _⟩
    | yes =>
      rw [ba_lit hl]
      exact v_seem_true W
    | no =>
      rw [ba_lit hl]
      exact v_seem_false W
    | num _ _ h =>
      obtain ⟨e1, e2, e3⟩ := val_of_low h
      have k1 := ratW_qV h
      have ne : ∀ (a : UInt8) (l' : List UInt8), a ≠ 45 → ¬ (48 ≤ a.toNat ∧ a.toNat ≤ 57) → P.toList ≠ a :: l' := fun a l' h1 h2 h3 => by
        rw [ByteArray.toList_eq, hl] at h3
        exact txt_not _ a l' h1 h2 h3
      have np : ∀ a : UInt8, a ≠ 45 → ¬ (48 ≤ a.toNat ∧ a.toNat ≤ 57) → Lib.hasPrefix P.data.toList [a] = false := fun a h1 h2 => by
        rw [hl]
        cases ht : txt (qV n d) with
        | nil => rfl
        | cons b l' =>
          by_cases hb : b = a
          · subst hb
            exact absurd ht (txt_not _ b l' h1 h2)
          · simp [Lib.hasPrefix, List.isPrefixOf]
            exact fun e => hb e.symm
      have hlen : (txt (qV n d)).length ≤ 10000 := by
        have hn1 : (Lib.decDigits (qV n d).num.natAbs).length ≤ 20 * (nw (qV n d).num.natAbs + 1) := dec_len_words _ _ (Nat.lt_of_lt_of_le (lt_nw _) (Nat.pow_le_pow_right W64_pos (Nat.le_succ _))) (Nat.succ_pos _)
        have hd1 : (Lib.decDigits (qV n d).den).length ≤ 20 * (nw (qV n d).den + 1) := dec_len_words _ _ (Nat.lt_of_lt_of_le (lt_nw _) (Nat.pow_le_pow_right W64_pos (Nat.le_succ _))) (Nat.succ_pos _)
        have h1 := k1.1
        have h2 := k1.2
        unfold txt ratText
        rw [List.length_append, List.length_append]
        have e1 : (if decide ((qV n d).num < 0) = true then [45] else ([] : List UInt8)).length ≤ 1 := by split <;> simp
        have e2 : (if (qV n d).den = 1 then [] else 47 :: Lib.decDigits (qV n d).den).length ≤ 1 + (Lib.decDigits (qV n d).den).length := by split <;> simp <;> omega
        omega
      refine (v_seem_num P m W (by omega) (hM W hW) (ne 116 _ (by decide) (by decide)) (ne 102 _ (by decide) (by decide)) (np 63 (by decide) (by decide)) (np 39 (by decide) (by decide))).mono ?_
      rintro e w' ⟨h9, hb⟩
      rcases h9 with ⟨q, hq, rfl⟩ | ⟨h8, _⟩
      · obtain rfl := txt_inj (hl.symm.trans hq)
        rw [e1, e2, e3]
        exact ⟨rfl, hb⟩
      · exact absurd hl (h8 _)
    | text _ =>
      cases hg with
      | text _ ht => exact v_seem_text P s m W ht hl (hM W hW)
  · have hk : okB k n d s = false := by simpa using hok
    have hP : prnV k n d s = ⟨#[]⟩ := if_neg hok
    rw [hP]
    refine (v_Read ⟨#[]⟩ 0 0 0 noS m w htab hm fun W hW => ?_).mono ?_
    · refine (v_seem_num ⟨#[]⟩ m W (by decide) (hM W hW) (by rw [ByteArray.toList_eq]; simp) (by rw [ByteArray.toList_eq]; simp) rfl rfl).mono ?_
      rintro e w' ⟨h9, hb⟩
      rcases h9 with ⟨q, hq, rfl⟩ | ⟨_, rfl⟩
      · exfalso
        obtain ⟨a, l, h7, _⟩ := txt_head q
        rw [h7] at hq
        cases hq
      · exact ⟨rfl, hb⟩
    · rintro e w' ⟨_, h2, h3⟩
      refine ⟨0, 0, 0, noS, 7, h2 ?_, fun h => absurd h hok, h3⟩
      rintro ⟨h8, _⟩
      simp [okB] at h8
end Go.Proofs.YtmejbkfamapnkaaGreatDoor
end

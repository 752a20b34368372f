/- ExactReads: whatever the string, the value that it is for the program, or that it is none, is the document's own answer: the law returns true. Its row lists package-level variables of Go's library, tied to the program's text by the card. -/
import Derived.Test.YtmejbkfamapnkaaGreatDoorZFmt
import Derived.Test.YtmejbkfamapnkaaGreatDoorZRow
import Derived.Stop.LaidErr
import Derived.Lib.LaidTab
import Derived.Test.YtmejbkfamapnkaaGreatDoorZSeeG
import Derived.Test.YtmejbkfamapnkaaGreatDoorZGue9
import Derived.Test.YtmejbkfamapnkaaGreatDoorZWk
import Derived.LaidLaws
import Derived.Test.YtmejbkfamapnkaaGreatDoorTie
import Derived.Test.YtmejbkfamapnkaaGreatDoorCards
import Derived.SevenTiedAt

/- From the row's condition to the walk: the table of powers of ten. -/
section
namespace Go.Proofs.YtmejbkfamapnkaaGreatDoor
open Go.ChangeShapes Go.WideShapes Go.ChangeAt Go.RowKit

/-- The table that every row of this layer lists third. -/
theorem tab_of {W : World} {x y : String × DataW Unit} {r : List (String × DataW Unit)} (h : laidMet Tryz.prog (x :: y :: ("internal/strconv.uint64pow10", Rows.laid_internal_strconv_uint64pow10) :: r) W) : Tab W :=
  have h' : laidMet Tryz.prog (("internal/strconv.uint64pow10", Lib.tabData .u64 Lib.pow10Tab) :: r) W := h.tail.tail
  Lib.tabIs_of_head (g := 2) (t := 201) (e := 72) (n := 20) (by kernel_rfl) (by kernel_rfl) (by kernel_rfl) (by kernel_rfl) (by kernel_rfl) (by kernel_rfl) h'
end Go.Proofs.YtmejbkfamapnkaaGreatDoor
end

/- What a string seems to denote, whatever the string: some value. -/
section
namespace Go.Proofs.YtmejbkfamapnkaaGreatDoor
open Go.RowKit Go.Deep

/-- The library's errors lie in their variables. -/
def Errs (w : World) : Prop := (∃ ev, w.cell? ⟨3, 0, none⟩ = some ev ∧ (ev = .nilIface ∨ ∃ te pe, ev = .iface te pe)) ∧ (∃ ev, w.cell? ⟨4, 0, none⟩ = some ev ∧ (ev = .nilIface ∨ ∃ te pe, ev = .iface te pe))
theorem Errs.below {w w' : World} (h : Errs w) (hb : Below w.heap.size w w') : Errs w' := by
  obtain ⟨⟨e1, h1, h2⟩, ⟨e3, h3, h4⟩⟩ := h
  exact ⟨⟨e1, (hb.cell (p := ⟨3, 0, none⟩) (Lib.lt_of_cell h1)).trans h1, h2⟩, ⟨e3, (hb.cell (p := ⟨4, 0, none⟩) (Lib.lt_of_cell h3)).trans h3, h4⟩⟩
/-- ParseInt of any string: some integer, whatever the error. -/
theorem parse_any (s : ByteArray) (hs : s.size ≤ 10000) : ∃ v : Int, ∀ W, Errs W → Calls Tryz.prog 66 #[.string s, .int .i64 10, .int .i64 64] W fun e w' => (∃ ev, e = .returned (.tuple #[.int .i64 v, ev])) ∧ Below W.heap.size W w' := by
  rcases hc : Lib.parseIntB 64 s.data.toList with v | _ | _
  · refine ⟨v, fun W _ => (Tryz.strconv_ParseInt_10_at64_ok s (by omega) v hc W).mono ?_⟩
    rintro e w' ⟨rfl, rfl | ⟨t, rfl⟩⟩
    · exact ⟨⟨_, rfl⟩, Below.refl _ _⟩
    · exact ⟨⟨_, rfl⟩, below_bytes _ _ _⟩
  · refine ⟨0, fun W hE => ?_⟩
    obtain ⟨⟨e1, h1, h2⟩, _⟩ := hE
    refine (Any.strconv_ParseInt_10_at64_syntax Tryz.laysC174 s (by omega) hc e1 W h1 h2).mono ?_
    rintro e w' ⟨N, rfl, _, _, hb⟩
    exact ⟨⟨_, rfl⟩, hb⟩
  · refine ⟨Lib.intSat 64 s.data.toList, fun W hE => ?_⟩
    obtain ⟨_, ⟨e1, h1, h2⟩⟩ := hE
    refine (Any.strconv_ParseInt_10_at64_range Tryz.laysC174 s (by omega) hc e1 W h1 h2).mono ?_
    rintro e w' ⟨N, rfl, _, _, hb⟩
    exact ⟨⟨_, rfl⟩, hb⟩
set_option maxRecDepth 100000 in
set_option maxHeartbeats 4000000 in
theorem v_seem_missingA (s : ByteArray) (l : List UInt8) (v : Int) (w : World) (hs : s.data.toList = 63 :: l)
    (HI : ∀ W, Below w.heap.size w W → Calls Tryz.prog 66 #[.string ⟨l.toArray⟩, .int .i64 10, .int .i64 64] W fun e w' => (∃ ev, e = .returned (.tuple #[.int .i64 v, ev])) ∧ Below W.heap.size W w') :
    Calls Tryz.prog 25 #[.string s] w fun e w' => e = .returned (V 0 v 0 noS) ∧ Below w.heap.size w w' := by
  have HP : Hid (∀ W, Calls Tryz.prog 65 #[.string s, .string ⟨#[63]⟩] W fun e w' => e = .returned (.tuple #[.string ⟨l.toArray⟩, .bool true]) ∧ w' = W) := fun W => by
    have h9 := Tryz.strings_CutPrefix s ⟨#[63]⟩ W
    have e1 : Lib.hasPrefix s.data.toList (⟨#[63]⟩ : ByteArray).data.toList = true := by rw [hs]; simp [Lib.hasPrefix, List.isPrefixOf]
    have e2 : Lib.trimPrefix s.data.toList (⟨#[63]⟩ : ByteArray).data.toList = l := by unfold Lib.trimPrefix; rw [e1, hs]; rfl
    rw [e1, e2] at h9
    exact h9
  have e1 : (s.toList == [116, 114, 117, 101]) = false := by rw [beq_eq_false_iff_ne, ByteArray.toList_eq, hs]; simp
  have e2 : (s.toList == [102, 97, 108, 115, 101]) = false := by rw [beq_eq_false_iff_ne, ByteArray.toList_eq, hs]; simp
  have HII := Lib.hid HI
  have HMi := Lib.hid (fun W => c_missingN v W)
  obtain ⟨W0, hW0, hB0, hz0, KR⟩ := valz_box w
  have HB0 := Lib.hid hB0
  clear hB0 hs HI
  go_enter Tryz.func25, Tryz.ntmps25
  go_wp2_with fail
  refine (HP.out _).mono ?_
  rintro e w1 ⟨rfl, hw⟩
  subst w1
  go_wp2_with fail
  refine (HII.out _ HB0.out).mono ?_
  rintro e w1 ⟨⟨ev, rfl⟩, hb1⟩
  have HB1 := Lib.hid hb1
  clear hb1
  go_wp2_with fail
  refine (HMi.out _).mono ?_
  rintro e w2 ⟨rfl, hb2⟩
  have HB2 := Lib.hid (btr HB1.out hb2)
  have hh2 := KR.out w2 HB2.out
  obtain ⟨r0, r1, r2, r3, f0, f1, f2, f3⟩ := res_at hh2
  have HH2 := Lib.hid hh2
  clear hh2 hb2
  go_wp2
  exact bodyPost_ret (v := V 0 v 0 noS) (results_cell_row Tryz.results25 _ _ w.heap.size 24 _ (0, 0) _ rfl (put4 HH2.out _ _ _ _) Tryz.underlying24 rfl (by rw [info_v4]; rfl)) rfl ⟨rfl, below4 (btr HB0.out HB2.out) _ (Nat.le_refl _) _ _ _ _⟩
set_option maxRecDepth 100000 in
set_option maxHeartbeats 4000000 in
theorem v_seem_textA (s : ByteArray) (l : List UInt8) (w : World) (m : Int) (hs : s.data.toList = 39 :: l) (h2 : 2 ≤ s.size) (hmx : s.size ≤ 400) (hm : w.cell? ⟨5, 0, none⟩ = some (.int .i64 m)) :
    Calls Tryz.prog 25 #[.string s] w fun e w' => e = .returned (V 3 0 0 ⟨(Lib.replaceAll (s.extract 1 (s.size - 1)).data.toList [39, 39] [39]).toArray⟩) ∧ Below w.heap.size w w' := by
  have h0 : 5 < w.heap.size := Lib.lt_of_cell hm
  have HR : Hid (∀ W x, Below w.heap.size w W → x = s.extract 1 (s.size - 1) → Calls Tryz.prog 63 #[.string x, .string ⟨#[39, 39]⟩, .string ⟨#[39]⟩] W fun e w' => e = .returned (.string ⟨(Lib.replaceAll (s.extract 1 (s.size - 1)).data.toList [39, 39] [39]).toArray⟩) ∧ Below W.heap.size W w') := fun W x hW hx => by
    subst hx
    have hz : (s.extract 1 (s.size - 1)).size ≤ 400 := by rw [ByteArray.size_extract]; omega
    exact Tryz.strings_ReplaceAll _ ⟨#[39, 39]⟩ ⟨#[39]⟩ m W (by omega) ((hW.cell (p := ⟨5, 0, none⟩) h0).trans hm) (by decide) (by
      have e1 : Lib.countB (s.extract 1 (s.size - 1)) ⟨#[39, 39]⟩ ≤ 400 := by
        have h8 := Lib.countB_mul_le ⟨#[39, 39]⟩ (by decide) _ _ hz
        have e2 : (⟨#[39, 39]⟩ : ByteArray).size = 2 := rfl
        rw [e2] at h8
        omega
      have e2 : (⟨#[39]⟩ : ByteArray).size = 1 := rfl
      rw [e2]; omega)
  generalize (⟨(Lib.replaceAll (s.extract 1 (s.size - 1)).data.toList [39, 39] [39]).toArray⟩ : ByteArray) = t at *
  have HP : Hid (∀ W, Calls Tryz.prog 65 #[.string s, .string ⟨#[63]⟩] W fun e w' => e = .returned (.tuple #[.string s, .bool false]) ∧ w' = W) := fun W => by
    have h9 := Tryz.strings_CutPrefix s ⟨#[63]⟩ W
    have e1 : Lib.hasPrefix s.data.toList (⟨#[63]⟩ : ByteArray).data.toList = false := by rw [hs]; simp [Lib.hasPrefix, List.isPrefixOf]
    have e2 : Lib.trimPrefix s.data.toList (⟨#[63]⟩ : ByteArray).data.toList = s.data.toList := by unfold Lib.trimPrefix; rw [e1]; rfl
    rw [e1, e2] at h9
    exact h9
  have e1 : (s.toList == [116, 114, 117, 101]) = false := by rw [beq_eq_false_iff_ne, ByteArray.toList_eq, hs]; simp
  have e2 : (s.toList == [102, 97, 108, 115, 101]) = false := by rw [beq_eq_false_iff_ne, ByteArray.toList_eq, hs]; simp
  have h50 : 0 < s.size := by omega
  have h51 : (2 : Int) ≤ s.size := by omega
  have h52 : ((s[0].toNat : Int) == 39) = true := by
    have : s[0] = s.data.toList[0]'(by rw [hs]; simp) := rfl
    rw [this]
    simp [hs]
  have h53 : (s.size : Int) ≤ 400 := by omega
  obtain ⟨W0, hW0, hB0, hz0, KR⟩ := valz_box w
  have HB0 := Lib.hid hB0
  clear hB0 hm h0 hs hmx h2
  go_enter Tryz.func25, Tryz.ntmps25
  go_wp2_with fail
  refine (HP.out _).mono ?_
  rintro e w1 ⟨rfl, hw⟩
  subst w1
  go_wp2_with fail
  refine (HR.out _ _ HB0.out (by first | rfl | (congr 1; omega))).mono ?_
  rintro e w2 ⟨rfl, hb2⟩
  have HB2 := Lib.hid hb2
  have hcell := KR.out w2 HB2.out
  have hBf := btr HB0.out HB2.out
  clear hb2
  go_wp2_with (refine wpList_store_row 24 _ _ rfl rfl rfl w.heap.size 24 rfl [.int .i64 3, .int .i64 0, .int .i64 0, .string t] rfl _ hcell rfl info_val (val_one _ _ _ _) ?_; intro wz hhz hgz hzz; have HBz : Hid (Below w.heap.size w wz) := hBf.grown hgz hBf.size (fun j hj => by injection hj with hj; omega); clear hzz hgz hcell)
  exact bodyPost_ret (v := V 3 0 0 t) (results_cell_row Tryz.results25 _ _ w.heap.size 24 _ (0, 0) _ rfl hhz Tryz.underlying24 rfl (by rw [info_v4]; rfl)) rfl ⟨rfl, HBz.out⟩
/-- Whatever the string is, it seems to denote one value. -/
theorem seem_any (s : ByteArray) (m : Int) (w : World) (hs : s.size ≤ 400) (hm : w.cell? ⟨5, 0, none⟩ = some (.int .i64 m)) (hE : Errs w) :
    ∃ k n d t, ∀ W, Below w.heap.size w W → Calls Tryz.prog 25 #[.string s] W fun e w' => e = .returned (V k n d t) ∧ Below W.heap.size W w' := by
  have h0 : 5 < w.heap.size := Lib.lt_of_cell hm
  have hM : ∀ W, Below w.heap.size w W → W.cell? ⟨5, 0, none⟩ = some (.int .i64 m) := fun W hW => (hW.cell (p := ⟨5, 0, none⟩) h0).trans hm
  have hlen : s.data.toList.length = s.size := by simp
  by_cases h1 : s.data.toList = [116, 114, 117, 101]
  · rw [ba_lit h1]; exact ⟨_, _, _, _, fun W _ => v_seem_true W⟩
  by_cases h2 : s.data.toList = [102, 97, 108, 115, 101]
  · rw [ba_lit h2]; exact ⟨_, _, _, _, fun W _ => v_seem_false W⟩
  have g1 : s.toList ≠ [116, 114, 117, 101] := by rw [ByteArray.toList_eq]; exact h1
  have g2 : s.toList ≠ [102, 97, 108, 115, 101] := by rw [ByteArray.toList_eq]; exact h2
  have num : (h3 : Lib.hasPrefix s.data.toList [63] = false) → (¬ (2 : Int) ≤ s.size ∨ ∃ h : 0 < s.size, (2 : Int) ≤ s.size ∧ ((s[0].toNat : Int) == 39) = false) →
      ∃ k n d t, ∀ W, Below w.heap.size w W → Calls Tryz.prog 25 #[.string s] W fun e w' => e = .returned (V k n d t) ∧ Below W.heap.size W w' := fun h3 h5 => by
    by_cases hq : ∃ q, s.data.toList = txt q
    · obtain ⟨q, hq⟩ := hq
      refine ⟨valK q, valN q, valD q, noS, fun W hW => (v_seem_numA s m W (by omega) (hM W hW) g1 g2 h3 h5).mono ?_⟩
      rintro e w' ⟨⟨q', h6, rfl⟩ | ⟨h6, _⟩, hb⟩
      · obtain rfl := txt_inj (hq.symm.trans h6)
        exact ⟨rfl, hb⟩
      · exact absurd hq (h6 q)
    · refine ⟨0, 0, 0, noS, fun W hW => (v_seem_numA s m W (by omega) (hM W hW) g1 g2 h3 h5).mono ?_⟩
      rintro e w' ⟨⟨q', h6, rfl⟩ | ⟨_, rfl⟩, hb⟩
      · exact absurd ⟨q', h6⟩ hq
      · exact ⟨rfl, hb⟩
  cases hl : s.data.toList with
  | nil =>
    rw [hl] at hlen
    refine num (by rw [hl]; rfl) (.inl ?_)
    have : s.size = 0 := hlen.symm
    omega
  | cons a l =>
    have hl1 : s.size = l.length + 1 := by rw [← hlen, hl]; rfl
    have hs0 : s[0]'(by omega) = a := by
      have : s[0]'(by omega) = s.data.toList[0]'(by rw [hl]; simp) := rfl
      rw [this]
      simp [hl]
    by_cases ha : a = 63
    · subst ha
      obtain ⟨v, hv⟩ := parse_any ⟨l.toArray⟩ (by show l.toArray.size ≤ _; simp; omega)
      exact ⟨_, _, _, _, fun W hW => v_seem_missingA s l v W hl fun W' hW' => hv W' (hE.below (btr hW hW'))⟩
    · have h3 : Lib.hasPrefix s.data.toList [63] = false := by
        rw [hl]
        simp [Lib.hasPrefix, List.isPrefixOf]
        exact fun e => ha e.symm
      by_cases hb : a = 39 ∧ 2 ≤ s.size
      · obtain ⟨rfl, hz⟩ := hb
        exact ⟨_, _, _, _, fun W hW => v_seem_textA s l W m hl hz hs (hM W hW)⟩
      · refine num h3 ?_
        by_cases hz : 2 ≤ s.size
        · refine .inr ⟨by omega, by omega, ?_⟩
          rw [beq_eq_false_iff_ne, hs0]
          intro h6
          apply hb
          refine ⟨UInt8.toNat_inj.1 ?_, hz⟩
          have : (39 : UInt8).toNat = 39 := rfl
          omega
        · exact .inl (by omega)
/-- Read: the value whose string it is, or none. -/
theorem v_ReadA (s : ByteArray) (m : Int) (w : World) (hs : s.size ≤ 400) (htab : Tab w) (hm : w.cell? ⟨5, 0, none⟩ = some (.int .i64 m)) (hE : Errs w) :
    (∃ k n d t, okB k n d t = true ∧ prnV k n d t = s ∧ Calls Tryz.prog 6 #[.string s] w fun e w' => e = .returned (.tuple #[V k n d t, .int .i64 0]) ∧ Below w.heap.size w w') ∨
    ((∀ k n d t, okB k n d t = true → prnV k n d t ≠ s) ∧ Calls Tryz.prog 6 #[.string s] w fun e w' => e = .returned (.tuple #[V 0 0 0 noS, .int .i64 7]) ∧ Below w.heap.size w w') := by
  by_cases h : ∃ k n d t, okB k n d t = true ∧ prnV k n d t = s
  · obtain ⟨k, n, d, t, hok, rfl⟩ := h
    refine .inl ⟨k, n, d, t, hok, rfl, (v_ReadP k n d t m w htab hm).mono ?_⟩
    rintro e w' ⟨k', n', d', t', h', rfl, h1, hb⟩
    obtain ⟨rfl, rfl, rfl, rfl, rfl⟩ := h1 hok
    exact ⟨rfl, hb⟩
  · have hn : ∀ k n d t, okB k n d t = true → prnV k n d t ≠ s := fun k n d t h1 h2 => h ⟨k, n, d, t, h1, h2⟩
    obtain ⟨k, n, d, t, hA⟩ := seem_any s m w hs hm hE
    refine .inr ⟨hn, (v_Read s k n d t m w htab hm hA).mono ?_⟩
    rintro e w' ⟨_, h2, h3⟩
    exact ⟨h2 (fun h4 => hn _ _ _ _ h4.1 h4.2), h3⟩
end Go.Proofs.YtmejbkfamapnkaaGreatDoor
end

/- ExactReads: the walk of the law. -/
section
namespace Go.Proofs.YtmejbkfamapnkaaGreatDoor
open Go.RowKit Go.Deep

theorem dec_len13 (x : Nat) (h : x ≤ 1099511627776) : (Lib.decDigits x).length ≤ 13 := dec_len_le 12 x (by omega)
theorem dec_len_pos (x : Nat) : 1 ≤ (Lib.decDigits x).length := by
  have := (dec_decL x).1
  exact List.length_pos_iff.2 this
theorem txt_low {n d : Int} (h : Low n d) : (txt (qV n d)).length ≤ 28 := by
  have h1 := qV_num h
  have h2 := qV_den h
  obtain ⟨a, b, c, e, _⟩ := h
  have k1 := dec_len13 (qV n d).num.natAbs (by rw [h1]; omega)
  have k2 := dec_len13 (qV n d).den (by rw [h2]; omega)
  unfold txt ratText
  rw [List.length_append, List.length_append]
  have e1 : (if decide ((qV n d).num < 0) = true then [45] else ([] : List UInt8)).length ≤ 1 := by split <;> simp
  have e2 : (if (qV n d).den = 1 then [] else 47 :: Lib.decDigits (qV n d).den).length ≤ 1 + (Lib.decDigits (qV n d).den).length := by split <;> simp <;> omega
  omega
theorem plain_of (s : ByteArray) (a : UInt8) (l : List UInt8) (hs : s.data.toList = a :: l) (h1 : a ≠ 39 ∨ l = []) (h2 : a ≠ 63 ∨ l = [] ∨ 4 ≤ l.length) : Plain s := by
  obtain ⟨hz, _, hp, h0⟩ := sl_two s l a hs
  have hi : ∀ c : UInt8, a ≠ c → ((s[0].toNat : Int) == (c.toNat : Int)) = false := fun c h => by
    rw [beq_eq_false_iff_ne, h0]
    intro e
    exact h (UInt8.toNat_inj.1 (by omega))
  by_cases hl : l = []
  · subst hl
    have : s.size = 1 := hz
    exact .inl (by omega)
  · have hl1 : 1 ≤ l.length := List.length_pos_iff.2 hl
    have g39 : a ≠ 39 := h1.resolve_right hl
    by_cases h63 : a = 63
    · rcases h2 with h | h | h
      · exact absurd h63 h
      · exact absurd h hl
      · exact .inr (.inr ⟨hp, by omega, by omega, hi 39 g39⟩)
    · exact .inr (.inl ⟨hp, by omega, hi 63 h63, hi 39 g39⟩)
/-- What is guessed of a string: the value whose string it is, if there is one. -/
theorem r_guess (s : ByteArray) (hs : s.size ≤ 400) : ∃ k n d t, t.size ≤ 60 ∧ Gue s k n d t ∧ (∀ k' n' d' t', okB k' n' d' t' = true → prnV k' n' d' t' = s → k' = k ∧ n' = n ∧ d' = d ∧ t' = t) := by
  have hlen : s.data.toList.length = s.size := by simp
  by_cases hv : ∃ k n d t, okB k n d t = true ∧ prnV k n d t = s
  · obtain ⟨k, n, d, t, hok, rfl⟩ := hv
    have hun : ∀ k' n' d' t', okB k' n' d' t' = true → prnV k' n' d' t' = prnV k n d t → k' = k ∧ n' = n ∧ d' = d ∧ t' = t := fun k' n' d' t' h e => prnV_inj h hok e
    have hp := prnL_of hok
    have hg := okB_good.1 hok
    generalize prnV k n d t = P at *
    generalize hl : P.data.toList = l at *
    cases hp with
    | missing r =>
      have hr : r ≤ 255 := by
        cases hg with
        | missing _ h1 h2 => omega
      have h3 : (Lib.decDigits r).length ≤ 3 := dec_len_le 2 r (by omega)
      have h9 := g_miss P (Lib.decDigits r) hl (dec_len_pos r) h3
      have e : missN (Lib.decDigits r) = r := by
        unfold missN
        rw [if_pos (dec_decL r), decN_dec]
      rw [e] at h9
      exact ⟨_, _, _, _, by decide, h9, hun⟩
    | yes =>
      rw [ba_lit hl] at hun ⊢
      exact ⟨_, _, _, _, by decide, g_true, hun⟩
    | no =>
      rw [ba_lit hl] at hun ⊢
      exact ⟨_, _, _, _, by decide, g_false, hun⟩
    | num _ _ h =>
      obtain ⟨e1, e2, e3⟩ := val_of_low h
      obtain ⟨a, l', ha, hc⟩ := txt_head (qV n d)
      have hal : P.data.toList = a :: l' := hl.trans ha
      have ne : ∀ c : UInt8, c ≠ 45 → ¬ (48 ≤ c.toNat ∧ c.toNat ≤ 57) → a ≠ c := fun c h1 h2 e => by
        subst e
        rcases hc with h | h
        · exact h1 h
        · exact h2 h
      have h9 := g_num P (by rw [hal]; intro e; injection e with e _; exact ne 116 (by decide) (by decide) e) (by rw [hal]; intro e; injection e with e _; exact ne 102 (by decide) (by decide) e)
        (plain_of P a l' hal (.inl (ne 39 (by decide) (by decide))) (.inl (ne 63 (by decide) (by decide)))) (by have := txt_low h; omega) (qV n d) hl
      rw [e1, e2, e3] at h9
      exact ⟨_, _, _, _, by decide, h9, hun⟩
    | text _ =>
      cases hg with
      | text _ ht =>
        have ht16 : t.data.toList.length ≤ 16 := by simpa using ht.1
        have h9 := g_text P (quo t.data.toList ++ [39]) (by rw [hl, List.cons_append]) (by simp) hs
        rw [show gt (39 :: (quo t.data.toList ++ [39])) 50 1 [] = t.data.toList from gt_text _ _ rfl ht16] at h9
        exact ⟨3, 0, 0, t, by have := ht.1; omega, h9, hun⟩
  · have hun : ∀ (k n d : Int) (t : ByteArray), ∀ k' n' d' t', okB k' n' d' t' = true → prnV k' n' d' t' = s → k' = k ∧ n' = n ∧ d' = d ∧ t' = t := fun k n d t k' n' d' t' h e => absurd ⟨k', n', d', t', h, e⟩ hv
    by_cases h1 : s.data.toList = [116, 114, 117, 101]
    · rw [ba_lit h1] at hun ⊢; exact ⟨_, _, _, _, by decide, g_true, hun _ _ _ _⟩
    by_cases h2 : s.data.toList = [102, 97, 108, 115, 101]
    · rw [ba_lit h2] at hun ⊢; exact ⟨_, _, _, _, by decide, g_false, hun _ _ _ _⟩
    have rest : Plain s → ∃ k n d t, t.size ≤ 60 ∧ Gue s k n d t ∧ (∀ k' n' d' t', okB k' n' d' t' = true → prnV k' n' d' t' = s → k' = k ∧ n' = n ∧ d' = d ∧ t' = t) := fun hp => by
      by_cases hq : s.size < 30 ∧ ∃ q, s.data.toList = txt q
      · obtain ⟨h30, q, hq⟩ := hq
        exact ⟨_, _, _, _, by decide, g_num s h1 h2 hp h30 q hq, hun _ _ _ _⟩
      · refine ⟨_, _, _, _, by decide, g_none s h1 h2 hp hs ?_, hun _ _ _ _⟩
        by_cases h30 : s.size < 30
        · exact .inr fun q e => hq ⟨h30, q, e⟩
        · exact .inl (by omega)
    cases hl : s.data.toList with
    | nil =>
      apply rest
      rw [hl] at hlen
      have : s.size = 0 := hlen.symm
      exact .inl (by omega)
    | cons a l =>
      have hz : s.size = l.length + 1 := by rw [← hlen, hl]; rfl
      by_cases h63 : a = 63 ∧ 1 ≤ l.length ∧ l.length ≤ 3
      · obtain ⟨rfl, b1, b2⟩ := h63
        exact ⟨_, _, _, _, by decide, g_miss s l hl b1 b2, hun _ _ _ _⟩
      by_cases h39 : a = 39 ∧ 1 ≤ l.length
      · obtain ⟨rfl, b1⟩ := h39
        refine ⟨_, _, _, _, ?_, g_text s l hl b1 hs, hun _ _ _ _⟩
        show (gt (39 :: l) 50 1 []).toArray.size ≤ 60
        have := gt_len (39 :: l) 50 1 []
        rw [List.size_toArray]
        have e : ([] : List UInt8).length = 0 := rfl
        omega
      · apply rest
        refine plain_of s a l hl ?_ ?_
        · by_cases e : a = 39
          · by_cases e2 : l = []
            · exact .inr e2
            · exact absurd ⟨e, List.length_pos_iff.2 e2⟩ h39
          · exact .inl e
        · by_cases e : a = 63
          · by_cases e2 : l = []
            · exact .inr (.inl e2)
            · have := List.length_pos_iff.2 e2
              exact .inr (.inr (by
                rcases Nat.lt_or_ge l.length 4 with h | h
                · exact absurd ⟨e, by omega, by omega⟩ h63
                · exact h))
          · exact .inl e

set_option maxRecDepth 100000 in
set_option maxHeartbeats 8000000 in
theorem r_Read (s : ByteArray) (k n d : Int) (t : ByteArray) (w : World) (ht : t.size ≤ 60) (hG : Gue s k n d t) :
    Calls Tryz.prog 7 #[.string s] w fun e w' => (okB k n d t = true ∧ prnV k n d t = s → e = .returned (.tuple #[V k n d t, .int .i64 0])) ∧ (¬ (okB k n d t = true ∧ prnV k n d t = s) → e = .returned (.tuple #[V 0 0 0 noS, .int .i64 7])) ∧ Below w.heap.size w w' := by
  have HPr : Hid (∀ W, Below w.heap.size w W → Calls Tryz.prog 27 #[V k n d t] W fun e w' => e = .returned (.tuple #[.string (prnV k n d t), .int .i64 (errB (okB k n d t))]) ∧ Below W.heap.size W w') :=
    fun W hW => r_Print k n d t W (by omega)
  have HS : Hid (∀ W, Below w.heap.size w W → Calls Tryz.prog 26 #[.string s] W fun e w' => e = .returned (V k n d t) ∧ Below W.heap.size W w') := fun W _ => hG W
  clear ht hG
  obtain ⟨W0, hW0, hB0, hz0, KR⟩ := valz_box w
  have HB0 := Lib.hid hB0
  clear hB0
  generalize prnV k n d t = P at *
  cases hok : okB k n d t
  · rw [hok] at HPr
    clear hok
    go_enter Tryz.func7, Tryz.ntmps7
    go_wp2_with fail
    refine (HS.out W0 HB0.out).mono ?_
    rintro e w1 ⟨rfl, hb1⟩
    have HB1 := Lib.hid hb1
    clear hb1
    obtain ⟨W2, hW2, hb2, K⟩ := kinds_of k n d t w1
    have HB2 := Lib.hid (btr HB1.out hb2)
    obtain ⟨k0, k1, k2, k3⟩ := K.out W2 (Below.refl _ _)
    clear hb2
    go_wp2_with fail
    refine (HPr.out W2 (btr HB0.out HB2.out)).mono ?_
    rintro e w3 ⟨rfl, hb3⟩
    have HB3 := Lib.hid (btr HB2.out hb3)
    have hcell := KR.out w3 HB3.out
    have hBf := btr HB0.out HB3.out
    clear hb3 k0 k1 k2 k3
    go_wp2_with (refine wpList_store_row 24 _ _ rfl rfl rfl w.heap.size 24 rfl [.int .i64 0, .int .i64 0, .int .i64 0, .string noS] rfl _ hcell rfl info_val (val_one _ _ _ _) ?_; intro wz hhz hgz hzz; have HBz : Hid (Below w.heap.size w wz) := hBf.grown hgz hBf.size (fun j hj => by injection hj with hj; omega); clear hzz hgz hcell)
    refine bodyPost_ret (v := .tuple #[V 0 0 0 noS, .int .i64 7]) (results_cell_tmp Tryz.results7 _ _ w.heap.size 24 _ (0, 0) _ rfl hhz Tryz.underlying24 rfl (by rw [info_val]; rfl)) rfl ?_
    exact ⟨fun h => absurd h.1 (by decide), fun _ => rfl, HBz.out⟩
  · rw [hok] at HPr
    clear hok
    by_cases hps : P = s
    · have heq : (P.toList == s.toList) = true := by rw [hps]; simp
      have HPS := Lib.hid hps
      clear hps
      go_enter Tryz.func7, Tryz.ntmps7
      go_wp2_with fail
      refine (HS.out W0 HB0.out).mono ?_
      rintro e w1 ⟨rfl, hb1⟩
      have HB1 := Lib.hid hb1
      clear hb1
      obtain ⟨W2, hW2, hb2, K⟩ := kinds_of k n d t w1
      have HB2 := Lib.hid (btr HB1.out hb2)
      obtain ⟨k0, k1, k2, k3⟩ := K.out W2 (Below.refl _ _)
      clear hb2
      go_wp2_with fail
      refine (HPr.out W2 (btr HB0.out HB2.out)).mono ?_
      rintro e w3 ⟨rfl, hb3⟩
      have HB3 := Lib.hid (btr HB2.out hb3)
      have hcell := KR.out w3 HB3.out
      have hBf := btr HB0.out HB3.out
      clear k0 k1 k2 k3
      obtain ⟨k0, k1, k2, k3⟩ := K.out w3 hb3
      clear hb3
      go_wp2_with (refine wpList_store_row 24 _ _ rfl rfl rfl w.heap.size 24 rfl [.int .i64 k, .int .i64 n, .int .i64 d, .string t] rfl _ hcell rfl info_val (val_one _ _ _ _) ?_; intro wz hhz hgz hzz; have HBz : Hid (Below w.heap.size w wz) := hBf.grown hgz hBf.size (fun j hj => by injection hj with hj; omega); clear hzz hgz hcell)
      refine bodyPost_ret (v := .tuple #[V k n d t, .int .i64 0]) (results_cell_tmp Tryz.results7 _ _ w.heap.size 24 _ (0, 0) _ rfl hhz Tryz.underlying24 rfl (by rw [info_val]; rfl)) rfl ?_
      exact ⟨fun _ => rfl, fun h => absurd ⟨by first | rfl | trivial, HPS.out⟩ h, HBz.out⟩
    · have heq : (P.toList == s.toList) = false := by rw [beq_eq_false_iff_ne]; exact fun h => hps (ba_inj h)
      have HPS := Lib.hid hps
      clear hps
      go_enter Tryz.func7, Tryz.ntmps7
      go_wp2_with fail
      refine (HS.out W0 HB0.out).mono ?_
      rintro e w1 ⟨rfl, hb1⟩
      have HB1 := Lib.hid hb1
      clear hb1
      obtain ⟨W2, hW2, hb2, K⟩ := kinds_of k n d t w1
      have HB2 := Lib.hid (btr HB1.out hb2)
      obtain ⟨k0, k1, k2, k3⟩ := K.out W2 (Below.refl _ _)
      clear hb2
      go_wp2_with fail
      refine (HPr.out W2 (btr HB0.out HB2.out)).mono ?_
      rintro e w3 ⟨rfl, hb3⟩
      have HB3 := Lib.hid (btr HB2.out hb3)
      have hcell := KR.out w3 HB3.out
      have hBf := btr HB0.out HB3.out
      clear k0 k1 k2 k3 hb3
      go_wp2_with (refine wpList_store_row 24 _ _ rfl rfl rfl w.heap.size 24 rfl [.int .i64 0, .int .i64 0, .int .i64 0, .string noS] rfl _ hcell rfl info_val (val_one _ _ _ _) ?_; intro wz hhz hgz hzz; have HBz : Hid (Below w.heap.size w wz) := hBf.grown hgz hBf.size (fun j hj => by injection hj with hj; omega); clear hzz hgz hcell)
      refine bodyPost_ret (v := .tuple #[V 0 0 0 noS, .int .i64 7]) (results_cell_tmp Tryz.results7 _ _ w.heap.size 24 _ (0, 0) _ rfl hhz Tryz.underlying24 rfl (by rw [info_val]; rfl)) rfl ?_
      exact ⟨fun h => absurd h.2 HPS.out, fun _ => rfl, HBz.out⟩

/-- Read: the value whose string it is, or none. -/
theorem r_ReadA (s : ByteArray) (hs : s.size ≤ 400) :
    (∃ k n d t, okB k n d t = true ∧ prnV k n d t = s ∧ ∀ w, Calls Tryz.prog 7 #[.string s] w fun e w' => e = .returned (.tuple #[V k n d t, .int .i64 0]) ∧ Below w.heap.size w w') ∨
    ((∀ k n d t, okB k n d t = true → prnV k n d t ≠ s) ∧ ∀ w, Calls Tryz.prog 7 #[.string s] w fun e w' => e = .returned (.tuple #[V 0 0 0 noS, .int .i64 7]) ∧ Below w.heap.size w w') := by
  obtain ⟨k, n, d, t, ht, hG, hun⟩ := r_guess s hs
  by_cases h : okB k n d t = true ∧ prnV k n d t = s
  · refine .inl ⟨k, n, d, t, h.1, h.2, fun w => (r_Read s k n d t w ht hG).mono ?_⟩
    rintro e w' ⟨h1, _, h3⟩
    exact ⟨h1 h, h3⟩
  · refine .inr ⟨fun k' n' d' t' h1 h2 => ?_, fun w => (r_Read s k n d t w ht hG).mono ?_⟩
    · obtain ⟨rfl, rfl, rfl, rfl⟩ := hun k' n' d' t' h1 h2
      exact h ⟨h1, h2⟩
    · rintro e w' ⟨_, h2, h3⟩
      exact ⟨h2 h, h3⟩

set_option maxRecDepth 100000 in
set_option maxHeartbeats 8000000 in
theorem l_reads (w : World) (s : ByteArray) (m : Int) (htab : Tab w) (hm : w.cell? ⟨5, 0, none⟩ = some (.int .i64 m)) (hE : Errs w) :
    Calls Tryz.prog 3 #[.string s] w fun e w' => e = .returned (.bool true) ∧ Below w.heap.size w w' := by
  have h0 : 5 < w.heap.size := Lib.lt_of_cell hm
  have HM : Hid (∀ W, Below w.heap.size w W → W.cell? ⟨5, 0, none⟩ = some (.int .i64 m)) := fun W hw => (hw.cell (p := ⟨5, 0, none⟩) h0).trans hm
  have HWk : Hid (∀ W, Below w.heap.size w W → Calls Tryz.prog 5 #[] W fun e w' => e = .returned (.bool true) ∧ Below W.heap.size W w') :=
    fun W hW => c_works W m (HM.out W hW)
  have R : Below w.heap.size w w := Below.refl _ _
  by_cases h4 : 400 < s.size
  · have i1 : (400 : Int) < (s.size : Int) := by omega
    clear h4 hm htab hE
    go_enter Tryz.func3, Tryz.ntmps3
    go_wp2_with fail
    refine (HWk.out _ R).mono ?_
    rintro e w1 ⟨rfl, hb1⟩
    go_wp2
    go_ret
    exact ⟨rfl, hb1⟩
  · have i1 : ¬ (400 : Int) < (s.size : Int) := by omega
    have both : ∃ k n d t h, Calls Tryz.prog 6 #[.string s] w (fun e w' => e = .returned (.tuple #[V k n d t, .int .i64 h]) ∧ Below w.heap.size w w') ∧ ∀ w, Calls Tryz.prog 7 #[.string s] w fun e w' => e = .returned (.tuple #[V k n d t, .int .i64 h]) ∧ Below w.heap.size w w' := by
      rcases v_ReadA s m w (by omega) htab hm hE with ⟨k, n, d, t, h1, h2, h3⟩ | ⟨h1, h3⟩
      · rcases r_ReadA s (by omega) with ⟨k', n', d', t', h1', h2', h3'⟩ | ⟨h1', _⟩
        · obtain ⟨rfl, rfl, rfl, rfl⟩ := prnV_inj h1 h1' (h2.trans h2'.symm)
          exact ⟨_, _, _, _, _, h3, h3'⟩
        · exact absurd h2 (h1' _ _ _ _ h1)
      · rcases r_ReadA s (by omega) with ⟨k', n', d', t', h1', h2', h3'⟩ | ⟨h1', h3'⟩
        · exact absurd h2' (h1 _ _ _ _ h1')
        · exact ⟨_, _, _, _, _, h3, h3'⟩
    obtain ⟨k, n, d, t, h, hx, hr⟩ := both
    have HX := Lib.hid hx
    have HR := Lib.hid hr
    clear hx hr h4 hm htab hE
    go_enter Tryz.func3, Tryz.ntmps3
    go_wp2_with fail
    refine HX.out.mono ?_
    rintro e w1 ⟨rfl, hb1⟩
    obtain ⟨w2, hw2, hb2, K2⟩ := kinds_of k n d t w1
    have B2 := Lib.hid (btr hb1 hb2)
    clear hb1 hb2
    go_wp2_with fail
    refine (HR.out w2).mono ?_
    rintro e w3 ⟨rfl, hb3⟩
    obtain ⟨w4, hw4, hb4, K4⟩ := kinds_of k n d t w3
    have B24 := Lib.hid (btr hb3 hb4)
    have B4 := Lib.hid (btr B2.out B24.out)
    obtain ⟨x0, x1, x2, x3⟩ := K2.out w4 B24.out
    obtain ⟨y0, y1, y2, y3⟩ := K4.out w4 (Below.refl _ _)
    clear hb3 hb4
    go_wp2_with fail
    refine (HWk.out _ B4.out).mono ?_
    rintro e w5 ⟨rfl, hb5⟩
    have B5 := Lib.hid (btr B4.out hb5)
    clear hb5
    go_wp2
    go_ret
    exact ⟨rfl, B5.out⟩
end Go.Proofs.YtmejbkfamapnkaaGreatDoor
end

/- From the row's condition to the walk: the library's errors in their variables. -/
section
namespace Go.Proofs.YtmejbkfamapnkaaGreatDoor
open Go Go.RowKit Go.ChangeShapes Go.WideShapes

theorem err_star : "*" ++ "errors.errorString" = "*errors.errorString" := by decide
theorem err_row (u : TypeId) (h : Tryz.prog.typeName? 3 u = some "*errors.errorString") : u = 217 :=
  typeName_ptr_named (nm := "errors.errorString") (by rw [err_star]; kernel_rfl) (by kernel_rfl) (by decide) u (by rw [err_star]; exact h)
theorem err_of {n : String} {g : Nat} {text : List UInt8} {r : List (String × DataW Unit)} {W : World} (h : laidMet Tryz.prog ((n, .iface "*errors.errorString" (.ptr (.agg [.lit (.string text)]))) :: r) W)
    (hg : Tryz.prog.globalNamed n = some g) (ht : (Tryz.prog.globals[g]?).map (·.type) = some 100) : ∃ ev, W.cell? ⟨g, 0, none⟩ = some ev ∧ (ev = .nilIface ∨ ∃ te pe, ev = .iface te pe) := by
  obtain ⟨a, s, hv, _⟩ := laid_sentinel h hg ht Tryz.underlying100 err_row Tryz.underlying217 Tryz.underlying219 rfl rfl Tryz.underlying9 (by kernel_rfl) (by kernel_rfl)
  have h0 := World.var?_cell hg hv 0
  exact ⟨_, h0, .inr ⟨_, _, rfl⟩⟩
theorem errs_of {W : World} {x y z u : String × DataW Unit} {r : List (String × DataW Unit)} (h : laidMet Tryz.prog (x :: y :: z :: u :: ("strconv.ErrRange", Rows.laid_strconv_ErrRange) :: ("strconv.ErrSyntax", Rows.laid_strconv_ErrSyntax) :: r) W) : Errs W :=
  ⟨err_of (g := 3) h.tail.tail.tail.tail.tail (by kernel_rfl) (by kernel_rfl), err_of (g := 4) h.tail.tail.tail.tail (by kernel_rfl) (by kernel_rfl)⟩
end Go.Proofs.YtmejbkfamapnkaaGreatDoor
end

/- ExactReads: whatever the string, the value that it is for the program, or that it is none, is the document's own answer: the law returns true. Its row lists package-level variables of Go's library, tied to the program's text by the card. -/
section
namespace Go.Proofs.YtmejbkfamapnkaaGreatDoor
open Go.ChangeShapes Go.WideShapes Go.ChangeAt Go.RowKit

set_option maxRecDepth 100000 in
theorem reads_lifted (os : Os) (started : os.Started) (H : Type) (enc : TypeId × Value → H) :
    ReturnsInHanded {} Tryz.checked os 3 .any (fun w args => (Rows.exactReadsSpec.pre enc Tryz.prog Tryz.f3 [] false w args ∧ laidMetH Tryz.prog Rows.exactReadsRow.laid w) ∧ sizedMet enc Tryz.prog Tryz.f3 (OpenSpec.ofChange Rows.exactReadsSpec) false w args)
      (Rows.exactReadsSpec.post enc Tryz.prog Tryz.f3 false true false false) := by
  refine handed_laid_shaped (C := Tryz.checked) (X := fun w _ => laidMetH Tryz.prog Rows.exactReadsRow.laid w) (fun _ _ _ hh h => h.of_heap hh) own started (by kernel_rfl) Tryz.func3
    (ChangeSpec.witness_shaped (enc := enc) (C := Tryz.checked) (os := os) (X := fun w _ => laidMetH Tryz.prog Rows.exactReadsRow.laid w) false (World.laidAll Tryz.prog os Rows.exactReadsRow.laid) #[.string ⟨#[]⟩] 8 (World.laidAll_os _ _ _)
      (World.shaped_of_ZipB (by kernel_rfl) (by kernel_rfl)) (by kernel_rfl) (by kernel_rfl) (by kernel_rfl)
      (by rw [MakeChecks.laidMetH_plain _ _ _ (by kernel_rfl)]; exact laidMet_laidAll _ (by kernel_rfl) (by kernel_rfl))) ?_
  intro W base args ds gs before hval0 hW hlaid hsh
  have hval : ∀ (j : Nat) t v, Tryz.f3.params[j]? = some t → args[j]? = some v → Value.okWide Tryz.prog W .any base t v := hval0
  have htab : Tab W := by
    rw [MakeChecks.laidMetH_plain _ _ _ (by kernel_rfl)] at hlaid
    exact tab_of hlaid
  have herr : Errs W := by
    rw [MakeChecks.laidMetH_plain _ _ _ (by kernel_rfl)] at hlaid
    exact errs_of hlaid
  have hW' := hW
  obtain ⟨p, q, hA0, hV, rfl, _, _⟩ := hW
  have hA : DataW.TrodAll enc Tryz.prog W 0 (fun _ => true) true Tryz.f3.params.toList args.toList ds p := hA0
  rw [Tryz.params3] at hA hval
  obtain ⟨v0, d0, rfl, rfl, h0⟩ := trodAll_one hA
  obtain ⟨rfl, rfl⟩ := trodVars_none hV
  obtain ⟨s, rfl⟩ := okWide_string Tryz.underlying9 (hval 0 9 v0 rfl rfl)
  clear hA0 hval0
  simp only [List.append_nil] at hW'
  obtain ⟨m, hm⟩ := maxLen_cell hsh
  have hlt0 : ∀ x ∈ p, x.block < W.heap.size := fun x hx => hW'.lt x (by simp [hx])
  refine (l_reads W s m htab hm herr).mono fun e W' ⟨he, hb⟩ => ?_
  subst he
  have tr := fun {v : Value} {d : DataW H} {ps : List MemPlace} (h : DataW.Trod enc Tryz.prog W 0 (fun _ => true) true 9 v d ps) (hlt : ∀ x ∈ ps, x.block < W.heap.size) =>
    Below.trod laidOut' (t := 9) (by kernel_rfl) (of_decide_eq_true (by kernel_rfl)) h hb hlt
  exact ⟨_, rfl, ⟨_, _, _, [], _, [], hW', trodAll_mk1 (shut_bool Tryz.underlying4 _), trodAll_mk1 (tr h0 hlt0), rfl, hb.frame _, fun h => by cases h⟩⟩

theorem reads_row : Rows.ExactReadsSaid :=
  OpenClaim.holds_of_wide 3 Tryz.f3 rfl rfl rfl rfl rfl rfl rfl ⟨rfl, rfl, rfl, rfl, rfl⟩ rfl rfl rfl rfl rfl (by kernel_rfl) Tryz.func3 (by kernel_rfl)
    (of_decide_eq_true (by kernel_rfl)) (by unfold Func.isWrapper; first | (rw [if_pos (by decide +kernel)]; kernel_rfl) | (rw [if_neg (by decide +kernel)]; exact ⟨rfl, rfl⟩))
    (fun os started H enc _ => reads_lifted os started H enc)

theorem reads_card : Rows.ExactReadsCardSaid :=
  Claim7.holds_tied_plain_at .later [] Rows.exactReadsCard.laidKinds true Rows.exactReadsCard.stood.harness true
    reads_row (fun _ h => by cases h) (by kernel_rfl) (fun _ h => by cases h) exactReads_row_tie rfl ⟨rfl, rfl⟩ (by kernel_rfl) rfl
    (fun f fn hf hfn => by
      obtain rfl : f = 3 := Option.some.inj ((show Tryz.prog.funcNamed "tesseract/tesseractlaw01.ExactReads" = some 3 by kernel_rfl).symm.trans hf) |>.symm
      obtain rfl : fn = Tryz.f3 := (Option.some.inj (Tryz.func3.symm.trans hfn)).symm
      exact ⟨by kernel_rfl, fun j t ht => by
        rw [Tryz.params3] at ht
        have hin : t ∈ [9] := by have := Array.mem_of_getElem? ht; simpa using this
        have hall : ([9].all fun u => !Tryz.prog.wantsStandIn u) = true := by kernel_rfl
        exact (show Tryz.prog.wantsStandIn t = false by simpa using List.all_eq_true.1 hall t hin)⟩)
    (by kernel_rfl)
end Go.Proofs.YtmejbkfamapnkaaGreatDoor
end

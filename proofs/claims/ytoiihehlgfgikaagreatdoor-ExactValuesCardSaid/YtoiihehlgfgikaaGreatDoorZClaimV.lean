/- ExactValues: whatever the two values and the type, the number, the string, the check, the fit and the order are the document's own: the law returns true. Its row lists package-level variables of Go's library, tied to the program's text by the card. -/
import Derived.Test.YtoiihehlgfgikaaGreatDoorZOrdG
import Derived.Test.YtoiihehlgfgikaaGreatDoorZAdd9
import Derived.Test.YtoiihehlgfgikaaGreatDoorZCom9
import Derived.Test.YtoiihehlgfgikaaGreatDoorZFmt
import Derived.Test.YtoiihehlgfgikaaGreatDoorZRef9
import Derived.Test.YtoiihehlgfgikaaGreatDoorZValQ
import Derived.Test.YtoiihehlgfgikaaGreatDoorShelf
import Derived.StillTailTactics
import Derived.Test.YtoiihehlgfgikaaGreatDoorZSame
import Derived.Test.YtoiihehlgfgikaaGreatDoorZWk
import Derived.Test.YtoiihehlgfgikaaGreatDoorTie
import Derived.Test.YtoiihehlgfgikaaGreatDoorCards
import Derived.Test.YtoiihehlgfgikaaGreatDoorZRow
import Derived.Test.YtoiihehlgfgikaaGreatDoorZRing
import Derived.ChangeArms
import Derived.SevenTiedAt

/- The reference's Fits and Number, whatever the value. -/
section
namespace Go.Proofs.YtoiihehlgfgikaaGreatDoor
open Go.RowKit Go.Deep

set_option maxRecDepth 100000 in
set_option maxHeartbeats 8000000 in
theorem r_Fits (k n d : Int) (s : ByteArray) (t : Int) (w : World) (hs : s.size ≤ 9223372036854775807) :
    Calls Tryz.prog 19 #[V k n d s, .int .i64 t] w fun e w' => e = .returned (.bool (isTy t && (okB k n d s && fitB k d t))) ∧ Below w.heap.size w w' := by
  obtain ⟨W, b, hW, hb, hlt, hbel, K⟩ := box_facts w k n d s
  have HBel := Lib.hid hbel
  have KK : Hid (∀ W', Below W.heap.size W W' → W'.cell? ⟨w.heap.size, 0, none⟩ = some (.int .i64 k) ∧ W'.cell? ⟨w.heap.size, 1, none⟩ = some (.int .i64 n) ∧ W'.cell? ⟨w.heap.size, 2, none⟩ = some (.int .i64 d) ∧ W'.cell? ⟨w.heap.size, 3, none⟩ = some (.string s)) := by
    rw [hb]; exact K.out
  have HC := Lib.hid (fun W => r_Check k n d s W hs)
  clear K hb hlt hbel hs
  generalize hE : (isTy t && (okB k n d s && fitB k d t)) = E
  obtain ⟨k0, k1, k2, k3⟩ := KK.out W (Below.refl _ _)
  by_cases hok : okB k n d s = true
  · have hk : k = 0 ∨ k = 1 ∨ k = 2 ∨ k = 3 := by
      by_cases h0 : k = 0
      · exact .inl h0
      by_cases h1 : k = 1
      · exact .inr (.inl h1)
      by_cases h2 : k = 2
      · exact .inr (.inr (.inl h2))
      by_cases h3 : k = 3
      · exact .inr (.inr (.inr h3))
      simp [okB, h0, h1, h2, h3] at hok
    have HC0 : Hid (∀ W, Calls Tryz.prog 17 #[V k n d s] W fun e w' => e = .returned (.int .i64 0) ∧ Below W.heap.size W w') := fun W => by
      have h9 := HC.out W
      rw [hok] at h9
      exact h9
    rw [hok, Bool.true_and] at hE
    clear hok HC
    have ht : t < 1 ∨ 4 < t ∨ t = 1 ∨ t = 2 ∨ t = 3 ∨ t = 4 := by omega
    rcases hk with rfl | rfl | rfl | rfl
    all_goals
      rcases ht with ht | ht | rfl | rfl | rfl | rfl
    all_goals
      first
      | (have HE : Hid (E = false) := by
           show _ = _
           rw [← hE]
           first
           | (simp [isTy, fitB]; done)
           | (simp [isTy]; omega)
         clear hE
         go_enter Tryz.func19, Tryz.ntmps19
         go_wp2_with fail
         refine (HC0.out W).mono ?_
         rintro e w1 ⟨rfl, hb1⟩
         have HB1 := Lib.hid (btr HBel.out hb1)
         obtain ⟨q0, q1, q2, q3⟩ := KK.out _ hb1
         clear hb1 k0 k1 k2 k3
         go_wp2
         go_ret
         exact ⟨by rw [HE.out]; rfl, HB1.out⟩)
      | (have HE : Hid (E = true) := by
           show _ = _
           rw [← hE]
           simp [isTy, fitB]
         clear hE
         go_enter Tryz.func19, Tryz.ntmps19
         go_wp2_with fail
         refine (HC0.out W).mono ?_
         rintro e w1 ⟨rfl, hb1⟩
         have HB1 := Lib.hid (btr HBel.out hb1)
         obtain ⟨q0, q1, q2, q3⟩ := KK.out _ hb1
         clear hb1 k0 k1 k2 k3
         go_wp2
         go_ret
         exact ⟨by rw [HE.out]; rfl, HB1.out⟩)
      | (have HE : Hid (E = (d == 1)) := by
           show _ = _
           rw [← hE]
           simp [isTy, fitB]
         clear hE
         go_enter Tryz.func19, Tryz.ntmps19
         go_wp2_with fail
         refine (HC0.out W).mono ?_
         rintro e w1 ⟨rfl, hb1⟩
         have HB1 := Lib.hid (btr HBel.out hb1)
         obtain ⟨q0, q1, q2, q3⟩ := KK.out _ hb1
         clear hb1 k0 k1 k2 k3
         go_wp2
         go_ret
         exact ⟨by rw [HE.out]; rfl, HB1.out⟩)
  · have HC0 : Hid (∀ W, Calls Tryz.prog 17 #[V k n d s] W fun e w' => e = .returned (.int .i64 2) ∧ Below W.heap.size W w') := fun W => by
      have h9 := HC.out W
      rw [show okB k n d s = false by simpa using hok] at h9
      exact h9
    have HE : Hid (E = false) := by
      show _ = _
      rw [← hE, show okB k n d s = false by simpa using hok]
      simp
    clear hok HC hE
    go_enter Tryz.func19, Tryz.ntmps19
    go_wp2_with fail
    refine (HC0.out W).mono ?_
    rintro e w1 ⟨rfl, hb1⟩
    have HB1 := Lib.hid (btr HBel.out hb1)
    clear hb1 k0 k1 k2 k3
    go_wp2
    go_ret
    exact ⟨by rw [HE.out]; rfl, HB1.out⟩

set_option maxRecDepth 100000 in
set_option maxHeartbeats 8000000 in
theorem r_Number (k n d : Int) (s : ByteArray) (w : World) (hs : s.size ≤ 9223372036854775807) :
    Calls Tryz.prog 13 #[V k n d s] w fun e w' => ∃ r, e = .returned (.tuple #[r, .bool (okB k n d s && k == 2)]) ∧ (∃ b A m c A' m' c', r = .agg #[.bool b, .slice A m c, .slice A' m' c']) ∧ ((okB k n d s && k == 2) = true → RefV w' r (qV n d)) ∧ Below w.heap.size w w' := by
  obtain ⟨W, b, hW, hb, hlt, hbel, K⟩ := box_facts w k n d s
  have HBel := Lib.hid hbel
  have KK : Hid (∀ W', Below W.heap.size W W' → W'.cell? ⟨w.heap.size, 0, none⟩ = some (.int .i64 k) ∧ W'.cell? ⟨w.heap.size, 1, none⟩ = some (.int .i64 n) ∧ W'.cell? ⟨w.heap.size, 2, none⟩ = some (.int .i64 d) ∧ W'.cell? ⟨w.heap.size, 3, none⟩ = some (.string s)) := by
    rw [hb]; exact K.out
  have HC := Lib.hid (fun W => r_Check k n d s W hs)
  clear K hb hlt hbel hs
  obtain ⟨W1, hW1, hB1, hz1, KR⟩ := zero_box W
  have HB1 := Lib.hid hB1
  have hWs : W.heap.size = w.heap.size + 1 := by rw [← hW]; simp
  obtain ⟨k0, k1, k2, k3⟩ := KK.out W1 hB1
  clear hB1
  by_cases hE : (okB k n d s && k == 2) = true
  · have h9 : okB k n d s = true ∧ k = 2 := by simpa using hE
    obtain ⟨hok, rfl⟩ := h9
    have hl : Low n d := by
      have : okB 2 n d s = decide (s.toList = [] ∧ Low n d) := rfl
      rw [this] at hok
      exact (of_decide_eq_true hok).2
    have HQ := Lib.hid (And.intro (qV_num hl) (qV_den hl))
    have hl2 := hl
    obtain ⟨a1, a2, a3, a4, a5⟩ := hl2
    have HSn := Lib.hid (fun W => r_size W n (by omega) (by omega))
    have HSd := Lib.hid (fun W => r_size W d (by omega) (by omega))
    have HC0 : Hid (∀ W, Calls Tryz.prog 17 #[V 2 n d s] W fun e w' => e = .returned (.int .i64 0) ∧ Below W.heap.size W w') := fun W => by
      have h9 := HC.out W
      rw [hok] at h9
      exact h9
    rw [hE]
    clear hok HC hE hl a1 a2 a3 a4 a5
    go_enter Tryz.func13, Tryz.ntmps13
    go_wp2_with fail
    refine (HC0.out W1).mono ?_
    rintro e w2 ⟨rfl, hb2⟩
    have HB2 := Lib.hid hb2
    obtain ⟨k0, k1, k2, k3⟩ := KK.out w2 (btr HB1.out hb2)
    clear hb2
    go_wp2_with fail
    have B2d : Below w2.heap.size w2 w2.drew := Below.drew (Below.refl _ _)
    have HLe : Hid (W.heap.size ≤ w.heap.size + 1) := by show _ ≤ _; omega
    have HK2 : Hid (∀ W', Below W.heap.size W W' → W'.cell? ⟨w.heap.size, 0, none⟩ = some (.int .i64 2) ∧ W'.cell? ⟨w.heap.size, 1, none⟩ = some (.int .i64 n) ∧ W'.cell? ⟨w.heap.size, 2, none⟩ = some (.int .i64 d) ∧ W'.cell? ⟨w.heap.size, 3, none⟩ = some (.string s)) := KK.out
    have HL2 : Hid (∀ W', Below w2.heap.size w2 W' → Below W.heap.size W W') := fun W' h => btr HB1.out (btr HB2.out h)
    have HR2 : Hid (∀ W', Below w2.heap.size w2 W' → W'.heap[w.heap.size + 1]? = some (.cells #[.bool false, .slice none 0 0, .slice none 0 0] 28 (0, 0))) := fun W' h => by rw [← hWs]; exact KR.out W' (btr HB2.out h)
    clear k0 k1 k2 k3
    go_region_held3 (fun w' => w'.cell? ⟨w.heap.size, 0, none⟩ = some (.int .i64 2) ∧ w'.cell? ⟨w.heap.size, 1, none⟩ = some (.int .i64 n) ∧ w'.cell? ⟨w.heap.size, 2, none⟩ = some (.int .i64 d) ∧ w'.cell? ⟨w.heap.size, 3, none⟩ = some (.string s))
      (first | exact HK2.out _ ((((HL2.out _ B4).setCell (p := ⟨w.heap.size + 1, 0, none⟩) HLe.out _).setCell (p := ⟨w.heap.size + 1, 1, none⟩) HLe.out _).setCell (p := ⟨w.heap.size + 1, 2, none⟩) HLe.out _) | exact HK2.out _ (HL2.out _ B4) | exact HK2.out _ (HL2.out _ B3) | exact HK2.out _ (HL2.out _ B2d) | exact HK2.out _ (HL2.out _ (Below.refl _ _)))
      (first
        | (go_at_call_of 27 (Value.int IntKind.i64 n); refine (HSn.out _).mono ?_; rintro e w3 ⟨v3, rfl, hv3, hb3⟩; have B3 : Below w2.heap.size w2 w3 := btr B2d hb3)
        | (go_at_call_of 27 (Value.int IntKind.i64 d); refine (HSd.out _).mono ?_; rintro e w4 ⟨v4, rfl, hv4, hb4⟩; have B4 : Below w2.heap.size w2 w4 := btr B3 hb4; have HV3 := Lib.hid (hv3.below hb4); have HV4 := Lib.hid hv4; obtain ⟨A3, c3, rfl⟩ := hv3.sl; obtain ⟨A4, c4, rfl⟩ := hv4.sl; obtain ⟨r0, r1, r2, f0, f1, f2⟩ := res_r (HR2.out _ B4)))
    all_goals
      have hrow := HR2.out _ B4
      have HL := Lib.hid (btr HBel.out (HL2.out _ B4))
      have hno := ref_noint hrow
      clear hv3 hv4 hb3 hb4 B3 B4 r0 r1 r2 f0 f1 f2
      go_wp2
      refine bodyPost_ret (results_cell_tmp Tryz.results13 _ _ (w.heap.size + 1) 28 _ (0, 0) _ rfl (put3 hrow _ _ _) Tryz.underlying28 rfl (by rw [info_ref]; rfl)) rfl
        ⟨_, rfl, ⟨_, _, _, _, _, _, _, rfl⟩, fun _ => ?_, HL.out.grown (grown3 _ _ _ _ _) HL.out.size (fun j hj => by injection hj with hj; omega)⟩
      show Ref _ _ (decide ((qV n d).num < 0)) (qV n d).num.natAbs (qV n d).den
      rw [HQ.out.1, HQ.out.2]
      exact ⟨_, _, rfl, HV3.out.apart hno (grown3 _ _ _ _ _), HV4.out.apart hno (grown3 _ _ _ _ _)⟩
  · have hE' : (okB k n d s && k == 2) = false := by simpa using hE
    rw [hE']
    by_cases hok : okB k n d s = true
    · have hk : (k == 2) = false := by rw [hok] at hE'; simpa using hE'
      have hk2 : (k != 2) = true := by simp [bne, hk]
      have HC0 : Hid (∀ W, Calls Tryz.prog 17 #[V k n d s] W fun e w' => e = .returned (.int .i64 0) ∧ Below W.heap.size W w') := fun W => by
        have h9 := HC.out W
        rw [hok] at h9
        exact h9
      clear hok HC hE hE'
      go_enter Tryz.func13, Tryz.ntmps13
      go_wp2_with fail
      refine (HC0.out W1).mono ?_
      rintro e w2 ⟨rfl, hb2⟩
      have HB2 := Lib.hid hb2
      obtain ⟨q0, q1, q2, q3⟩ := KK.out w2 (btr HB1.out hb2)
      have hcell : w2.heap[w.heap.size + 1]? = some (.cells #[.bool false, .slice none 0 0, .slice none 0 0] 28 (0, 0)) := by rw [← hWs]; exact KR.out w2 hb2
      have hBf := btr HBel.out (btr HB1.out hb2)
      clear hb2 k0 k1 k2 k3
      go_wp2_with (refine wpList_store_row 28 _ _ rfl rfl rfl (w.heap.size + 1) 28 rfl [.bool false, .slice none 0 0, .slice none 0 0] rfl _ hcell rfl info_ref (ref_one _ _ _ _ _ _ _) ?_; intro wz hhz hgz hzz; have HGz := Lib.hid hgz; have HZz := Lib.hid hzz; clear hzz hgz hcell)
      exact bodyPost_ret (v := .tuple #[.agg #[.bool false, .slice none 0 0, .slice none 0 0], .bool false]) (results_cell_tmp Tryz.results13 _ _ (w.heap.size + 1) 28 _ (0, 0) _ rfl hhz Tryz.underlying28 rfl (by rw [info_ref]; rfl)) rfl
        ⟨_, rfl, ⟨_, _, _, _, _, _, _, rfl⟩, (fun h => by cases h), hBf.grown HGz.out hBf.size (fun j hj => by injection hj with hj; omega)⟩
    · have HC0 : Hid (∀ W, Calls Tryz.prog 17 #[V k n d s] W fun e w' => e = .returned (.int .i64 2) ∧ Below W.heap.size W w') := fun W => by
        have h9 := HC.out W
        rw [show okB k n d s = false by simpa using hok] at h9
        exact h9
      clear hok HC hE hE'
      go_enter Tryz.func13, Tryz.ntmps13
      go_wp2_with fail
      refine (HC0.out W1).mono ?_
      rintro e w2 ⟨rfl, hb2⟩
      have HB2 := Lib.hid hb2
      obtain ⟨q0, q1, q2, q3⟩ := KK.out w2 (btr HB1.out hb2)
      have hcell : w2.heap[w.heap.size + 1]? = some (.cells #[.bool false, .slice none 0 0, .slice none 0 0] 28 (0, 0)) := by rw [← hWs]; exact KR.out w2 hb2
      have hBf := btr HBel.out (btr HB1.out hb2)
      clear hb2 k0 k1 k2 k3
      go_wp2_with (refine wpList_store_row 28 _ _ rfl rfl rfl (w.heap.size + 1) 28 rfl [.bool false, .slice none 0 0, .slice none 0 0] rfl _ hcell rfl info_ref (ref_one _ _ _ _ _ _ _) ?_; intro wz hhz hgz hzz; have HGz := Lib.hid hgz; have HZz := Lib.hid hzz; clear hzz hgz hcell)
      exact bodyPost_ret (v := .tuple #[.agg #[.bool false, .slice none 0 0, .slice none 0 0], .bool false]) (results_cell_tmp Tryz.results13 _ _ (w.heap.size + 1) 28 _ (0, 0) _ rfl hhz Tryz.underlying28 rfl (by rw [info_ref]; rfl)) rfl
        ⟨_, rfl, ⟨_, _, _, _, _, _, _, rfl⟩, (fun h => by cases h), hBf.grown HGz.out hBf.size (fun j hj => by injection hj with hj; omega)⟩
end Go.Proofs.YtoiihehlgfgikaaGreatDoor
end

/- The reference's Print, whatever the value. -/
section
namespace Go.Proofs.YtoiihehlgfgikaaGreatDoor
open Go.RowKit Go.Deep

theorem ret_two {a b : ByteArray} {c : Int} (h : a = b) : Ending.returned (.tuple #[.string a, .int .i64 c]) = .returned (.tuple #[.string b, .int .i64 c]) := by rw [h]
/-- What Print returns of a value. -/
def prnV (k n d : Int) (s : ByteArray) : ByteArray :=
  if okB k n d s = true then if k = 0 then ⟨(63 :: Lib.decDigits n.toNat).toArray⟩ else if k = 1 then (if n = 1 then ⟨#[116, 114, 117, 101]⟩ else ⟨#[102, 97, 108, 115, 101]⟩) else if k = 2 then ⟨(txt (qV n d)).toArray⟩ else ⟨(39 :: quo s.data.toList ++ [39]).toArray⟩ else ⟨#[]⟩
theorem quo_append : ∀ a b : List UInt8, quo (a ++ b) = quo a ++ quo b
  | [], b => rfl
  | c :: a, b => by
    show (if c = 39 then [39, 39] else [c]) ++ quo (a ++ b) = ((if c = 39 then [39, 39] else [c]) ++ quo a) ++ quo b
    rw [quo_append a b, List.append_assoc]
theorem quo_step (s : ByteArray) (k : Nat) (h : k < s.size) : quo (s.data.toList.take (k + 1)) = quo (s.data.toList.take k) ++ (if s[k] = 39 then [39, 39] else [s[k]]) := by
  have hk : k < s.data.toList.length := by simpa using h
  rw [List.take_succ_eq_append_getElem hk, quo_append]
  congr 1
  show (if s.data.toList[k] = 39 then [39, 39] else [s.data.toList[k]]) ++ [] = _
  rw [List.append_nil]
  rfl
theorem ext_one (s : ByteArray) (k : Nat) (h : k < s.size) : s.extract k (k + 1) = ⟨#[s[k]]⟩ := by
  apply ByteArray.ext
  rw [ByteArray.data_extract]
  apply Array.ext
  · have : s.data.size = s.size := rfl
    simp; omega
  · intro i h1 h2
    have h3 : i = 0 := by simpa using h2
    subst h3
    simp
    rfl

set_option maxRecDepth 100000 in
set_option maxHeartbeats 4000000 in
theorem r_Print3 (s : ByteArray) (w : World) (h : Txt s) :
    Calls Tryz.prog 15 #[V 3 0 0 s] w fun e w' => e = .returned (.tuple #[.string ⟨(39 :: quo s.data.toList ++ [39]).toArray⟩, .int .i64 0]) ∧ Below w.heap.size w w' := by
  have hz := h.1
  have HC0 : Hid (∀ W, Calls Tryz.prog 17 #[V 3 0 0 s] W fun e w' => e = .returned (.int .i64 0) ∧ Below W.heap.size W w') := fun W => by
    have h9 := r_Check 3 0 0 s W (by omega)
    rw [okB_good.2 (.text s h)] at h9
    exact h9
  obtain ⟨W, b, hW, hb, hlt, hbel, K⟩ := box_facts w 3 0 0 s
  have HBel := Lib.hid hbel
  have KK : Hid (∀ W', Below W.heap.size W W' → W'.cell? ⟨w.heap.size, 0, none⟩ = some (.int .i64 3) ∧ W'.cell? ⟨w.heap.size, 1, none⟩ = some (.int .i64 0) ∧ W'.cell? ⟨w.heap.size, 2, none⟩ = some (.int .i64 0) ∧ W'.cell? ⟨w.heap.size, 3, none⟩ = some (.string s)) := by
    rw [hb]; exact K.out
  have HQ := Lib.hid (quo_step s)
  have HE := Lib.hid (ext_one s)
  have HF : Hid (quo (s.data.toList.take s.size) = quo s.data.toList) := by
    show _ = _
    rw [List.take_of_length_le (by simp)]
  have HL : Hid (∀ k, k ≤ s.size → (quo (s.data.toList.take k)).length ≤ 40) := fun k hk => by
    refine Nat.le_trans (quo_length _) ?_
    rw [List.length_take]
    omega
  clear K hb hlt hbel h
  obtain ⟨k0, k1, k2, k3⟩ := KK.out W (Below.refl _ _)
  go_enter Tryz.func15, Tryz.ntmps15
  go_wp2_with fail
  refine (HC0.out W).mono ?_
  rintro e w1 ⟨rfl, hb1⟩
  have HB1 := Lib.hid hb1
  clear k0 k1 k2 k3
  obtain ⟨k0, k1, k2, k3⟩ := KK.out _ hb1
  clear hb1
  go_wp2
  clear k0 k1 k2 k3
  go_loopw [6, 7] (fun out i wr => ∃ (k : Nat) (Q : List UInt8), k ≤ s.size ∧ i = .int .i64 k ∧ out = .string ⟨(39 :: Q).toArray⟩ ∧ Hid (Q = quo (s.data.toList.take k)) ∧ ∃ nd, wr = w1.drewN nd) (fun _ i _ => s.size - (intOf i).toNat)
  case atStart => exact ⟨0, [], Nat.zero_le _, rfl, rfl, rfl, 0, rfl⟩
  case round =>
    obtain ⟨k, Q, hk, rfl, rfl, HC, nd, rfl⟩ := hrel
    have HBd : Hid (Below w1.heap.size w1 (w1.drewN nd)) := below_drewN (Below.refl _ _) nd
    obtain ⟨k0, k1, k2, k3⟩ := KK.out _ (btr HB1.out HBd.out)
    have hql : Q.length ≤ 40 := by rw [HC.out]; exact HL.out k hk
    by_cases hlt : k < s.size
    · have HStep := Lib.hid (HQ.out k hlt)
      have HEx := Lib.hid (HE.out k hlt)
      have hk1 : (k : Int) + 1 ≤ (s.size : Int) := by omega
      by_cases h39 : s[k] = 39
      · have h8 : ((s[k].toNat : Int) == 39) = true := by rw [h39]; rfl
        go_wp2
        go_roundw
        case rel =>
          refine ⟨k + 1, Q ++ (if s[k] = 39 then [39, 39] else [s[k]]), by omega, by go_num, ?_, ?_, nd, rfl⟩
          · rw [HEx.out]
            refine congrArg Value.string ?_
            apply ByteArray.ext
            simp [ByteArray.data_append, h39]
          · show _ = _
            rw [HStep.out, HC.out]
        case measure => simp [intOf]; omega
      · have h8 : ((s[k].toNat : Int) == 39) = false := by
          rw [beq_eq_false_iff_ne]
          intro h9
          apply h39
          apply UInt8.toNat_inj.1
          have : (39 : UInt8).toNat = 39 := rfl
          omega
        go_wp2
        go_roundw
        case rel =>
          refine ⟨k + 1, Q ++ (if s[k] = 39 then [39, 39] else [s[k]]), by omega, by go_num, ?_, ?_, nd, rfl⟩
          · rw [HEx.out]
            refine congrArg Value.string ?_
            apply ByteArray.ext
            simp [ByteArray.data_append, h39]
          · show _ = _
            rw [HStep.out, HC.out]
        case measure => simp [intOf]; omega
    · obtain rfl : k = s.size := by omega
      have HQe : Hid (Q = quo s.data.toList) := by rw [HF.out] at HC; exact HC
      go_wp2
      go_ret2
      exact ⟨by rw [← HQe.out]; exact ret_two (by apply ByteArray.ext; simp [ByteArray.data_append]), btr HBel.out (btr HB1.out HBd.out)⟩

set_option maxRecDepth 100000 in
set_option maxHeartbeats 4000000 in
theorem r_Print (k n d : Int) (s : ByteArray) (w : World) (hs : s.size ≤ 9223372036854775807) :
    Calls Tryz.prog 15 #[V k n d s] w fun e w' => e = .returned (.tuple #[.string (prnV k n d s), .int .i64 (errB (okB k n d s))]) ∧ Below w.heap.size w w' := by
  by_cases hok : okB k n d s = true
  · have hg := okB_good.1 hok
    have HC0 : Hid (∀ W, Calls Tryz.prog 17 #[V k n d s] W fun e w' => e = .returned (.int .i64 0) ∧ Below W.heap.size W w') := fun W => by
      have h9 := r_Check k n d s W hs
      rw [hok] at h9
      exact h9
    have hp : prnV k n d s = if k = 0 then ⟨(63 :: Lib.decDigits n.toNat).toArray⟩ else if k = 1 then (if n = 1 then ⟨#[116, 114, 117, 101]⟩ else ⟨#[102, 97, 108, 115, 101]⟩) else if k = 2 then ⟨(txt (qV n d)).toArray⟩ else ⟨(39 :: quo s.data.toList ++ [39]).toArray⟩ := if_pos hok
    rw [hok, hp]
    clear hp
    have HNum := Lib.hid (fun W => r_Number k n d s W hs)
    rw [hok] at HNum
    clear hok
    cases hg with
    | text _ h => exact r_Print3 s w h
    | missing n h1 h2 =>
      obtain ⟨m, rfl⟩ : ∃ m : Nat, n = (m : Int) := ⟨n.toNat, by omega⟩
      obtain ⟨W, b, hW, hb, hlt, hbel, K⟩ := box_facts w 0 m 0 noS
      have HBel := Lib.hid hbel
      have KK : Hid (∀ W', Below W.heap.size W W' → W'.cell? ⟨w.heap.size, 0, none⟩ = some (.int .i64 0) ∧ W'.cell? ⟨w.heap.size, 1, none⟩ = some (.int .i64 m)) := by
        rw [hb]; exact fun W' h => ⟨(K.out W' h).1, (K.out W' h).2.1⟩
      have KA := K.out W (Below.refl _ _)
      rw [← hb] at KA
      obtain ⟨k0, k1, k2, k3⟩ := KA
      have HNat : Hid (∀ W, Calls Tryz.prog 27 #[.int .i64 m] W (Nat9 m W)) := fun W => by
        have h9 := r_size W m (by omega) (by omega)
        rw [Int.natAbs_natCast] at h9
        exact h9
      have hw9 : nw9 m ≤ 100000 := by
        have : m < B9 ^ 1 := by unfold B9; omega
        have := (nw_le9 _ _).2 this
        omega
      have HDec := Lib.hid (fun W u (hu : N9At W u m) => r_decimal W u m hu (by omega))
      have hl9 := dec_len9 m hw9
      have HT : Hid ((⟨(63 :: Lib.decDigits ((m : Int)).toNat).toArray⟩ : ByteArray) = ⟨(63 :: Lib.decDigits m).toArray⟩) := by show _ = _; rw [Int.toNat_natCast]
      rw [if_pos rfl, HT.out]
      generalize Lib.decDigits m = D at *
      clear K hb hlt hbel HNum hw9
      go_enter Tryz.func15, Tryz.ntmps15
      go_wp2_with fail
      refine (HC0.out W).mono ?_
      rintro e w1 ⟨rfl, hb1⟩
      have HB1 := Lib.hid hb1
      clear k0 k1 k2 k3
      obtain ⟨k0, k1⟩ := KK.out _ hb1
      clear hb1
      go_wp2_with fail
      refine (HNat.out w1).mono ?_
      rintro e w2 ⟨u, rfl, hu, hb2⟩
      have HU := Lib.hid hu
      have HB2 := Lib.hid (btr HB1.out hb2)
      obtain ⟨A, c, rfl⟩ := hu.sl
      clear hu hb2
      go_wp2_with fail
      refine (HDec.out w2 _ HU.out).mono ?_
      rintro e w3 ⟨rfl, hb3⟩
      have HB3 := Lib.hid (btr HB2.out hb3)
      clear hb3
      go_wp2
      go_ret2
      exact ⟨ret_two (by apply ByteArray.ext; simp [ByteArray.data_append]), btr HBel.out HB3.out⟩
    | truth t =>
      obtain ⟨W, b, hW, hb, hlt, hbel, K⟩ := box_facts w 1 (bit t) 0 noS
      have HBel := Lib.hid hbel
      have KK : Hid (∀ W', Below W.heap.size W W' → W'.cell? ⟨w.heap.size, 0, none⟩ = some (.int .i64 1) ∧ W'.cell? ⟨w.heap.size, 1, none⟩ = some (.int .i64 (bit t))) := by
        rw [hb]; exact fun W' h => ⟨(K.out W' h).1, (K.out W' h).2.1⟩
      have KA := K.out W (Below.refl _ _)
      rw [← hb] at KA
      obtain ⟨k0, k1, k2, k3⟩ := KA
      rw [if_neg (by decide), if_pos rfl]
      clear K hb hlt hbel HNum
      cases t
      all_goals
        go_enter Tryz.func15, Tryz.ntmps15
        go_wp2_with fail
        refine (HC0.out W).mono ?_
        rintro e w1 ⟨rfl, hb1⟩
        have HB1 := Lib.hid hb1
        clear k0 k1 k2 k3
        obtain ⟨k0, k1⟩ := KK.out _ hb1
        clear hb1
        go_wp2
        go_ret2
        exact ⟨rfl, btr HBel.out HB1.out⟩
    | num n d h =>
      obtain ⟨W, b, hW, hb, hlt, hbel, K⟩ := box_facts w 2 n d noS
      have HBel := Lib.hid hbel
      have KK : Hid (∀ W', Below W.heap.size W W' → W'.cell? ⟨w.heap.size, 0, none⟩ = some (.int .i64 2) ∧ W'.cell? ⟨w.heap.size, 1, none⟩ = some (.int .i64 n) ∧ W'.cell? ⟨w.heap.size, 2, none⟩ = some (.int .i64 d) ∧ W'.cell? ⟨w.heap.size, 3, none⟩ = some (.string noS)) := by
        rw [hb]; exact K.out
      obtain ⟨k0, k1, k2, k3⟩ := KK.out W (Below.refl _ _)
      have HN1 : Hid (∀ W, Calls Tryz.prog 13 #[V 2 n d noS] W fun e w' => ∃ b A m c A' m' c', e = .returned (.tuple #[.agg #[.bool b, .slice A m c, .slice A' m' c'], .bool true]) ∧ RefV w' (.agg #[.bool b, .slice A m c, .slice A' m' c']) (qV n d) ∧ Below W.heap.size W w') := fun W => by
        refine (HNum.out W).mono ?_
        rintro e w' ⟨r, he, ⟨b, A, m, c, A', m', c', rfl⟩, hr, hb⟩
        exact ⟨b, A, m, c, A', m', c', he, hr rfl, hb⟩
      have HT : Hid (∀ W x, RefV W x (qV n d) → Calls Tryz.prog 41 #[x] W fun e w' => e = .returned (.string ⟨(txt (qV n d)).toArray⟩) ∧ Below W.heap.size W w') := fun W x hx => by
        have hb : ∀ m : Nat, m ≤ 1099511627776 → nw9 m ≤ 100000 := fun m hm => by
          have : m < B9 ^ 3 := by unfold B9; omega
          have := (nw_le9 _ _).2 this
          omega
        have a := h.1; have b := h.2.1; have c := h.2.2.1; have d := h.2.2.2.1
        exact r_Text W x _ _ _ hx (by rw [qV_num h]; exact hb _ (by omega)) (by rw [qV_den h]; exact hb _ (by omega))
      rw [if_neg (by decide), if_neg (by decide), if_pos rfl]
      generalize qV n d = q at *
      generalize txt q = T at *
      clear K hb hlt hbel HNum h
      go_enter Tryz.func15, Tryz.ntmps15
      go_wp2_with fail
      refine (HC0.out W).mono ?_
      rintro e w1 ⟨rfl, hb1⟩
      have HB1 := Lib.hid hb1
      clear k0 k1 k2 k3
      obtain ⟨k0, k1, k2, k3⟩ := KK.out _ hb1
      clear hb1
      go_wp2_with fail
      refine (HN1.out w1).mono ?_
      rintro e w2 ⟨b2, A, m, c, A', m', c', rfl, hr, hb2⟩
      have HR := Lib.hid hr
      have HB2 := Lib.hid (btr HB1.out hb2)
      clear hr hb2
      obtain ⟨W3, hW3, hB3, hz3, KX⟩ := ref_box w2 b2 (.slice A m c) (.slice A' m' c')
      have HB3 := Lib.hid hB3
      obtain ⟨x0, x1, x2⟩ := KX.out W3 (Below.refl _ _)
      clear hB3
      go_wp2_with fail
      refine (HT.out W3 _ (HR.out.below HB3.out)).mono ?_
      rintro e w4 ⟨rfl, hb4⟩
      have HB4 := Lib.hid (btr HB2.out (btr HB3.out hb4))
      clear hb4
      go_wp2
      go_ret2
      exact ⟨rfl, btr HBel.out HB4.out⟩
  · have hok' : okB k n d s = false := by simpa using hok
    have HC0 : Hid (∀ W, Calls Tryz.prog 17 #[V k n d s] W fun e w' => e = .returned (.int .i64 2) ∧ Below W.heap.size W w') := fun W => by
      have h9 := r_Check k n d s W hs
      rw [hok'] at h9
      exact h9
    rw [show prnV k n d s = ⟨#[]⟩ from if_neg hok, hok']
    obtain ⟨W, b, hW, hb, hlt, hbel, K⟩ := box_facts w k n d s
    have HBel := Lib.hid hbel
    have KK : Hid (∀ W', Below W.heap.size W W' → W'.cell? ⟨w.heap.size, 0, none⟩ = some (.int .i64 k) ∧ W'.cell? ⟨w.heap.size, 1, none⟩ = some (.int .i64 n) ∧ W'.cell? ⟨w.heap.size, 2, none⟩ = some (.int .i64 d) ∧ W'.cell? ⟨w.heap.size, 3, none⟩ = some (.string s)) := by
      rw [hb]; exact K.out
    obtain ⟨k0, k1, k2, k3⟩ := KK.out W (Below.refl _ _)
    clear K hb hlt hbel hok hok' hs
    go_enter Tryz.func15, Tryz.ntmps15
    go_wp2_with fail
    refine (HC0.out W).mono ?_
    rintro e w1 ⟨rfl, hb1⟩
    have HB1 := Lib.hid hb1
    clear k0 k1 k2 k3 hb1
    go_wp2
    go_ret2
    exact ⟨rfl, btr HBel.out HB1.out⟩
end Go.Proofs.YtoiihehlgfgikaaGreatDoor
end

/- The program's Number, Check and Print, whatever the value. -/
section
namespace Go.Proofs.YtoiihehlgfgikaaGreatDoor
open Go.RowKit Go.Deep

set_option maxHeartbeats 1000000 in
theorem c_FormatInt (n : Nat) (w : World) (h1 : n ≤ 255) (htab : Tab w) :
    Calls Tryz.prog 54 #[.int .i64 n, .int .i64 10] w fun e w' => e = .returned (.string ⟨(Lib.decDigits n).toArray⟩) ∧ Below w.heap.size w w' := by
  have HS : Hid (Calls Tryz.prog 91 #[.int .i64 n, .int .i64 10] w fun e w' => e = .returned (.string ⟨(Lib.decDigits n).toArray⟩) ∧ Below w.heap.size w w') := by
    refine (Tryz.internal_strconv_FormatInt_10 (n : Int) (by omega) (by omega) w htab).mono ?_
    rintro e w' ⟨rfl, k, os, rfl⟩
    refine ⟨?_, Lib.below_grow w.heap.size w (Nat.le_refl _) k os⟩
    rw [show Lib.itoa (n : Int) = Lib.decDigits n by unfold Lib.itoa; rw [if_neg (by omega), Int.toNat_natCast]]
  clear htab
  go_enter Tryz.func54, Tryz.ntmps54
  go_wp2_with fail
  refine HS.out.mono ?_
  rintro e w' ⟨rfl, hb⟩
  go_wp2
  go_ret
  exact ⟨rfl, hb⟩

theorem kinds_of (k n d : Int) (s : ByteArray) (w : World) : ∃ W, w.alloc (.cells #[.int .i64 k, .int .i64 n, .int .i64 d, .string s] 42) = W ∧ Below w.heap.size w W ∧
    Hid (∀ W', Below W.heap.size W W' → W'.cell? ⟨w.heap.size, 0, none⟩ = some (.int .i64 k) ∧ W'.cell? ⟨w.heap.size, 1, none⟩ = some (.int .i64 n) ∧ W'.cell? ⟨w.heap.size, 2, none⟩ = some (.int .i64 d) ∧ W'.cell? ⟨w.heap.size, 3, none⟩ = some (.string s)) := by
  obtain ⟨W, b, hW, hb, hlt, hbel, K⟩ := box_facts w k n d s
  subst hb
  exact ⟨W, hW, hbel, K⟩

set_option maxRecDepth 100000 in
set_option maxHeartbeats 2000000 in
theorem v_Check (k n d : Int) (s : ByteArray) (w : World) :
    Calls Tryz.prog 16 #[V k n d s] w fun e w' => e = .returned (.int .i64 (errB (okB k n d s))) ∧ Below w.heap.size w w' := by
  have HV := Lib.hid (fun W => k_valid k n d s W)
  obtain ⟨W, hW, hbel, K⟩ := kinds_of k n d s w
  have HBel := Lib.hid hbel
  obtain ⟨k0, k1, k2, k3⟩ := K.out W (Below.refl _ _)
  clear hbel
  cases hok : okB k n d s
  all_goals
    rw [hok] at HV
    clear hok
    go_enter Tryz.func16, Tryz.ntmps16
    go_wp2_with fail
    refine (HV.out W).mono ?_
    rintro e w1 ⟨rfl, hb1⟩
    have HB1 := Lib.hid hb1
    clear hb1 k0 k1 k2 k3
    go_wp2
    go_ret
    exact ⟨rfl, btr HBel.out HB1.out⟩

set_option maxRecDepth 100000 in
set_option maxHeartbeats 2000000 in
theorem v_Number (k n d : Int) (s : ByteArray) (w : World) :
    Calls Tryz.prog 12 #[V k n d s] w fun e w' => ∃ u, e = .returned (.tuple #[u, .bool (okB k n d s && k == 2)]) ∧ (((okB k n d s && k == 2) = true ∧ RatV w' u (qV n d)) ∨ ((okB k n d s && k == 2) = false ∧ u = .pointer none)) ∧ Below w.heap.size w w' := by
  have HV := Lib.hid (fun W => k_valid k n d s W)
  obtain ⟨W, hW, hbel, K⟩ := kinds_of k n d s w
  have HBel := Lib.hid hbel
  obtain ⟨k0, k1, k2, k3⟩ := K.out W (Below.refl _ _)
  clear hbel
  by_cases hk : k = 2
  · subst hk
    by_cases hok : okB 2 n d s = true
    · rw [hok] at HV
      have hg := okB_good.1 hok
      rw [hok]
      cases hg with
      | num n d h =>
        have HR := Lib.hid (fun W => v_rat W n d h)
        clear hok h
        generalize qV n d = q at *
        go_enter Tryz.func12, Tryz.ntmps12
        go_wp2_with fail
        refine (HV.out W).mono ?_
        rintro e w1 ⟨rfl, hb1⟩
        have HB1 := Lib.hid hb1
        clear k0 k1 k2 k3
        obtain ⟨k0, k1, k2, k3⟩ := K.out _ hb1
        clear hb1
        go_wp2_with fail
        refine (HR.out w1).mono ?_
        rintro e w2 ⟨u, rfl, hu, hb2⟩
        have HU := Lib.hid hu
        have HB2 := Lib.hid (btr HB1.out hb2)
        clear hu hb2 k0 k1 k2 k3
        go_wp2
        go_ret2
        exact ⟨u, rfl, .inl ⟨rfl, HU.out⟩, btr HBel.out HB2.out⟩
    · have hok' : okB 2 n d s = false := by simpa using hok
      rw [hok'] at HV
      rw [hok']
      clear hok hok'
      go_enter Tryz.func12, Tryz.ntmps12
      go_wp2_with fail
      refine (HV.out W).mono ?_
      rintro e w1 ⟨rfl, hb1⟩
      have HB1 := Lib.hid hb1
      clear k0 k1 k2 k3 hb1
      go_wp2
      go_ret2
      exact ⟨_, rfl, .inr ⟨rfl, rfl⟩, btr HBel.out HB1.out⟩
  · have hk2 : (k == 2) = false := by rw [beq_eq_false_iff_ne]; exact hk
    rw [hk2, Bool.and_false]
    have hk3 : (k != 2) = true := by simp [bne, hk2]
    clear hk
    go_enter Tryz.func12, Tryz.ntmps12
    go_wp2
    go_ret2
    exact ⟨_, rfl, by first | exact .inr ⟨rfl, rfl⟩ | exact .inr ⟨trivial, rfl⟩ | simp, HBel.out⟩

set_option maxRecDepth 100000 in
set_option maxHeartbeats 4000000 in
theorem v_Print (k n d : Int) (s : ByteArray) (m : Int) (w : World) (htab : Tab w) (hm : w.cell? ⟨3, 0, none⟩ = some (.int .i64 m)) :
    Calls Tryz.prog 14 #[V k n d s] w fun e w' => e = .returned (.tuple #[.string (prnV k n d s), .int .i64 (errB (okB k n d s))]) ∧ Below w.heap.size w w' := by
  have h0 : 3 < w.heap.size := by
    by_cases h : 3 < w.heap.size
    · exact h
    · exfalso
      have : w.heap[3]? = none := Array.getElem?_eq_none (by omega)
      simp [World.cell?, this] at hm
  have HM : Hid (∀ W', Below w.heap.size w W' → W'.cell? ⟨3, 0, none⟩ = some (.int .i64 m)) := fun W' hw => (hw.cell (p := ⟨3, 0, none⟩) h0).trans hm
  have HT := Lib.hid htab
  clear htab hm h0
  have HV := Lib.hid (fun W => k_valid k n d s W)
  by_cases hok : okB k n d s = true
  · have hg := okB_good.1 hok
    have hp : prnV k n d s = if k = 0 then ⟨(63 :: Lib.decDigits n.toNat).toArray⟩ else if k = 1 then (if n = 1 then ⟨#[116, 114, 117, 101]⟩ else ⟨#[102, 97, 108, 115, 101]⟩) else if k = 2 then ⟨(txt (qV n d)).toArray⟩ else ⟨(39 :: quo s.data.toList ++ [39]).toArray⟩ := if_pos hok
    rw [hok] at HV
    rw [hok, hp]
    clear hp hok
    cases hg with
    | text _ h =>
      have hz := h.1
      obtain ⟨W, hW, hbel, K⟩ := kinds_of 3 0 0 s w
      have HBel := Lib.hid hbel
      obtain ⟨k0, k1, k2, k3⟩ := K.out W (Below.refl _ _)
      have HR : Hid (∀ W, Below w.heap.size w W → Calls Tryz.prog 56 #[.string s, .string ⟨#[39]⟩, .string ⟨#[39, 39]⟩] W fun e w' => e = .returned (.string ⟨(quo s.data.toList).toArray⟩) ∧ Below W.heap.size W w') := fun W hw => by
        have h9 := Tryz.strings_ReplaceAll s ⟨#[39]⟩ ⟨#[39, 39]⟩ m W (by omega) (HM.out _ hw) (by decide) (by
          have e1 : Lib.countB s ⟨#[39]⟩ ≤ s.size := by
            have := count_quote_le s.data.toList
            have e2 : s.data.toList.length = s.size := by simp
            first | exact e2 ▸ this | (unfold Lib.countB; exact e2 ▸ this)
          have e2 : (⟨#[39, 39]⟩ : ByteArray).size = 2 := rfl
          rw [e2]; omega)
        have e3 : Lib.replaceAll s.data.toList (⟨#[39]⟩ : ByteArray).data.toList (⟨#[39, 39]⟩ : ByteArray).data.toList = quo s.data.toList := replaceAll_quo _
        rw [e3] at h9
        exact h9
      have hql : (quo s.data.toList).length ≤ 40 := by
        have := quo_length s.data.toList
        have e2 : s.data.toList.length = s.size := by simp
        omega
      rw [if_neg (by decide), if_neg (by decide), if_neg (by decide)]
      generalize quo s.data.toList = Q at *
      clear h hbel
      go_enter Tryz.func14, Tryz.ntmps14
      go_wp2_with fail
      refine (HV.out W).mono ?_
      rintro e w1 ⟨rfl, hb1⟩
      have HB1 := Lib.hid hb1
      clear k0 k1 k2 k3
      obtain ⟨k0, k1, k2, k3⟩ := K.out _ hb1
      clear hb1
      go_wp2_with fail
      refine (HR.out w1 (btr HBel.out HB1.out)).mono ?_
      rintro e w2 ⟨rfl, hb2⟩
      have HB2 := Lib.hid (btr HB1.out hb2)
      clear hb2 k0 k1 k2 k3
      go_wp2
      go_ret2
      exact ⟨ret_two (by apply ByteArray.ext; simp [ByteArray.data_append]), btr HBel.out HB2.out⟩
    | missing n h1 h2 =>
      obtain ⟨c, rfl⟩ : ∃ c : Nat, n = (c : Int) := ⟨n.toNat, by omega⟩
      obtain ⟨W, hW, hbel, K⟩ := kinds_of 0 c 0 noS w
      have HBel := Lib.hid hbel
      obtain ⟨k0, k1, k2, k3⟩ := K.out W (Below.refl _ _)
      have HF : Hid (∀ W, Below w.heap.size w W → Calls Tryz.prog 54 #[.int .i64 c, .int .i64 10] W fun e w' => e = .returned (.string ⟨(Lib.decDigits c).toArray⟩) ∧ Below W.heap.size W w') := fun W hw => c_FormatInt c W (by omega) (HT.out.below hw)
      have hl9 : (Lib.decDigits c).length ≤ 900009 := dec_len9 c (by
        have : c < B9 ^ 1 := by unfold B9; omega
        have := (nw_le9 _ _).2 this
        omega)
      have hT : Hid ((⟨(63 :: Lib.decDigits ((c : Int)).toNat).toArray⟩ : ByteArray) = ⟨(63 :: Lib.decDigits c).toArray⟩) := by show _ = _; rw [Int.toNat_natCast]
      rw [if_pos rfl, hT.out]
      generalize Lib.decDigits c = D at *
      clear hbel
      go_enter Tryz.func14, Tryz.ntmps14
      go_wp2_with fail
      refine (HV.out W).mono ?_
      rintro e w1 ⟨rfl, hb1⟩
      have HB1 := Lib.hid hb1
      clear k0 k1 k2 k3
      obtain ⟨k0, k1, k2, k3⟩ := K.out _ hb1
      clear hb1
      go_wp2_with fail
      refine (HF.out w1 (btr HBel.out HB1.out)).mono ?_
      rintro e w2 ⟨rfl, hb2⟩
      have HB2 := Lib.hid (btr HB1.out hb2)
      clear hb2 k0 k1 k2 k3
      go_wp2
      go_ret2
      exact ⟨ret_two (by apply ByteArray.ext; simp [ByteArray.data_append]), btr HBel.out HB2.out⟩
    | truth t =>
      obtain ⟨W, hW, hbel, K⟩ := kinds_of 1 (bit t) 0 noS w
      have HBel := Lib.hid hbel
      obtain ⟨k0, k1, k2, k3⟩ := K.out W (Below.refl _ _)
      rw [if_neg (by decide), if_pos rfl]
      clear hbel
      cases t
      · have HF := Lib.hid (fun W => Tryz.strconv_FormatBool false W)
        go_enter Tryz.func14, Tryz.ntmps14
        go_wp2_with fail
        refine (HV.out W).mono ?_
        rintro e w1 ⟨rfl, hb1⟩
        have HB1 := Lib.hid hb1
        clear k0 k1 k2 k3
        obtain ⟨k0, k1, k2, k3⟩ := K.out _ hb1
        clear hb1
        go_wp2_with fail
        refine (HF.out w1).mono ?_
        rintro e w2 ⟨rfl, rfl⟩
        clear k0 k1 k2 k3
        go_wp2
        go_ret2
        exact ⟨rfl, btr HBel.out HB1.out⟩
      · have HF := Lib.hid (fun W => Tryz.strconv_FormatBool true W)
        go_enter Tryz.func14, Tryz.ntmps14
        go_wp2_with fail
        refine (HV.out W).mono ?_
        rintro e w1 ⟨rfl, hb1⟩
        have HB1 := Lib.hid hb1
        clear k0 k1 k2 k3
        obtain ⟨k0, k1, k2, k3⟩ := K.out _ hb1
        clear hb1
        go_wp2_with fail
        refine (HF.out w1).mono ?_
        rintro e w2 ⟨rfl, rfl⟩
        clear k0 k1 k2 k3
        go_wp2
        go_ret2
        exact ⟨rfl, btr HBel.out HB1.out⟩
    | num n d h =>
      obtain ⟨W, hW, hbel, K⟩ := kinds_of 2 n d noS w
      have HBel := Lib.hid hbel
      obtain ⟨k0, k1, k2, k3⟩ := K.out W (Below.refl _ _)
      have HR := Lib.hid (fun W => v_rat W n d h)
      have HTx : Hid (∀ W u, Below w.heap.size w W → RatV W u (qV n d) → Calls Tryz.prog 28 #[u] W fun e w' => e = .returned (.string ⟨(txt (qV n d)).toArray⟩) ∧ Below W.heap.size W w') := fun W u hw hu => by
        have h9 := ratW_qV h
        exact v_Text W u _ hu ⟨by have := h9.1; omega, by have := h9.2; omega⟩ (HT.out.below hw)
      rw [if_neg (by decide), if_neg (by decide), if_pos rfl]
      generalize qV n d = q at *
      generalize txt q = T at *
      clear hbel h
      go_enter Tryz.func14, Tryz.ntmps14
      go_wp2_with fail
      refine (HV.out W).mono ?_
      rintro e w1 ⟨rfl, hb1⟩
      have HB1 := Lib.hid hb1
      clear k0 k1 k2 k3
      obtain ⟨k0, k1, k2, k3⟩ := K.out _ hb1
      clear hb1
      go_wp2_with fail
      refine (HR.out w1).mono ?_
      rintro e w2 ⟨u, rfl, hu, hb2⟩
      have HU := Lib.hid hu
      have HB2 := Lib.hid (btr HB1.out hb2)
      clear hu hb2 k0 k1 k2 k3
      go_wp2_with fail
      refine (HTx.out w2 u (btr HBel.out HB2.out) HU.out).mono ?_
      rintro e w3 ⟨rfl, hb3⟩
      have HB3 := Lib.hid (btr HB2.out hb3)
      clear hb3
      go_wp2
      go_ret2
      exact ⟨rfl, btr HBel.out HB3.out⟩
  · have hok' : okB k n d s = false := by simpa using hok
    rw [hok'] at HV
    rw [show prnV k n d s = ⟨#[]⟩ from if_neg hok, hok']
    obtain ⟨W, hW, hbel, K⟩ := kinds_of k n d s w
    have HBel := Lib.hid hbel
    obtain ⟨k0, k1, k2, k3⟩ := K.out W (Below.refl _ _)
    clear hbel hok hok'
    go_enter Tryz.func14, Tryz.ntmps14
    go_wp2_with fail
    refine (HV.out W).mono ?_
    rintro e w1 ⟨rfl, hb1⟩
    have HB1 := Lib.hid hb1
    clear k0 k1 k2 k3 hb1
    go_wp2
    go_ret2
    exact ⟨rfl, btr HBel.out HB1.out⟩
end Go.Proofs.YtoiihehlgfgikaaGreatDoor
end

/- The reference's Order, whatever the values. -/
section
namespace Go.Proofs.YtoiihehlgfgikaaGreatDoor
open Go.RowKit Go.Deep

theorem low_w9 {n d : Int} (h : Low n d) : RefW (qV n d) 90000 := by
  have h1 := qV_num h
  have h2 := qV_den h
  obtain ⟨a1, a2, a3, a4, a5⟩ := h
  have hb : ∀ m : Nat, m ≤ 1099511627776 → nw9 m ≤ 90000 := fun m hm => by
    have : m < B9 ^ 3 := by unfold B9; omega
    have := (nw_le9 _ _).2 this
    omega
  exact ⟨by rw [h1]; exact hb _ (by omega), by rw [h2]; exact hb _ (by omega)⟩
theorem low_w {n d : Int} (h : Low n d) : RefW (qV n d) 10000000 := ⟨Nat.le_trans (low_w9 h).1 (by omega), Nat.le_trans (low_w9 h).2 (by omega)⟩
theorem cmp_low {n d n' d' : Int} (h : Low n d) (h' : Low n' d') : Lib.compareInt ((qV n d).num * (qV n' d').den) ((qV n' d').num * (qV n d).den) = Lib.compareInt (n * d') (n' * d) := by
  rw [qV_num h, qV_num h', qV_den h, qV_den h', show ((d'.natAbs : Nat) : Int) = d' by have := h'.2.2.1; omega, show ((d.natAbs : Nat) : Int) = d by have := h.2.2.1; omega]

/-- The two boxes, in one fact. -/
theorem vals_box (w : World) (k n d : Int) (s : ByteArray) (k' n' d' : Int) (s' : ByteArray) : ∃ W0 W1, w.alloc (.cells #[.int .i64 k, .int .i64 n, .int .i64 d, .string s] 42) = W0 ∧ W0.alloc (.cells #[.int .i64 k', .int .i64 n', .int .i64 d', .string s'] 42) = W1 ∧ W0.heap.size = w.heap.size + 1 ∧ Below w.heap.size w W1 ∧
    Hid (∀ W', Below W1.heap.size W1 W' → (W'.cell? ⟨w.heap.size, 0, none⟩ = some (.int .i64 k) ∧ W'.cell? ⟨w.heap.size, 1, none⟩ = some (.int .i64 n) ∧ W'.cell? ⟨w.heap.size, 2, none⟩ = some (.int .i64 d) ∧ W'.cell? ⟨w.heap.size, 3, none⟩ = some (.string s)) ∧
      (W'.cell? ⟨w.heap.size + 1, 0, none⟩ = some (.int .i64 k') ∧ W'.cell? ⟨w.heap.size + 1, 1, none⟩ = some (.int .i64 n') ∧ W'.cell? ⟨w.heap.size + 1, 2, none⟩ = some (.int .i64 d') ∧ W'.cell? ⟨w.heap.size + 1, 3, none⟩ = some (.string s'))) := by
  obtain ⟨W, b, b', hW, hb, hb', hlt, hbel, K⟩ := two_box w k n d s k' n' d' s'
  subst hb hb'
  exact ⟨_, W, rfl, hW, by simp, hbel, K⟩

set_option maxRecDepth 100000 in
set_option maxHeartbeats 8000000 in
theorem r_Order (w : World) (k n d : Int) (s : ByteArray) (k' n' d' : Int) (s' : ByteArray) (hs : s.size ≤ 9223372036854775807) (hs' : s'.size ≤ 9223372036854775807) :
    Calls Tryz.prog 21 #[V k n d s, V k' n' d' s'] w fun e w' => e = .returned (.int .i64 (ordV k n d s k' n' d' s')) ∧ Below w.heap.size w w' := by
  obtain ⟨W0, W1, hW0, hW1, hz0, hbel, K⟩ := vals_box w k n d s k' n' d' s'
  have HBE := Lib.hid hbel
  have H1 := Lib.hid (fun X => r_Check k n d s X hs)
  have H2 := Lib.hid (fun X => r_Check k' n' d' s' X hs')
  by_cases g1 : okB k n d s = true
  · have HC1 : Hid (∀ W, Calls Tryz.prog 17 #[V k n d s] W fun e w' => e = .returned (.int .i64 0) ∧ Below W.heap.size W w') := fun W => by
      have h9 := H1.out W
      rw [g1] at h9
      exact h9
    by_cases g2 : okB k' n' d' s' = true
    · have HC2 : Hid (∀ W, Calls Tryz.prog 17 #[V k' n' d' s'] W fun e w' => e = .returned (.int .i64 0) ∧ Below W.heap.size W w') := fun W => by
        have h9 := H2.out W
        rw [g2] at h9
        exact h9
      clear H1 H2
      by_cases hk : k = k'
      · subst hk
        by_cases k2 : k = 2
        · subst k2
          rw [show ordV 2 n d s 2 n' d' s' = Lib.compareInt (n * d') (n' * d) by simp [ordV, g1, g2]]
          have l1 : Low n d := by have := okB_good.1 g1; cases this; assumption
          have l2 : Low n' d' := by have := okB_good.1 g2; cases this; assumption
          have HN1 : Hid (∀ W, Calls Tryz.prog 13 #[V 2 n d s] W fun e w' => ∃ b A m c A' m' c', e = .returned (.tuple #[.agg #[.bool b, .slice A m c, .slice A' m' c'], .bool true]) ∧ RefV w' (.agg #[.bool b, .slice A m c, .slice A' m' c']) (qV n d) ∧ Below W.heap.size W w') := fun W => by
            refine (r_Number 2 n d s W hs).mono ?_
            rintro e w' ⟨r, he, ⟨b, A, m, c, A', m', c', rfl⟩, hr, hb⟩
            rw [g1] at he hr
            exact ⟨b, A, m, c, A', m', c', he, hr rfl, hb⟩
          have HN2 : Hid (∀ W, Calls Tryz.prog 13 #[V 2 n' d' s'] W fun e w' => ∃ b A m c A' m' c', e = .returned (.tuple #[.agg #[.bool b, .slice A m c, .slice A' m' c'], .bool true]) ∧ RefV w' (.agg #[.bool b, .slice A m c, .slice A' m' c']) (qV n' d') ∧ Below W.heap.size W w') := fun W => by
            refine (r_Number 2 n' d' s' W hs').mono ?_
            rintro e w' ⟨r, he, ⟨b, A, m, c, A', m', c', rfl⟩, hr, hb⟩
            rw [g2] at he hr
            exact ⟨b, A, m, c, A', m', c', he, hr rfl, hb⟩
          have HCm : Hid (∀ W x y, RefV W x (qV n d) → RefV W y (qV n' d') → Calls Tryz.prog 67 #[x, y] W fun e w' => e = .returned (.int .i64 (Lib.compareInt (n * d') (n' * d))) ∧ Below W.heap.size W w') := fun W x y hx hy => by
            have h9 := r_Cmp W x y _ _ hx hy (low_w l1) (low_w l2)
            rw [cmp_low l1 l2] at h9
            exact h9
          generalize Lib.compareInt (n * d') (n' * d) = R at *
          clear g1 g2 l1 l2 hs hs' hbel
          go_enter Tryz.func21, Tryz.ntmps21
          obtain ⟨⟨a0, a1, a2, a3⟩, ⟨a4, a5, a6, a7⟩⟩ := K.out W1 (Below.refl _ _)
          go_wp2_with fail
          clear a0 a1 a2 a3 a4 a5 a6 a7
          refine (HC1.out W1).mono ?_
          rintro e w1 ⟨rfl, hb1⟩
          have HB1 := Lib.hid hb1
          obtain ⟨⟨a0, a1, a2, a3⟩, ⟨a4, a5, a6, a7⟩⟩ := K.out _ hb1
          clear hb1
          go_wp2_with fail
          refine (HC2.out w1).mono ?_
          rintro e w2 ⟨rfl, hb2⟩
          have HB2 := Lib.hid (btr HB1.out hb2)
          obtain ⟨⟨c0, c1, c2, c3⟩, ⟨c4, c5, c6, c7⟩⟩ := K.out _ HB2.out
          clear a0 a1 a2 a3 a4 a5 a6 a7 hb2
          go_wp2_with fail
          go_still (by kernel_rfl)
          rw [show ({ w2 with drawn := w2.drawn + 1 } : World) = w2.drew from rfl]
          have hbd : Below w2.heap.size w2 w2.drew := Below.drew (Below.refl _ _)
          generalize w2.drew = wd at hbd ⊢
          have HBd := Lib.hid (btr HB2.out hbd)
          clear hbd c0 c1 c2 c3 c4 c5 c6 c7
          obtain ⟨⟨c0, c1, c2, c3⟩, ⟨c4, c5, c6, c7⟩⟩ := K.out _ HBd.out
          go_wp2_with fail
          refine (HN1.out wd).mono ?_
          rintro e w3 ⟨b3, A3, m3, c3', A4, m4, c4', rfl, hx, hb3⟩
          have HB3 := Lib.hid (btr HBd.out hb3)
          have HX := Lib.hid hx
          clear hx hb3 c0 c1 c2 c3 c4 c5 c6 c7
          have B4 : Below w3.heap.size w3 (w3.alloc (.cells #[.bool b3, .slice A3 m3 c3', .slice A4 m4 c4'] 28)) := (Below.refl _ _).alloc (Nat.le_refl _) _
          obtain ⟨W4, hW4, hB4, hz4, KX⟩ := ref_box w3 b3 (.slice A3 m3 c3') (.slice A4 m4 c4')
          have HB4 := Lib.hid hB4
          obtain ⟨⟨c0, c1, c2, c3⟩, ⟨c4, c5, c6, c7⟩⟩ := K.out W4 (btr HB3.out hB4)
          clear hB4 B4
          go_wp2_with fail
          refine (HN2.out W4).mono ?_
          rintro e w5 ⟨b5, A5, m5, c5', A6, m6, c6', rfl, hy, hb5⟩
          have HB5 := Lib.hid hb5
          have HY := Lib.hid hy
          clear hy hb5 c0 c1 c2 c3 c4 c5 c6 c7
          obtain ⟨W6, hW6, hB6, hz6, KY⟩ := ref_box w5 b5 (.slice A5 m5 c5') (.slice A6 m6 c6')
          have HB6 := Lib.hid hB6
          obtain ⟨x0, x1, x2⟩ := KX.out W6 (btr HB5.out hB6)
          obtain ⟨y0, y1, y2⟩ := KY.out W6 (Below.refl _ _)
          clear hB6
          go_wp2_with fail
          refine (HCm.out W6 _ _ (((HX.out.below HB4.out).below HB5.out).below HB6.out) (HY.out.below HB6.out)).mono ?_
          rintro e w7 ⟨rfl, hb7⟩
          have HB7 := Lib.hid (btr HBE.out (btr HB3.out (btr HB4.out (btr HB5.out (btr HB6.out hb7)))))
          clear hb7 x0 x1 x2 y0 y1 y2
          go_wp2
          go_ret
          exact ⟨rfl, HB7.out⟩
        · by_cases k3 : k = 3
          · subst k3
            rw [show ordV 3 n d s 3 n' d' s' = cmpS s s' by simp [ordV, g1, g2]]
            clear g1 g2 hs hs' hbel k2
            by_cases h1 : Op.bytesLess s.toList s'.toList = true
            · rw [show cmpS s s' = -1 from if_pos h1]
              go_enter Tryz.func21, Tryz.ntmps21
              obtain ⟨⟨a0, a1, a2, a3⟩, ⟨a4, a5, a6, a7⟩⟩ := K.out W1 (Below.refl _ _)
              go_wp2_with fail
              clear a0 a1 a2 a3 a4 a5 a6 a7
              refine (HC1.out W1).mono ?_
              rintro e w1 ⟨rfl, hb1⟩
              have HB1 := Lib.hid hb1
              obtain ⟨⟨a0, a1, a2, a3⟩, ⟨a4, a5, a6, a7⟩⟩ := K.out _ hb1
              clear hb1
              go_wp2_with fail
              refine (HC2.out w1).mono ?_
              rintro e w2 ⟨rfl, hb2⟩
              have HB2 := Lib.hid (btr HB1.out hb2)
              obtain ⟨⟨c0, c1, c2, c3⟩, ⟨c4, c5, c6, c7⟩⟩ := K.out _ HB2.out
              clear a0 a1 a2 a3 a4 a5 a6 a7 hb2
              go_wp2_with fail
              go_still (by kernel_rfl)
              rw [show ({ w2 with drawn := w2.drawn + 1 } : World) = w2.drew from rfl]
              have hbd : Below w2.heap.size w2 w2.drew := Below.drew (Below.refl _ _)
              generalize w2.drew = wd at hbd ⊢
              have HBd := Lib.hid (btr HB2.out hbd)
              clear hbd c0 c1 c2 c3 c4 c5 c6 c7
              obtain ⟨⟨c0, c1, c2, c3⟩, ⟨c4, c5, c6, c7⟩⟩ := K.out _ HBd.out
              go_wp2_with fail
              go_still (by kernel_rfl)
              rw [show ({ wd with drawn := wd.drawn + 1 } : World) = wd.drew from rfl]
              have hbd : Below wd.heap.size wd wd.drew := Below.drew (Below.refl _ _)
              generalize wd.drew = we at hbd ⊢
              have HBe := Lib.hid (btr HBd.out hbd)
              clear hbd c0 c1 c2 c3 c4 c5 c6 c7
              obtain ⟨⟨c0, c1, c2, c3⟩, ⟨c4, c5, c6, c7⟩⟩ := K.out _ HBe.out
              go_wp2
              go_ret
              exact ⟨rfl, btr HBE.out HBe.out⟩
            · have h1' : Op.bytesLess s.toList s'.toList = false := by simpa using h1
              by_cases h2 : (!s.toList == s'.toList) = true
              · rw [show cmpS s s' = 1 by unfold cmpS; rw [if_neg h1, if_pos h2]]
                have h2' : (s.toList == s'.toList) = false := by simpa using h2
                clear h1 h2
                go_enter Tryz.func21, Tryz.ntmps21
                obtain ⟨⟨a0, a1, a2, a3⟩, ⟨a4, a5, a6, a7⟩⟩ := K.out W1 (Below.refl _ _)
                go_wp2_with fail
                clear a0 a1 a2 a3 a4 a5 a6 a7
                refine (HC1.out W1).mono ?_
                rintro e w1 ⟨rfl, hb1⟩
                have HB1 := Lib.hid hb1
                obtain ⟨⟨a0, a1, a2, a3⟩, ⟨a4, a5, a6, a7⟩⟩ := K.out _ hb1
                clear hb1
                go_wp2_with fail
                refine (HC2.out w1).mono ?_
                rintro e w2 ⟨rfl, hb2⟩
                have HB2 := Lib.hid (btr HB1.out hb2)
                obtain ⟨⟨c0, c1, c2, c3⟩, ⟨c4, c5, c6, c7⟩⟩ := K.out _ HB2.out
                clear a0 a1 a2 a3 a4 a5 a6 a7 hb2
                go_wp2_with fail
                go_still (by kernel_rfl)
                rw [show ({ w2 with drawn := w2.drawn + 1 } : World) = w2.drew from rfl]
                have hbd : Below w2.heap.size w2 w2.drew := Below.drew (Below.refl _ _)
                generalize w2.drew = wd at hbd ⊢
                have HBd := Lib.hid (btr HB2.out hbd)
                clear hbd c0 c1 c2 c3 c4 c5 c6 c7
                obtain ⟨⟨c0, c1, c2, c3⟩, ⟨c4, c5, c6, c7⟩⟩ := K.out _ HBd.out
                go_wp2_with fail
                go_still (by kernel_rfl)
                rw [show ({ wd with drawn := wd.drawn + 1 } : World) = wd.drew from rfl]
                have hbd : Below wd.heap.size wd wd.drew := Below.drew (Below.refl _ _)
                generalize wd.drew = we at hbd ⊢
                have HBe := Lib.hid (btr HBd.out hbd)
                clear hbd c0 c1 c2 c3 c4 c5 c6 c7
                obtain ⟨⟨c0, c1, c2, c3⟩, ⟨c4, c5, c6, c7⟩⟩ := K.out _ HBe.out
                go_wp2
                go_ret
                exact ⟨rfl, btr HBE.out HBe.out⟩
              · rw [show cmpS s s' = 0 by unfold cmpS; rw [if_neg h1, if_neg h2]]
                have h2' : (s.toList == s'.toList) = true := by simpa using h2
                clear h1 h2
                go_enter Tryz.func21, Tryz.ntmps21
                obtain ⟨⟨a0, a1, a2, a3⟩, ⟨a4, a5, a6, a7⟩⟩ := K.out W1 (Below.refl _ _)
                go_wp2_with fail
                clear a0 a1 a2 a3 a4 a5 a6 a7
                refine (HC1.out W1).mono ?_
                rintro e w1 ⟨rfl, hb1⟩
                have HB1 := Lib.hid hb1
                obtain ⟨⟨a0, a1, a2, a3⟩, ⟨a4, a5, a6, a7⟩⟩ := K.out _ hb1
                clear hb1
                go_wp2_with fail
                refine (HC2.out w1).mono ?_
                rintro e w2 ⟨rfl, hb2⟩
                have HB2 := Lib.hid (btr HB1.out hb2)
                obtain ⟨⟨c0, c1, c2, c3⟩, ⟨c4, c5, c6, c7⟩⟩ := K.out _ HB2.out
                clear a0 a1 a2 a3 a4 a5 a6 a7 hb2
                go_wp2_with fail
                go_still (by kernel_rfl)
                rw [show ({ w2 with drawn := w2.drawn + 1 } : World) = w2.drew from rfl]
                have hbd : Below w2.heap.size w2 w2.drew := Below.drew (Below.refl _ _)
                generalize w2.drew = wd at hbd ⊢
                have HBd := Lib.hid (btr HB2.out hbd)
                clear hbd c0 c1 c2 c3 c4 c5 c6 c7
                obtain ⟨⟨c0, c1, c2, c3⟩, ⟨c4, c5, c6, c7⟩⟩ := K.out _ HBd.out
                go_wp2_with fail
                go_still (by kernel_rfl)
                rw [show ({ wd with drawn := wd.drawn + 1 } : World) = wd.drew from rfl]
                have hbd : Below wd.heap.size wd wd.drew := Below.drew (Below.refl _ _)
                generalize wd.drew = we at hbd ⊢
                have HBe := Lib.hid (btr HBd.out hbd)
                clear hbd c0 c1 c2 c3 c4 c5 c6 c7
                obtain ⟨⟨c0, c1, c2, c3⟩, ⟨c4, c5, c6, c7⟩⟩ := K.out _ HBe.out
                go_wp2
                go_ret
                exact ⟨rfl, btr HBE.out HBe.out⟩
          · rw [show ordV k n d s k n' d' s' = Lib.compareInt n n' by simp [ordV, g1, g2, k2, k3]]
            clear g1 g2 hs hs' hbel
            rcases Int.lt_trichotomy n n' with h1 | h1 | h1
            · rw [show Lib.compareInt n n' = -1 from if_pos h1]
              have h2 : ¬ n' < n := by omega
              go_enter Tryz.func21, Tryz.ntmps21
              obtain ⟨⟨a0, a1, a2, a3⟩, ⟨a4, a5, a6, a7⟩⟩ := K.out W1 (Below.refl _ _)
              go_wp2_with fail
              clear a0 a1 a2 a3 a4 a5 a6 a7
              refine (HC1.out W1).mono ?_
              rintro e w1 ⟨rfl, hb1⟩
              have HB1 := Lib.hid hb1
              obtain ⟨⟨a0, a1, a2, a3⟩, ⟨a4, a5, a6, a7⟩⟩ := K.out _ hb1
              clear hb1
              go_wp2_with fail
              refine (HC2.out w1).mono ?_
              rintro e w2 ⟨rfl, hb2⟩
              have HB2 := Lib.hid (btr HB1.out hb2)
              obtain ⟨⟨c0, c1, c2, c3⟩, ⟨c4, c5, c6, c7⟩⟩ := K.out _ HB2.out
              clear a0 a1 a2 a3 a4 a5 a6 a7 hb2
              go_wp2_with fail
              go_still (by kernel_rfl)
              rw [show ({ w2 with drawn := w2.drawn + 1 } : World) = w2.drew from rfl]
              have hbd : Below w2.heap.size w2 w2.drew := Below.drew (Below.refl _ _)
              generalize w2.drew = wd at hbd ⊢
              have HBd := Lib.hid (btr HB2.out hbd)
              clear hbd c0 c1 c2 c3 c4 c5 c6 c7
              obtain ⟨⟨c0, c1, c2, c3⟩, ⟨c4, c5, c6, c7⟩⟩ := K.out _ HBd.out
              go_wp2_with fail
              go_still (by kernel_rfl)
              rw [show ({ wd with drawn := wd.drawn + 1 } : World) = wd.drew from rfl]
              have hbd : Below wd.heap.size wd wd.drew := Below.drew (Below.refl _ _)
              generalize wd.drew = we at hbd ⊢
              have HBe := Lib.hid (btr HBd.out hbd)
              clear hbd c0 c1 c2 c3 c4 c5 c6 c7
              obtain ⟨⟨c0, c1, c2, c3⟩, ⟨c4, c5, c6, c7⟩⟩ := K.out _ HBe.out
              go_wp2
              go_ret
              exact ⟨rfl, btr HBE.out HBe.out⟩
            · subst h1
              rw [show Lib.compareInt n n = 0 by simp [Lib.compareInt]]
              go_enter Tryz.func21, Tryz.ntmps21
              obtain ⟨⟨a0, a1, a2, a3⟩, ⟨a4, a5, a6, a7⟩⟩ := K.out W1 (Below.refl _ _)
              go_wp2_with fail
              clear a0 a1 a2 a3 a4 a5 a6 a7
              refine (HC1.out W1).mono ?_
              rintro e w1 ⟨rfl, hb1⟩
              have HB1 := Lib.hid hb1
              obtain ⟨⟨a0, a1, a2, a3⟩, ⟨a4, a5, a6, a7⟩⟩ := K.out _ hb1
              clear hb1
              go_wp2_with fail
              refine (HC2.out w1).mono ?_
              rintro e w2 ⟨rfl, hb2⟩
              have HB2 := Lib.hid (btr HB1.out hb2)
              obtain ⟨⟨c0, c1, c2, c3⟩, ⟨c4, c5, c6, c7⟩⟩ := K.out _ HB2.out
              clear a0 a1 a2 a3 a4 a5 a6 a7 hb2
              go_wp2_with fail
              go_still (by kernel_rfl)
              rw [show ({ w2 with drawn := w2.drawn + 1 } : World) = w2.drew from rfl]
              have hbd : Below w2.heap.size w2 w2.drew := Below.drew (Below.refl _ _)
              generalize w2.drew = wd at hbd ⊢
              have HBd := Lib.hid (btr HB2.out hbd)
              clear hbd c0 c1 c2 c3 c4 c5 c6 c7
              obtain ⟨⟨c0, c1, c2, c3⟩, ⟨c4, c5, c6, c7⟩⟩ := K.out _ HBd.out
              go_wp2_with fail
              go_still (by kernel_rfl)
              rw [show ({ wd with drawn := wd.drawn + 1 } : World) = wd.drew from rfl]
              have hbd : Below wd.heap.size wd wd.drew := Below.drew (Below.refl _ _)
              generalize wd.drew = we at hbd ⊢
              have HBe := Lib.hid (btr HBd.out hbd)
              clear hbd c0 c1 c2 c3 c4 c5 c6 c7
              obtain ⟨⟨c0, c1, c2, c3⟩, ⟨c4, c5, c6, c7⟩⟩ := K.out _ HBe.out
              go_wp2
              go_ret
              exact ⟨rfl, btr HBE.out HBe.out⟩
            · rw [show Lib.compareInt n n' = 1 by unfold Lib.compareInt; rw [if_neg (by omega), if_pos h1]]
              have h2 : ¬ n < n' := by omega
              go_enter Tryz.func21, Tryz.ntmps21
              obtain ⟨⟨a0, a1, a2, a3⟩, ⟨a4, a5, a6, a7⟩⟩ := K.out W1 (Below.refl _ _)
              go_wp2_with fail
              clear a0 a1 a2 a3 a4 a5 a6 a7
              refine (HC1.out W1).mono ?_
              rintro e w1 ⟨rfl, hb1⟩
              have HB1 := Lib.hid hb1
              obtain ⟨⟨a0, a1, a2, a3⟩, ⟨a4, a5, a6, a7⟩⟩ := K.out _ hb1
              clear hb1
              go_wp2_with fail
              refine (HC2.out w1).mono ?_
              rintro e w2 ⟨rfl, hb2⟩
              have HB2 := Lib.hid (btr HB1.out hb2)
              obtain ⟨⟨c0, c1, c2, c3⟩, ⟨c4, c5, c6, c7⟩⟩ := K.out _ HB2.out
              clear a0 a1 a2 a3 a4 a5 a6 a7 hb2
              go_wp2_with fail
              go_still (by kernel_rfl)
              rw [show ({ w2 with drawn := w2.drawn + 1 } : World) = w2.drew from rfl]
              have hbd : Below w2.heap.size w2 w2.drew := Below.drew (Below.refl _ _)
              generalize w2.drew = wd at hbd ⊢
              have HBd := Lib.hid (btr HB2.out hbd)
              clear hbd c0 c1 c2 c3 c4 c5 c6 c7
              obtain ⟨⟨c0, c1, c2, c3⟩, ⟨c4, c5, c6, c7⟩⟩ := K.out _ HBd.out
              go_wp2_with fail
              go_still (by kernel_rfl)
              rw [show ({ wd with drawn := wd.drawn + 1 } : World) = wd.drew from rfl]
              have hbd : Below wd.heap.size wd wd.drew := Below.drew (Below.refl _ _)
              generalize wd.drew = we at hbd ⊢
              have HBe := Lib.hid (btr HBd.out hbd)
              clear hbd c0 c1 c2 c3 c4 c5 c6 c7
              obtain ⟨⟨c0, c1, c2, c3⟩, ⟨c4, c5, c6, c7⟩⟩ := K.out _ HBe.out
              go_wp2
              go_ret
              exact ⟨rfl, btr HBE.out HBe.out⟩
      · rw [show ordV k n d s k' n' d' s' = Lib.compareInt k k' by simp [ordV, g1, g2, hk]]
        have hke : (k == k') = false := by rw [beq_eq_false_iff_ne]; exact hk
        clear g1 g2 hs hs' hbel
        rcases Int.lt_or_gt_of_ne hk with h1 | h1
        · rw [show Lib.compareInt k k' = -1 from if_pos h1]
          have h2 : ¬ k' < k := by omega
          go_enter Tryz.func21, Tryz.ntmps21
          obtain ⟨⟨a0, a1, a2, a3⟩, ⟨a4, a5, a6, a7⟩⟩ := K.out W1 (Below.refl _ _)
          go_wp2_with fail
          clear a0 a1 a2 a3 a4 a5 a6 a7
          refine (HC1.out W1).mono ?_
          rintro e w1 ⟨rfl, hb1⟩
          have HB1 := Lib.hid hb1
          obtain ⟨⟨a0, a1, a2, a3⟩, ⟨a4, a5, a6, a7⟩⟩ := K.out _ hb1
          clear hb1
          go_wp2_with fail
          refine (HC2.out w1).mono ?_
          rintro e w2 ⟨rfl, hb2⟩
          have HB2 := Lib.hid (btr HB1.out hb2)
          obtain ⟨⟨c0, c1, c2, c3⟩, ⟨c4, c5, c6, c7⟩⟩ := K.out _ HB2.out
          clear a0 a1 a2 a3 a4 a5 a6 a7 hb2
          go_wp2_with fail
          go_still (by kernel_rfl)
          rw [show ({ w2 with drawn := w2.drawn + 1 } : World) = w2.drew from rfl]
          have hbd : Below w2.heap.size w2 w2.drew := Below.drew (Below.refl _ _)
          generalize w2.drew = wd at hbd ⊢
          have HBd := Lib.hid (btr HB2.out hbd)
          clear hbd c0 c1 c2 c3 c4 c5 c6 c7
          obtain ⟨⟨c0, c1, c2, c3⟩, ⟨c4, c5, c6, c7⟩⟩ := K.out _ HBd.out
          go_wp2
          go_ret
          exact ⟨rfl, btr HBE.out HBd.out⟩
        · rw [show Lib.compareInt k k' = 1 by unfold Lib.compareInt; rw [if_neg (by omega), if_pos h1]]
          have h2 : ¬ k < k' := by omega
          go_enter Tryz.func21, Tryz.ntmps21
          obtain ⟨⟨a0, a1, a2, a3⟩, ⟨a4, a5, a6, a7⟩⟩ := K.out W1 (Below.refl _ _)
          go_wp2_with fail
          clear a0 a1 a2 a3 a4 a5 a6 a7
          refine (HC1.out W1).mono ?_
          rintro e w1 ⟨rfl, hb1⟩
          have HB1 := Lib.hid hb1
          obtain ⟨⟨a0, a1, a2, a3⟩, ⟨a4, a5, a6, a7⟩⟩ := K.out _ hb1
          clear hb1
          go_wp2_with fail
          refine (HC2.out w1).mono ?_
          rintro e w2 ⟨rfl, hb2⟩
          have HB2 := Lib.hid (btr HB1.out hb2)
          obtain ⟨⟨c0, c1, c2, c3⟩, ⟨c4, c5, c6, c7⟩⟩ := K.out _ HB2.out
          clear a0 a1 a2 a3 a4 a5 a6 a7 hb2
          go_wp2_with fail
          go_still (by kernel_rfl)
          rw [show ({ w2 with drawn := w2.drawn + 1 } : World) = w2.drew from rfl]
          have hbd : Below w2.heap.size w2 w2.drew := Below.drew (Below.refl _ _)
          generalize w2.drew = wd at hbd ⊢
          have HBd := Lib.hid (btr HB2.out hbd)
          clear hbd c0 c1 c2 c3 c4 c5 c6 c7
          obtain ⟨⟨c0, c1, c2, c3⟩, ⟨c4, c5, c6, c7⟩⟩ := K.out _ HBd.out
          go_wp2
          go_ret
          exact ⟨rfl, btr HBE.out HBd.out⟩
    · have g2' : okB k' n' d' s' = false := by simpa using g2
      rw [show ordV k n d s k' n' d' s' = 0 by simp [ordV, g2']]
      have HC2 : Hid (∀ W, Calls Tryz.prog 17 #[V k' n' d' s'] W fun e w' => e = .returned (.int .i64 2) ∧ Below W.heap.size W w') := fun W => by
        have h9 := H2.out W
        rw [g2'] at h9
        exact h9
      clear g1 g2 g2' H1 H2 hs hs' hbel
      go_enter Tryz.func21, Tryz.ntmps21
      obtain ⟨⟨a0, a1, a2, a3⟩, ⟨a4, a5, a6, a7⟩⟩ := K.out W1 (Below.refl _ _)
      go_wp2_with fail
      clear a0 a1 a2 a3 a4 a5 a6 a7
      refine (HC1.out W1).mono ?_
      rintro e w1 ⟨rfl, hb1⟩
      have HB1 := Lib.hid hb1
      obtain ⟨⟨a0, a1, a2, a3⟩, ⟨a4, a5, a6, a7⟩⟩ := K.out _ hb1
      clear hb1
      go_wp2_with fail
      refine (HC2.out w1).mono ?_
      rintro e w2 ⟨rfl, hb2⟩
      have HB2 := Lib.hid (btr HB1.out hb2)
      obtain ⟨⟨c0, c1, c2, c3⟩, ⟨c4, c5, c6, c7⟩⟩ := K.out _ HB2.out
      clear a0 a1 a2 a3 a4 a5 a6 a7 hb2
      go_wp2
      go_ret
      exact ⟨rfl, btr HBE.out HB2.out⟩
  · have g1' : okB k n d s = false := by simpa using g1
    rw [show ordV k n d s k' n' d' s' = 0 by simp [ordV, g1']]
    have HC1 : Hid (∀ W, Calls Tryz.prog 17 #[V k n d s] W fun e w' => e = .returned (.int .i64 2) ∧ Below W.heap.size W w') := fun W => by
      have h9 := H1.out W
      rw [g1'] at h9
      exact h9
    clear g1 g1' H1 H2 hs hs' hbel
    go_enter Tryz.func21, Tryz.ntmps21
    obtain ⟨⟨a0, a1, a2, a3⟩, ⟨a4, a5, a6, a7⟩⟩ := K.out W1 (Below.refl _ _)
    go_wp2_with fail
    clear a0 a1 a2 a3 a4 a5 a6 a7
    refine (HC1.out W1).mono ?_
    rintro e w1 ⟨rfl, hb1⟩
    have HB1 := Lib.hid hb1
    clear hb1
    go_wp2
    go_ret
    exact ⟨rfl, btr HBE.out HB1.out⟩
end Go.Proofs.YtoiihehlgfgikaaGreatDoor
end

/- ExactValues: the walk of the law. -/
section
namespace Go.Proofs.YtoiihehlgfgikaaGreatDoor
open Go.RowKit Go.Deep

theorem c_Bits_v (w : World) (x : Value) (q : Rat) (hx : RatV w x q) (k : RatW q 1) :
    ∀ W, Below w.heap.size w W → Calls Tryz.prog 31 #[x] W fun e w' => e = .returned (.tuple #[.int .i64 (halves q.num.natAbs : Int), .int .i64 (halves q.den : Int)]) ∧ Below W.heap.size W w' := by
  intro W hW
  have h1 : q.num.natAbs < W64 := (nw_le_one _).1 k.1
  have h2 : q.den < W64 := (nw_le_one _).1 k.2
  refine (c_Bits_small W x _ _ _ (hx.below hW) h1 h2).mono ?_
  rintro e w' ⟨rfl, n, rfl⟩
  refine ⟨?_, below_drewN (Below.refl _ _) n⟩
  unfold lenN
  rw [halves_bitLen _ h1, halves_bitLen _ h2]

set_option maxRecDepth 100000 in
set_option maxHeartbeats 16000000 in
theorem l_values (w : World) (k n d : Int) (s : ByteArray) (k' n' d' : Int) (s' : ByteArray) (t : Int) (m : Int) (hs : s.size ≤ 9223372036854775807) (hs' : s'.size ≤ 9223372036854775807) (htab : Tab w) (hm : w.cell? ⟨3, 0, none⟩ = some (.int .i64 m)) :
    Calls Tryz.prog 5 #[V k n d s, V k' n' d' s', .int .i64 t] w fun e w' => e = .returned (.bool true) ∧ Below w.heap.size w w' := by
  have h0 : 3 < w.heap.size := by
    by_cases h : 3 < w.heap.size
    · exact h
    · exfalso
      have : w.heap[3]? = none := Array.getElem?_eq_none (by omega)
      simp [World.cell?, this] at hm
  have HWk : Hid (∀ W, Below w.heap.size w W → Calls Tryz.prog 8 #[] W fun e w' => e = .returned (.bool true) ∧ Below W.heap.size W w') :=
    fun W hW => c_works W m ((hW.cell (p := ⟨3, 0, none⟩) h0).trans hm)
  have HPx : Hid (∀ W, Below w.heap.size w W → Calls Tryz.prog 14 #[V k n d s] W fun e w' => e = .returned (.tuple #[.string (prnV k n d s), .int .i64 (errB (okB k n d s))]) ∧ Below W.heap.size W w') :=
    fun W hW => v_Print k n d s m W (htab.below hW) ((hW.cell (p := ⟨3, 0, none⟩) h0).trans hm)
  have HT := Lib.hid htab
  clear hm h0 htab
  have HPr := Lib.hid (fun W => r_Print k n d s W hs)
  have HCx := Lib.hid (fun W => v_Check k n d s W)
  have HCr := Lib.hid (fun W => r_Check k n d s W hs)
  have HFx := Lib.hid (fun W => k_Fits k n d s t W)
  have HFr := Lib.hid (fun W => r_Fits k n d s t W hs)
  have HOx := Lib.hid (fun W => o_all W k n d s k' n' d' s')
  have HOr := Lib.hid (fun W => r_Order W k n d s k' n' d' s' hs hs')
  have HNx := Lib.hid (fun W => v_Number k n d s W)
  have HNr := Lib.hid (fun W => r_Number k n d s W hs)
  have HGood : Hid ((okB k n d s && k == 2) = true → Low n d) := fun h => by
    have h9 : okB k n d s = true ∧ k = 2 := by simpa using h
    obtain ⟨hok, rfl⟩ := h9
    have := okB_good.1 hok
    cases this
    assumption
  clear hs hs'
  generalize prnV k n d s = P at *
  generalize errB (okB k n d s) = E at *
  generalize (isTy t && (okB k n d s && fitB k d t)) = F at *
  generalize ordV k n d s k' n' d' s' = O at *
  obtain ⟨W0, W1, hW0, hW1, hz0, hbel, K⟩ := vals_box w k n d s k' n' d' s'
  have HBE := Lib.hid hbel
  clear hbel
  generalize (okB k n d s && k == 2) = B at *
  obtain ⟨⟨a0, a1, a2, a3⟩, ⟨a4, a5, a6, a7⟩⟩ := K.out W1 (Below.refl _ _)
  cases B
  · go_enter Tryz.func5, Tryz.ntmps5
    go_wp2_with fail
    refine (HNx.out W1).mono ?_
    rintro e w2 ⟨u, rfl, hu, hb2⟩
    obtain rfl : u = .pointer none := by
      rcases hu with ⟨h, _⟩ | ⟨_, h⟩
      · cases h
      · exact h
    have HB2 := Lib.hid hb2
    clear a0 a1 a2 a3 a4 a5 a6 a7 hb2 hu
    obtain ⟨⟨a0, a1, a2, a3⟩, ⟨a4, a5, a6, a7⟩⟩ := K.out _ HB2.out
    go_wp2_with fail
    refine (HNr.out w2).mono ?_
    rintro e w3 ⟨r, rfl, ⟨b, A, x, c, A', x', c', rfl⟩, _, hb3⟩
    have HB3 := Lib.hid (btr HB2.out hb3)
    clear hb3 a0 a1 a2 a3 a4 a5 a6 a7
    obtain ⟨w5, hw5, hb4, hz4, KR⟩ := ref_box w3 b (.slice A x c) (.slice A' x' c')
    have HB5 := Lib.hid (btr HB3.out hb4)
    obtain ⟨⟨a0, a1, a2, a3⟩, ⟨a4, a5, a6, a7⟩⟩ := K.out _ HB5.out
    have hb5 := hb4
    clear hb4
    have HBp := Lib.hid (btr HBE.out HB5.out)
    clear hb5
    go_wp2_with fail
    refine (HPx.out w5 HBp.out).mono ?_
    rintro e w6 ⟨rfl, hb6⟩
    have HB6 := Lib.hid (btr HB5.out hb6)
    obtain ⟨⟨c0, c1, c2, c3⟩, ⟨c4, c5, c6, c7⟩⟩ := K.out _ HB6.out
    clear hb6 a0 a1 a2 a3 a4 a5 a6 a7
    go_wp2_with fail
    refine (HPr.out w6).mono ?_
    rintro e w7 ⟨rfl, hb7⟩
    have HB7 := Lib.hid (btr HB6.out hb7)
    clear hb7 c0 c1 c2 c3 c4 c5 c6 c7
    go_wp2_with fail
    have B7d : Below w7.heap.size w7 w7.drew := Below.drew (Below.refl _ _)
    have HM : Hid (∀ W, Below w7.heap.size w7 W → Below w.heap.size w W) := fun W h => btr HBE.out (btr HB7.out h)
    have HK : Hid (∀ w', Below w7.heap.size w7 w' → w'.cell? ⟨w.heap.size, 0, none⟩ = some (.int .i64 k) ∧ w'.cell? ⟨w.heap.size, 1, none⟩ = some (.int .i64 n) ∧ w'.cell? ⟨w.heap.size, 2, none⟩ = some (.int .i64 d) ∧ w'.cell? ⟨w.heap.size, 3, none⟩ = some (.string s) ∧ w'.cell? ⟨w.heap.size + 1, 0, none⟩ = some (.int .i64 k') ∧ w'.cell? ⟨w.heap.size + 1, 1, none⟩ = some (.int .i64 n') ∧ w'.cell? ⟨w.heap.size + 1, 2, none⟩ = some (.int .i64 d') ∧ w'.cell? ⟨w.heap.size + 1, 3, none⟩ = some (.string s')) := fun W h => by
      obtain ⟨⟨c0, c1, c2, c3⟩, ⟨c4, c5, c6, c7⟩⟩ := K.out _ (btr HB7.out h)
      exact ⟨c0, c1, c2, c3, c4, c5, c6, c7⟩
    go_region_held3 (fun w' => w'.cell? ⟨w.heap.size, 0, none⟩ = some (.int .i64 k) ∧ w'.cell? ⟨w.heap.size, 1, none⟩ = some (.int .i64 n) ∧ w'.cell? ⟨w.heap.size, 2, none⟩ = some (.int .i64 d) ∧ w'.cell? ⟨w.heap.size, 3, none⟩ = some (.string s) ∧ w'.cell? ⟨w.heap.size + 1, 0, none⟩ = some (.int .i64 k') ∧ w'.cell? ⟨w.heap.size + 1, 1, none⟩ = some (.int .i64 n') ∧ w'.cell? ⟨w.heap.size + 1, 2, none⟩ = some (.int .i64 d') ∧ w'.cell? ⟨w.heap.size + 1, 3, none⟩ = some (.string s'))
      (first | exact HK.out _ C7 | exact HK.out _ C6 | exact HK.out _ C5 | exact HK.out _ C4 | exact HK.out _ C3 | exact HK.out _ C2 | exact HK.out _ C1 | exact HK.out _ B7d | exact HK.out _ (Below.refl _ _))
      (first
        | (go_at_call 16; refine (HCx.out _).mono ?_; rintro e x1 ⟨rfl, hc1⟩; have C1 : Below w7.heap.size w7 x1 := btr B7d hc1)
        | (go_at_call 17; refine (HCr.out _).mono ?_; rintro e x2 ⟨rfl, hc2⟩; have C2 : Below w7.heap.size w7 x2 := btr C1 hc2)
        | (go_at_call 18; refine (HFx.out _).mono ?_; rintro e x3 ⟨rfl, hc3⟩; have C3 : Below w7.heap.size w7 x3 := btr C2 hc3)
        | (go_at_call 19; refine (HFr.out _).mono ?_; rintro e x4 ⟨rfl, hc4⟩; have C4 : Below w7.heap.size w7 x4 := btr C3 hc4)
        | (go_at_call 20; refine (HOx.out _).mono ?_; rintro e x5 ⟨rfl, hc5⟩; have C5 : Below w7.heap.size w7 x5 := btr C4 hc5)
        | (go_at_call 21; refine (HOr.out _).mono ?_; rintro e x6 ⟨rfl, hc6⟩; have C6 : Below w7.heap.size w7 x6 := btr C5 hc6)
        | (go_at_call 8; refine (HWk.out _ (HM.out _ C6)).mono ?_; rintro e x7 ⟨rfl, hc7⟩; have C7 : Below w7.heap.size w7 x7 := btr C6 hc7))
    all_goals
      have hF := HM.out _ C7
      go_wp2
      go_ret
      exact ⟨rfl, hF⟩
  · have hl := HGood.out rfl
    have HSm : Hid (∀ W x r, Below w.heap.size w W → RatV W x (qV n d) → RefV W r (qV n d) → Calls Tryz.prog 9 #[x, r] W fun e w' => e = .returned (.bool true) ∧ Below W.heap.size W w') := fun W x r hW hx hr =>
      l_same W x r (qV n d) hx hr ((ratW_qV hl).mono (by omega)) (low_w9 hl) (HT.out.below hW) (c_Bits_v W x (qV n d) hx (ratW_qV hl))
    clear hl
    generalize qV n d = q at *
    go_enter Tryz.func5, Tryz.ntmps5
    go_wp2_with fail
    refine (HNx.out W1).mono ?_
    rintro e w2 ⟨u, rfl, hu, hb2⟩
    have hu2 : RatV w2 u q := by
      rcases hu with ⟨_, h⟩ | ⟨h, _⟩
      · exact h
      · cases h
    have HU := Lib.hid hu2
    obtain ⟨px, rfl⟩ : ∃ b, u = .pointer (some ⟨b, 0, none⟩) := by
      obtain ⟨b, nv, dv, e, _⟩ := hu2
      exact ⟨b, e⟩
    have HB2 := Lib.hid hb2
    clear a0 a1 a2 a3 a4 a5 a6 a7 hb2 hu hu2
    obtain ⟨⟨a0, a1, a2, a3⟩, ⟨a4, a5, a6, a7⟩⟩ := K.out _ HB2.out
    go_wp2_with fail
    refine (HNr.out w2).mono ?_
    rintro e w3 ⟨r, rfl, ⟨b, A, x, c, A', x', c', rfl⟩, hr, hb3⟩
    have HR := Lib.hid (hr (by first | rfl | trivial))
    have HU3 := Lib.hid (HU.out.below hb3)
    have HB3 := Lib.hid (btr HB2.out hb3)
    clear hb3 hr a0 a1 a2 a3 a4 a5 a6 a7
    obtain ⟨w4, hw4, hb4, hz4, KR⟩ := ref_box w3 b (.slice A x c) (.slice A' x' c')
    have HB4 := Lib.hid (btr HB3.out hb4)
    have HU4 := Lib.hid (HU3.out.below hb4)
    have HR4 := Lib.hid (HR.out.below hb4)
    obtain ⟨x0, x1, x2⟩ := KR.out w4 (Below.refl _ _)
    clear hb4
    go_wp2_with fail
    refine (HSm.out w4 _ _ (btr HBE.out HB4.out) HU4.out HR4.out).mono ?_
    rintro e w5 ⟨rfl, hb5⟩
    have HB5 := Lib.hid (btr HB4.out hb5)
    obtain ⟨⟨a0, a1, a2, a3⟩, ⟨a4, a5, a6, a7⟩⟩ := K.out _ HB5.out
    clear x0 x1 x2
    have HBp := Lib.hid (btr HBE.out HB5.out)
    clear hb5
    go_wp2_with fail
    refine (HPx.out w5 HBp.out).mono ?_
    rintro e w6 ⟨rfl, hb6⟩
    have HB6 := Lib.hid (btr HB5.out hb6)
    obtain ⟨⟨c0, c1, c2, c3⟩, ⟨c4, c5, c6, c7⟩⟩ := K.out _ HB6.out
    clear hb6 a0 a1 a2 a3 a4 a5 a6 a7
    go_wp2_with fail
    refine (HPr.out w6).mono ?_
    rintro e w7 ⟨rfl, hb7⟩
    have HB7 := Lib.hid (btr HB6.out hb7)
    clear hb7 c0 c1 c2 c3 c4 c5 c6 c7
    go_wp2_with fail
    have B7d : Below w7.heap.size w7 w7.drew := Below.drew (Below.refl _ _)
    have HM : Hid (∀ W, Below w7.heap.size w7 W → Below w.heap.size w W) := fun W h => btr HBE.out (btr HB7.out h)
    have HK : Hid (∀ w', Below w7.heap.size w7 w' → w'.cell? ⟨w.heap.size, 0, none⟩ = some (.int .i64 k) ∧ w'.cell? ⟨w.heap.size, 1, none⟩ = some (.int .i64 n) ∧ w'.cell? ⟨w.heap.size, 2, none⟩ = some (.int .i64 d) ∧ w'.cell? ⟨w.heap.size, 3, none⟩ = some (.string s) ∧ w'.cell? ⟨w.heap.size + 1, 0, none⟩ = some (.int .i64 k') ∧ w'.cell? ⟨w.heap.size + 1, 1, none⟩ = some (.int .i64 n') ∧ w'.cell? ⟨w.heap.size + 1, 2, none⟩ = some (.int .i64 d') ∧ w'.cell? ⟨w.heap.size + 1, 3, none⟩ = some (.string s')) := fun W h => by
      obtain ⟨⟨c0, c1, c2, c3⟩, ⟨c4, c5, c6, c7⟩⟩ := K.out _ (btr HB7.out h)
      exact ⟨c0, c1, c2, c3, c4, c5, c6, c7⟩
    go_region_held3 (fun w' => w'.cell? ⟨w.heap.size, 0, none⟩ = some (.int .i64 k) ∧ w'.cell? ⟨w.heap.size, 1, none⟩ = some (.int .i64 n) ∧ w'.cell? ⟨w.heap.size, 2, none⟩ = some (.int .i64 d) ∧ w'.cell? ⟨w.heap.size, 3, none⟩ = some (.string s) ∧ w'.cell? ⟨w.heap.size + 1, 0, none⟩ = some (.int .i64 k') ∧ w'.cell? ⟨w.heap.size + 1, 1, none⟩ = some (.int .i64 n') ∧ w'.cell? ⟨w.heap.size + 1, 2, none⟩ = some (.int .i64 d') ∧ w'.cell? ⟨w.heap.size + 1, 3, none⟩ = some (.string s'))
      (first | exact HK.out _ C7 | exact HK.out _ C6 | exact HK.out _ C5 | exact HK.out _ C4 | exact HK.out _ C3 | exact HK.out _ C2 | exact HK.out _ C1 | exact HK.out _ B7d | exact HK.out _ (Below.refl _ _))
      (first
        | (go_at_call 16; refine (HCx.out _).mono ?_; rintro e x1 ⟨rfl, hc1⟩; have C1 : Below w7.heap.size w7 x1 := btr B7d hc1)
        | (go_at_call 17; refine (HCr.out _).mono ?_; rintro e x2 ⟨rfl, hc2⟩; have C2 : Below w7.heap.size w7 x2 := btr C1 hc2)
        | (go_at_call 18; refine (HFx.out _).mono ?_; rintro e x3 ⟨rfl, hc3⟩; have C3 : Below w7.heap.size w7 x3 := btr C2 hc3)
        | (go_at_call 19; refine (HFr.out _).mono ?_; rintro e x4 ⟨rfl, hc4⟩; have C4 : Below w7.heap.size w7 x4 := btr C3 hc4)
        | (go_at_call 20; refine (HOx.out _).mono ?_; rintro e x5 ⟨rfl, hc5⟩; have C5 : Below w7.heap.size w7 x5 := btr C4 hc5)
        | (go_at_call 21; refine (HOr.out _).mono ?_; rintro e x6 ⟨rfl, hc6⟩; have C6 : Below w7.heap.size w7 x6 := btr C5 hc6)
        | (go_at_call 8; refine (HWk.out _ (HM.out _ C6)).mono ?_; rintro e x7 ⟨rfl, hc7⟩; have C7 : Below w7.heap.size w7 x7 := btr C6 hc7))
    all_goals
      have hF := HM.out _ C7
      go_wp2
      go_ret
      exact ⟨rfl, hF⟩
end Go.Proofs.YtoiihehlgfgikaaGreatDoor
end

/- ExactValues: whatever the two values and the type, the number, the string, the check, the fit and the order are the document's own: the law returns true. Its row lists package-level variables of Go's library, tied to the program's text by the card. -/
section
namespace Go.Proofs.YtoiihehlgfgikaaGreatDoor
open Go.ChangeShapes Go.WideShapes Go.ChangeAt Go.RowKit

theorem val_fieldsA : ∃ f0 f1 f2 f3 : Field, Tryz.prog.underlying 42 = some (.struct #[f0, f1, f2, f3]) ∧ f0.type = 3 ∧ f0.offset = 0 ∧ f1.type = 2 ∧ f1.offset = 1 ∧ f2.type = 2 ∧ f2.offset = 2 ∧ f3.type = 9 ∧ f3.offset = 3 :=
  ⟨_, _, _, _, Tryz.underlying42, rfl, rfl, rfl, rfl, rfl, rfl, rfl, rfl⟩
section
variable {H : Type} {enc : TypeId × Value → H} {w : World} {base : Nat} {spare : Nat → Bool} {held : Bool}
theorem open_valL {fuel : Nat} {c0 c1 c2 c3 : Value} {x : DataW H × List MemPlace} (h : DataW.trod enc Tryz.prog w base spare held fuel 42 [c0, c1, c2, c3] = some x) :
    ∃ (k n d : Int) (s : ByteArray), c0 = .int .i64 k ∧ c1 = .int .i64 n ∧ c2 = .int .i64 d ∧ c3 = .string s ∧ s.size ≤ 9223372036854775807 := by
  obtain ⟨f0, f1, f2, f3, hu, t0, o0, t1, o1, t2, o2, t3, o3⟩ := val_fieldsA
  obtain ⟨xs, n, _, _, _, hlen, hf⟩ := DataW.trod_struct hu h
  have l0 : 0 < xs.length := by rw [hlen]; simp
  have l1 : 1 < xs.length := by rw [hlen]; simp
  have l2 : 2 < xs.length := by rw [hlen]; simp
  have l3 : 3 < xs.length := by rw [hlen]; simp
  have q0 := hf 0 f0 rfl
  have q1 := hf 1 f1 rfl
  have q2 := hf 2 f2 rfl
  have q3 := hf 3 f3 rfl
  have ci : Tryz.prog.cellsOf 3 = 1 := by kernel_rfl
  have c6 : Tryz.prog.cellsOf 2 = 1 := by kernel_rfl
  have cs : Tryz.prog.cellsOf 9 = 1 := by kernel_rfl
  rw [t0, o0, ci, List.getElem?_eq_getElem l0] at q0
  rw [t1, o1, c6, List.getElem?_eq_getElem l1] at q1
  rw [t2, o2, c6, List.getElem?_eq_getElem l2] at q2
  rw [t3, o3, cs, List.getElem?_eq_getElem l3] at q3
  obtain ⟨z0, e0, _, _⟩ := DataW.trod_int Tryz.underlying3 q0
  obtain ⟨z1, e1, _, _⟩ := DataW.trod_int Tryz.underlying2 q1
  obtain ⟨z2, e2, _, _⟩ := DataW.trod_int Tryz.underlying2 q2
  obtain ⟨z3, e3, _, hz⟩ := DataW.trod_string Tryz.underlying9 q3
  exact ⟨z0, z1, z2, z3, by simpa using e0, by simpa using e1, by simpa using e2, by simpa using e3, hz⟩
set_option maxRecDepth 100000 in
theorem open_valA {r : Reach} {b0 : Nat} {v : Value} {dt : DataW H} {ps : List MemPlace} (hval : Value.okWide Tryz.prog w r b0 42 v) (hd : DataW.Trod enc Tryz.prog w base spare held 42 v dt ps) :
    ∃ (k n d : Int) (s : ByteArray), v = V k n d s ∧ s.size ≤ 9223372036854775807 := by
  obtain ⟨f0, f1, f2, f3, hu, _⟩ := val_fieldsA
  obtain ⟨cs, rfl, hsz⟩ := okWide_struct hu hval
  have c4 : Tryz.prog.cellsOf 42 = 4 := by kernel_rfl
  rw [c4] at hsz
  obtain ⟨fuel, hf⟩ := hd
  obtain ⟨l⟩ := cs
  match l, hsz with
  | [c0, c1, c2, c3], _ =>
    have hf' : DataW.trod enc Tryz.prog w base spare held fuel 42 [c0, c1, c2, c3] = some (dt, ps) := hf
    obtain ⟨k, n, d, s, rfl, rfl, rfl, rfl, hz⟩ := open_valL hf'
    exact ⟨k, n, d, s, rfl, hz⟩
end

set_option maxRecDepth 100000 in
theorem values_lifted (os : Os) (started : os.Started) (H : Type) (enc : TypeId × Value → H) :
    ReturnsInHanded {} Tryz.checked os 5 .any (fun w args => (Rows.exactValuesSpec.pre enc Tryz.prog Tryz.f5 [] false w args ∧ laidMetH Tryz.prog Rows.exactValuesRow.laid w) ∧ sizedMet enc Tryz.prog Tryz.f5 (OpenSpec.ofChange Rows.exactValuesSpec) false w args)
      (Rows.exactValuesSpec.post enc Tryz.prog Tryz.f5 false true false false) := by
  refine handed_laid_shaped (C := Tryz.checked) (X := fun w _ => laidMetH Tryz.prog Rows.exactValuesRow.laid w) (fun _ _ _ hh h => h.of_heap hh) own started (by kernel_rfl) Tryz.func5
    (ChangeSpec.witness_shaped (enc := enc) (C := Tryz.checked) (os := os) (X := fun w _ => laidMetH Tryz.prog Rows.exactValuesRow.laid w) false (World.laidAll Tryz.prog os Rows.exactValuesRow.laid) #[.agg #[.int .i64 0, .int .i64 0, .int .i64 0, .string ⟨#[]⟩], .agg #[.int .i64 0, .int .i64 0, .int .i64 0, .string ⟨#[]⟩], .int .i64 0] 8 (World.laidAll_os _ _ _)
      (World.shaped_of_ZipB (by kernel_rfl) (by kernel_rfl)) (by kernel_rfl) (by kernel_rfl) (by kernel_rfl)
      (by rw [MakeChecks.laidMetH_plain _ _ _ (by kernel_rfl)]; exact laidMet_laidAll _ (by kernel_rfl) (by kernel_rfl))) ?_
  intro W base args ds gs before hval0 hW hlaid hsh
  have hval : ∀ (j : Nat) t v, Tryz.f5.params[j]? = some t → args[j]? = some v → Value.okWide Tryz.prog W .any base t v := hval0
  have htab : Tab W := by
    rw [MakeChecks.laidMetH_plain _ _ _ (by kernel_rfl)] at hlaid
    exact tab_of hlaid
  have hW' := hW
  obtain ⟨p, q, hA0, hV, rfl, _, _⟩ := hW
  have hA : DataW.TrodAll enc Tryz.prog W 0 (fun _ => true) true Tryz.f5.params.toList args.toList ds p := hA0
  rw [Tryz.params5] at hA hval
  obtain ⟨v0, v1, v2, d0, d1, d2, p0, p1, p2, rfl, rfl, rfl, h0, h1, h2⟩ := trodAll_three hA
  obtain ⟨rfl, rfl⟩ := trodVars_none hV
  obtain ⟨k, n, d, s, rfl, hs⟩ := open_valA (hval 0 42 v0 rfl rfl) h0
  obtain ⟨k', n', d', s', rfl, hs'⟩ := open_valA (hval 1 42 v1 rfl rfl) h1
  obtain ⟨t, rfl, rfl, rfl, wt⟩ := open_int Tryz.underlying3 (hval 2 3 v2 rfl rfl) h2
  clear hA0 hval0
  simp only [List.append_nil] at hW'
  obtain ⟨m, hm⟩ := maxLen_cell hsh
  have hlt0 : ∀ x ∈ p0, x.block < W.heap.size := fun x hx => hW'.lt x (by simp [hx])
  have hlt1 : ∀ x ∈ p1, x.block < W.heap.size := fun x hx => hW'.lt x (by simp [hx])
  refine (l_values W k n d s k' n' d' s' t m hs hs' htab hm).mono fun e W' ⟨he, hb⟩ => ?_
  subst he
  have tr := fun {v : Value} {d : DataW H} {ps : List MemPlace} (h : DataW.Trod enc Tryz.prog W 0 (fun _ => true) true 42 v d ps) (hlt : ∀ x ∈ ps, x.block < W.heap.size) =>
    Below.trod laidOut' (t := 42) (by kernel_rfl) (of_decide_eq_true (by kernel_rfl)) h hb hlt
  exact ⟨_, rfl, ⟨_, _, _, [], _, [], hW', trodAll_mk1 (shut_bool Tryz.underlying4 _), trodAll_mk3 (tr h0 hlt0) (tr h1 hlt1) (shut_int Tryz.underlying3 wt), rfl, hb.frame _, fun h => by cases h⟩⟩

theorem values_row : Rows.ExactValuesSaid :=
  OpenClaim.holds_of_wide 5 Tryz.f5 rfl rfl rfl rfl rfl rfl rfl ⟨rfl, rfl, rfl, rfl, rfl⟩ rfl rfl rfl rfl rfl (by kernel_rfl) Tryz.func5 (by kernel_rfl)
    (of_decide_eq_true (by kernel_rfl)) (by unfold Func.isWrapper; first | (rw [if_pos (by decide +kernel)]; kernel_rfl) | (rw [if_neg (by decide +kernel)]; exact ⟨rfl, rfl⟩))
    (fun os started H enc _ => values_lifted os started H enc)

theorem values_card : Rows.ExactValuesCardSaid :=
  Claim7.holds_tied_plain_at .later [] Rows.exactValuesCard.laidKinds true Rows.exactValuesCard.stood.harness true
    values_row (fun _ h => by cases h) (by kernel_rfl) (fun _ h => by cases h) exactValues_row_tie rfl ⟨rfl, rfl⟩ (by kernel_rfl) rfl
    (fun f fn hf hfn => by
      obtain rfl : f = 5 := Option.some.inj ((show Tryz.prog.funcNamed "tesseract/tesseractlaw01.ExactValues" = some 5 by kernel_rfl).symm.trans hf) |>.symm
      obtain rfl : fn = Tryz.f5 := (Option.some.inj (Tryz.func5.symm.trans hfn)).symm
      exact ⟨by kernel_rfl, fun j t ht => by
        rw [Tryz.params5] at ht
        have hin : t ∈ [42, 3] := by have := Array.mem_of_getElem? ht; simpa using this
        have hall : ([42, 3].all fun u => !Tryz.prog.wantsStandIn u) = true := by kernel_rfl
        exact (show Tryz.prog.wantsStandIn t = false by simpa using List.all_eq_true.1 hall t hin)⟩)
    (by kernel_rfl)
end Go.Proofs.YtoiihehlgfgikaaGreatDoor
end

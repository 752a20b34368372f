/- The reference's names and bounds. -/
import Derived.Test.YtmhggphkhabjlaaGreatDoorZSpE
import Derived.Test.YtmhggphkhabjlaaGreatDoorZCmpS

/- The reference's names and bounds. -/
section
namespace Go.Proofs.YtmhggphkhabjlaaGreatDoor
open Go Go.RowKit Go.Deep

theorem ret_b {a b : Bool} (h : a = b) : Ending.returned (.bool a) = .returned (.bool b) := by rw [h]
set_option maxHeartbeats 400000 in
theorem r_letter (c : Int) (w : World) : Calls Tryz.prog 49 #[.int .u8 c] w fun e w' => e = .returned (.bool (letB c)) ∧ w = w' := by
  by_cases h : 97 ≤ c
  · have e1 : letB c = decide (c ≤ 122) := by simp [letB, h]
    rw [e1]
    go_enter Tryz.func49, Tryz.ntmps49
    go_wp2
    go_ret
    exact ⟨rfl, rfl⟩
  · have e1 : letB c = false := by simp [letB, h]
    rw [e1]
    go_enter Tryz.func49, Tryz.ntmps49
    go_wp2
    go_ret
    exact ⟨rfl, rfl⟩
set_option maxHeartbeats 1000000 in
theorem r_further (c : Int) (w : World) : Calls Tryz.prog 50 #[.int .u8 c] w fun e w' => e = .returned (.bool (chrB c)) ∧ w = w' := by
  have HL := Lib.hid r_letter
  have HX : Hid (chrB c = (letB c || ((decide (48 ≤ c) && decide (c ≤ 57)) || c == 95))) := rfl
  go_enter Tryz.func50, Tryz.ntmps50
  go_wp2_with fail
  refine (HL.out _ _).mono ?_
  rintro e w1 ⟨rfl, rfl⟩
  generalize letB c = L at *
  cases L
  · by_cases g1 : 48 ≤ c
    · by_cases g2 : c ≤ 57
      · rw [decide_eq_true g1, decide_eq_true g2] at HX
        go_wp2
        go_ret
        exact ⟨ret_b (by rw [HX.out]; rfl), rfl⟩
      · rw [decide_eq_true g1] at HX
        go_wp2
        go_ret
        exact ⟨ret_b (by rw [HX.out]; rfl), rfl⟩
    · rw [decide_eq_false g1] at HX
      go_wp2
      go_ret
      exact ⟨ret_b (by rw [HX.out]; rfl), rfl⟩
  · go_wp2
    go_ret
    exact ⟨ret_b (by rw [HX.out]; simp), rfl⟩

set_option maxRecDepth 100000 in
set_option maxHeartbeats 2000000 in
theorem r_Name (s : ByteArray) (w : World) (hs : s.size ≤ 9223372036854775807) : Calls Tryz.prog 13 #[.string s] w fun e w' => e = .returned (.bool (nameB s)) ∧ w = w' := by
  have HL := Lib.hid r_letter
  have HF := Lib.hid r_further
  by_cases h0 : s.size = 0
  · have e1 : nameB s = false := by simp [nameB, h0]
    have h0' : (s.size : Int) < 1 := by omega
    rw [e1]
    clear e1
    go_enter Tryz.func13, Tryz.ntmps13
    go_wp2
    go_ret
    exact ⟨rfl, rfl⟩
  · have h0' : ¬ (s.size : Int) < 1 := by omega
    by_cases h1 : s.size ≤ 12
    · have hp : 0 < s.size := by omega
      have h1' : ¬ (s.size : Int) > 12 := by omega
      have HB := Lib.hid (byt_eq s 0 hp)
      have HN : Hid (nameB s = (letB (byt s 0) && nameTo s s.size)) := by show _ = _; simp [nameB, hp, h1]
      have HS := Lib.hid h1
      rw [HN.out]
      clear h0 h1
      go_enter Tryz.func13, Tryz.ntmps13
      go_wp2_with fail
      refine (HL.out _ _).mono ?_
      rintro e w1 ⟨rfl, rfl⟩
      rw [← HB.out]
      generalize hL : letB (byt s 0) = L
      have HLv := Lib.hid hL
      clear hL
      cases L
      · go_wp2
        go_ret
        exact ⟨ret_b (by rw [HLv.out]; rfl), rfl⟩
      · go_wp2
        go_loop [3] (fun i => ∃ k : Nat, k ≤ s.size ∧ i = .int .i64 k ∧ Hid (nameTo s k = true)) (fun i => s.size - (intOf i).toNat)
        case atStart => exact ⟨0, Nat.zero_le _, rfl, rfl⟩
        case round =>
          obtain ⟨k, hk, rfl, HK⟩ := hrel
          by_cases hlt : k < s.size
          · have HBk := Lib.hid (byt_eq s k hlt)
            have HC : Hid (chrB (s[k].toNat : Int) = true → nameTo s (k + 1) = true) := fun h => by rw [nameTo_succ, HK.out, HBk.out, h]; rfl
            have HE : Hid (chrB (s[k].toNat : Int) = false → nameTo s s.size = false) := fun h => nameTo_le (k := k + 1) (by rw [nameTo_succ, HBk.out, h, Bool.and_false]) (by omega)
            go_wp2_with fail
            refine (HF.out _ _).mono ?_
            rintro e w1 ⟨rfl, rfl⟩
            generalize chrB (s[k].toNat : Int) = L at *
            cases L
            · have HR := Lib.hid (HE.out rfl)
              go_wp2
              go_ret
              exact ⟨ret_b (by rw [HLv.out, HR.out]; rfl), rfl⟩
            · have HR := Lib.hid (HC.out rfl)
              go_wp2
              go_round
              case rel => exact ⟨k + 1, by omega, by go_num, HR.out⟩
              case measure => simp [intOf]; omega
          · obtain rfl : k = s.size := by omega
            go_wp2
            go_ret
            exact ⟨ret_b (by rw [HLv.out, HK.out]; rfl), rfl⟩
    · have e1 : nameB s = false := by simp [nameB, h1]
      have h1' : (s.size : Int) > 12 := by omega
      rw [e1]
      clear e1
      go_enter Tryz.func13, Tryz.ntmps13
      go_wp2
      go_ret
      exact ⟨rfl, rfl⟩

def boundB (lo hi : Int) : Bool := if lo < -1073741824 ∨ lo > 1073741824 ∨ hi < lo ∨ hi > 1073741825 then false else true
set_option maxHeartbeats 2000000 in
theorem r_bounds (s : ByteArray) (lo hi : Int) (w : World) : Calls Tryz.prog 85 #[DimV s lo hi] w fun e w' => e = .returned (.bool (boundB lo hi)) ∧ Below w.heap.size w w' := by
  have HX : Hid (boundB lo hi = if lo < -1073741824 ∨ lo > 1073741824 ∨ hi < lo ∨ hi > 1073741825 then false else true) := rfl
  have hb : Below w.heap.size w (w.alloc (.cells #[.string s, .int .i64 lo, .int .i64 hi] 28)) := (Below.refl _ _).alloc (Nat.le_refl _) _
  go_enter Tryz.func85, Tryz.ntmps85
  by_cases g1 : lo < -1073741824
  · have g1' : ¬ lo ≥ -1073741824 := by omega
    go_wp2
    go_ret
    exact ⟨ret_b (by rw [HX.out, if_pos (by omega)]), hb⟩
  · have g1' : lo ≥ -1073741824 := by omega
    by_cases g2 : lo > 1073741824
    · have g2' : ¬ lo ≤ 1073741824 := by omega
      go_wp2
      go_ret
      exact ⟨ret_b (by rw [HX.out, if_pos (by omega)]), hb⟩
    · have g2' : lo ≤ 1073741824 := by omega
      by_cases g3 : hi < lo
      · have g3' : ¬ hi ≥ lo := by omega
        go_wp2
        go_ret
        exact ⟨ret_b (by rw [HX.out, if_pos (by omega)]), hb⟩
      · have g3' : hi ≥ lo := by omega
        by_cases g4 : hi > 1073741825
        · have g4' : ¬ hi ≤ 1073741825 := by omega
          go_wp2
          go_ret
          exact ⟨ret_b (by rw [HX.out, if_pos (by omega)]), hb⟩
        · have g4' : hi ≤ 1073741825 := by omega
          go_wp2
          go_ret
          exact ⟨ret_b (by rw [HX.out, if_neg (by omega)]), hb⟩
set_option maxRecDepth 100000 in
set_option maxHeartbeats 1000000 in
theorem r_Last (s : ByteArray) (lo hi : Int) (w : World) : Calls Tryz.prog 70 #[DimV s lo hi] w fun e w' => e = .returned (.int .i64 (lastZ hi)) ∧ Below w.heap.size w w' := by
  by_cases h : hi ≤ 1073741824
  · have e1 : lastZ hi = hi := if_pos h
    rw [e1]
    go_enter Tryz.func70, Tryz.ntmps70
    go_wp2
    go_ret
    refine ⟨?_, (Below.refl _ _).alloc (Nat.le_refl _) _⟩
    first
    | rfl
    | (show Ending.returned (.int .i64 (min hi 1073741824)) = _; rw [Int.min_eq_left h])
  · have e1 : lastZ hi = 1073741824 := if_neg h
    rw [e1]
    go_enter Tryz.func70, Tryz.ntmps70
    go_wp2
    go_ret
    refine ⟨?_, (Below.refl _ _).alloc (Nat.le_refl _) _⟩
    first
    | rfl
    | (show Ending.returned (.int .i64 (min hi 1073741824)) = _; rw [Int.min_eq_right (by omega)])
end Go.Proofs.YtmhggphkhabjlaaGreatDoor
end

/- The reference's error of dimensions. -/
section
namespace Go.Proofs.YtmhggphkhabjlaaGreatDoor
open Go Go.RowKit Go.Deep

/-- Does one of the first k names equal s? -/
def dupTo (nm : Nat → ByteArray) (s : ByteArray) : Nat → Bool
  | 0 => false
  | k + 1 => dupTo nm s k || decide (nm k = s)
theorem dupTo_le {nm : Nat → ByteArray} {s : ByteArray} {k n : Nat} (h : dupTo nm s k = true) (hn : k ≤ n) : dupTo nm s n = true := by
  induction n with
  | zero => obtain rfl : k = 0 := by omega
            exact h
  | succ n ih =>
    by_cases e : k = n + 1
    · rw [← e]; exact h
    · rw [dupTo, ih (by omega)]; rfl
theorem dup_in (nm : Nat → ByteArray) (s : ByteArray) : ∀ k, inN (metK [] nm k) s = dupTo nm s k
  | 0 => inN_false.2 (by simp [metK])
  | k + 1 => by
    have ih := dup_in nm s k
    rw [dupTo, ← ih]
    by_cases h : nm k = s
    · rw [decide_eq_true h, Bool.or_true]
      exact inN_true.2 (by rw [metK, h]; exact List.mem_cons_self)
    · rw [decide_eq_false h, Bool.or_false]
      cases h2 : inN (metK [] nm k) s
      · exact inN_false.2 (by rw [metK]; intro h3; rcases List.mem_cons.1 h3 with h4 | h4; · exact h h4.symm
                              · exact inN_false.1 h2 h4)
      · exact inN_true.2 (by rw [metK]; exact List.mem_cons_of_mem _ (inN_true.1 h2))
theorem dimE_of (nm : Nat → ByteArray) (s : ByteArray) (k : Nat) (lo hi : Int) : dimE (metK [] nm k) s lo hi = if nameB s = false then 11 else if dupTo nm s k = true then 11 else if boundB lo hi = true then 0 else 3 := by
  rw [dimE, dup_in]
  cases h1 : nameB s
  · rfl
  · cases h2 : dupTo nm s k
    · unfold boundB
      by_cases h3 : lo < -1073741824 ∨ lo > 1073741824 ∨ hi < lo ∨ hi > 1073741825
      · rw [if_pos h3, if_pos h3]; rfl
      · rw [if_neg h3, if_neg h3]; rfl
    · rfl

theorem str_eq {s t : ByteArray} (h : (s.toList == t.toList) = true) : s = t := by
  have h1 : s.toList = t.toList := by simpa using h
  rw [ByteArray.toList_eq, ByteArray.toList_eq] at h1
  obtain ⟨⟨a⟩⟩ := s
  obtain ⟨⟨b⟩⟩ := t
  simp only at h1
  rw [h1]

set_option maxRecDepth 100000 in
set_option maxHeartbeats 4000000 in
theorem r_Dims (w : World) (A : Option Addr) (n cap : Nat) (nm : Nat → ByteArray) (lo hi : Nat → Int) (hd : DimsAt w A n nm lo hi) (hs : ∀ k, k < n → (nm k).size ≤ 9223372036854775807) (hn10 : n ≤ 1000) :
    Calls Tryz.prog 53 #[.slice A n cap] w fun e w' => e = .returned (.int .i64 (dimsZ nm lo hi n)) ∧ Below w.heap.size w w' := by
  have HD := Lib.hid hd
  have HS := Lib.hid hs
  have HNm := Lib.hid r_Name
  have HBd := Lib.hid r_bounds
  clear hd hs
  by_cases hn : n = 0 ∨ 4 < n
  · have e1 : dimsZ nm lo hi n = 13 := if_pos hn
    rw [e1]
    rcases hn with rfl | hn
    · go_enter Tryz.func53, Tryz.ntmps53
      go_wp2
      go_ret
      exact ⟨rfl, Below.refl _ _⟩
    · have h1 : ¬ (n : Int) < 1 := by omega
      have h2 : (n : Int) > 4 := by omega
      clear hn e1
      go_enter Tryz.func53, Tryz.ntmps53
      go_wp2
      go_ret
      exact ⟨rfl, Below.refl _ _⟩
  · have h1 : ¬ (n : Int) < 1 := by omega
    have h2 : ¬ (n : Int) > 4 := by omega
    have h3 : n ≤ 4 := by omega
    have HZ : Hid (dimsZ nm lo hi n = dimsTo [] nm lo hi n) := if_neg hn
    rw [HZ.out]
    clear hn HZ
    go_enter Tryz.func53, Tryz.ntmps53
    go_wp2
    go_loopw [3, 4] (fun i _ wr => ∃ k : Nat, k ≤ n ∧ i = .int .i64 k ∧ Hid (dimsTo [] nm lo hi k = 0 ∧ Below w.heap.size w wr)) (fun i _ _ => n - (intOf i).toNat)
    case atStart => exact ⟨0, Nat.zero_le _, rfl, rfl, Below.refl _ _⟩
    case round =>
      obtain ⟨k, hk, rfl, HK⟩ := hrel
      by_cases hlt : k < n
      · have HB := Lib.hid HK.out.2
        obtain ⟨bd, o, rfl, hbd, hc⟩ := (HD.out.below HB.out) (by omega)
        obtain ⟨c0, c1, c2⟩ := hc k hlt
        have HCW : Hid (∀ W, Below w.heap.size w W → W.cell? ⟨bd, o + k * 3, none⟩ = some (.string (nm k)) ∧ W.cell? ⟨bd, o + k * 3 + 1, none⟩ = some (.int .i64 (lo k)) ∧ W.cell? ⟨bd, o + k * 3 + 2, none⟩ = some (.int .i64 (hi k))) := fun W hW => by
          obtain ⟨bd', o', e1, _, hc'⟩ := (HD.out.below hW) (by omega)
          injection e1 with e1
          injection e1 with e1 e2
          subst e1 e2
          exact hc' k hlt
        clear hc
        have HT : Hid (dimsTo [] nm lo hi (k + 1) = if nameB (nm k) = false then 11 else if dupTo nm (nm k) k = true then 11 else if boundB (lo k) (hi k) = true then 0 else 3) := by show _ = _; rw [dimsTo, if_pos HK.out.1, dimE_of]
        have HE : Hid (dimsTo [] nm lo hi (k + 1) ≠ 0 → dimsTo [] nm lo hi n = dimsTo [] nm lo hi (k + 1)) := fun h => dimsTo_le h (by omega)
        have HNk := Lib.hid (fun W => HNm.out (nm k) W (HS.out k hlt))
        generalize hs9 : nm k = s at *
        have HSN := Lib.hid hs9
        clear hs9
        generalize lo k = l0 at *
        generalize hi k = h0 at *
        obtain ⟨D, hDe⟩ : ∃ D, dimsTo [] nm lo hi (k + 1) = D := ⟨_, rfl⟩
        have HDe := Lib.hid hDe
        rw [hDe] at HE HT
        clear hDe
        go_wp2_with fail
        refine (HNk.out _).mono ?_
        rintro e w1 ⟨rfl, rfl⟩
        cases hb : nameB s
        · have HD1 : Hid (dimsTo [] nm lo hi n = 11) := by
            have h9 : D = 11 := by rw [HT.out, if_pos hb]
            exact (HE.out (by rw [h9]; decide)).trans h9
          go_wp2
          go_ret
          exact ⟨by rw [HD1.out]; rfl, HB.out⟩
        · have HT2 : Hid (D = if dupTo nm s k = true then 11 else if boundB l0 h0 = true then 0 else 3) := by show _ = _; rw [HT.out, if_neg (by rw [hb]; decide)]
          clear hb HT HNk
          go_wp2
          obtain ⟨wo, rfl⟩ : ∃ wo, wo = wr := ⟨_, rfl⟩
          go_loopw [4] (fun i wr => ∃ j : Nat, j ≤ k ∧ i = .int .i64 j ∧ Hid (dupTo nm s j = false) ∧ Hid (Below w.heap.size w wr)) (fun i _ => k - (intOf i).toNat)
          case atStart => exact ⟨0, Nat.zero_le _, rfl, rfl, HB.out⟩
          case round =>
            obtain ⟨j, hj, rfl, HJ, HBj⟩ := hrel
            by_cases hlt2 : j < k
            · have HCC : Hid (∀ W, Below w.heap.size w W → W.cell? ⟨bd, o + j * 3, none⟩ = some (.string (nm j)) ∧ W.cell? ⟨bd, o + k * 3, none⟩ = some (.string s)) := fun W hW => by
                obtain ⟨bd', o', e1, _, hc'⟩ := (HD.out.below hW) (by omega)
                injection e1 with e1
                injection e1 with e1 e2
                subst e1 e2
                refine ⟨(hc' j (by omega)).1, ?_⟩
                rw [(hc' k hlt).1, HSN.out]
              obtain ⟨y0, y1⟩ := HCC.out wr HBj.out
              have HU : Hid (dupTo nm s (j + 1) = decide (nm j = s)) := by show _ = _; rw [dupTo, HJ.out, Bool.false_or]
              have HUl : Hid (dupTo nm s (j + 1) = true → dupTo nm s k = true) := fun h => dupTo_le h (by omega)
              generalize nm j = t at *
              by_cases he : t = s
              · subst he
                have HD1 : Hid (dimsTo [] nm lo hi n = 11) := by
                  have h9 : D = 11 := by rw [HT2.out, if_pos (HUl.out (by rw [HU.out, decide_eq_true rfl]))]
                  exact (HE.out (by rw [h9]; decide)).trans h9
                go_wp2
                go_quiet (fail)
                go_wp2
                go_ret
                exact ⟨by rw [HD1.out]; rfl, drewB HBj.out _⟩
              · have h5 : (t.toList == s.toList) = false := by
                  cases h6 : t.toList == s.toList
                  · rfl
                  · exact absurd (str_eq h6) he
                have HR : Hid (dupTo nm s (j + 1) = false) := by show _ = _; rw [HU.out, decide_eq_false he]
                go_wp2
                go_quiet (fail)
                go_wp2
                go_roundw
                case rel => exact ⟨j + 1, by omega, by go_num, HR.out, drewB HBj.out _⟩
                case measure => simp [intOf]; omega
            · obtain rfl : j = k := by omega
              have HT3 : Hid (D = if boundB l0 h0 = true then 0 else 3) := by show _ = _; rw [HT2.out, if_neg (by rw [HJ.out]; decide)]
              have HBk := Lib.hid (fun W => HBd.out s l0 h0 W)
              obtain ⟨k0, k1, k2⟩ := HCW.out wr HBj.out
              clear c0 c1 c2
              cases hb2 : boundB l0 h0
              · rw [hb2] at HBk
                have HD1 : Hid (dimsTo [] nm lo hi n = 3) := by
                  have h9 : D = 3 := by rw [HT3.out, if_neg (by rw [hb2]; decide)]
                  exact (HE.out (by rw [h9]; decide)).trans h9
                clear hb2
                go_wp2_with fail
                refine (HBk.out _).mono ?_
                rintro e w2 ⟨rfl, hb2⟩
                have HB2 : Hid (Below w.heap.size w w2) := st HBj.out hb2
                go_wp2
                go_ret
                exact ⟨by rw [HD1.out]; rfl, HB2.out⟩
              · rw [hb2] at HBk
                have HD1 : Hid (D = 0) := by show _ = _; rw [HT3.out, if_pos hb2]
                clear hb2
                go_wp2_with fail
                refine (HBk.out _).mono ?_
                rintro e w2 ⟨rfl, hb2⟩
                have HB2 : Hid (Below w.heap.size w w2) := st HBj.out hb2
                go_wp2
                go_roundw
                case rel => exact ⟨j + 1, by omega, by go_num, HDe.out.trans HD1.out, HB2.out⟩
                case measure => simp [intOf]; omega
      · obtain rfl : k = n := by omega
        go_wp2
        go_ret
        exact ⟨by rw [HK.out.1]; rfl, HK.out.2⟩
end Go.Proofs.YtmhggphkhabjlaaGreatDoor
end

/- Numbers of coordinates: arithmetic. -/
section
namespace Go.Proofs.YtmhggphkhabjlaaGreatDoor
open Go Go.RowKit Go.Deep

/-- The number of the first k coordinates. -/
def idxTo (lo hi xs : Nat → Int) : Nat → Int
  | 0 => 0
  | k + 1 => idxTo lo hi xs k * extZ (lo k) (hi k) + (xs k - lo k)
/-- What is left of a number when the last j coordinates are taken off. -/
def remZ (lo hi : Nat → Int) (n : Nat) (i : Int) : Nat → Int
  | 0 => i
  | j + 1 => remZ lo hi n i j / extZ (lo (n - 1 - j)) (hi (n - 1 - j))
/-- The coordinates with a number. -/
def atZ (lo hi : Nat → Int) (n : Nat) (i : Int) (k : Nat) : Int := lo k + remZ lo hi n i (n - 1 - k) % extZ (lo k) (hi k)
theorem idxTo_bound {lo hi xs : Nat → Int} {k : Nat} (hok : DimsOk lo hi k) (hx : inTo lo hi xs k = true) : 0 ≤ idxTo lo hi xs k ∧ idxTo lo hi xs k < prodZ lo hi k := by
  induction k with
  | zero => exact ⟨by unfold idxTo; decide, by unfold idxTo prodZ; decide⟩
  | succ k ih =>
    rw [inTo, Bool.and_eq_true, Bool.and_eq_true, decide_eq_true_eq, decide_eq_true_eq] at hx
    obtain ⟨h1, h2⟩ := ih (fun j hj => hok j (by omega)) hx.1
    obtain ⟨a1, a2, a3, _⟩ := hok k (by omega)
    have hE := extZ_bound a1 a2 a3
    have hy : 0 ≤ xs k - lo k ∧ xs k - lo k < extZ (lo k) (hi k) := by unfold extZ; omega
    rw [idxTo, prodZ]
    generalize idxTo lo hi xs k = x at *
    generalize extZ (lo k) (hi k) = e at *
    generalize prodZ lo hi k = p at *
    generalize xs k - lo k = y at *
    have h3 : 0 ≤ x * e := Int.mul_nonneg h1 (by omega)
    have h4 : (x + 1) * e ≤ p * e := Int.mul_le_mul_of_nonneg_right (by omega) (by omega)
    rw [Int.add_mul, Int.one_mul] at h4
    omega
theorem remZ_bound {lo hi : Nat → Int} {n : Nat} {i : Int} (hok : DimsOk lo hi n) (h1 : 0 ≤ i) (h2 : i < prodZ lo hi n) : ∀ j, j ≤ n → 0 ≤ remZ lo hi n i j ∧ remZ lo hi n i j < prodZ lo hi (n - j)
  | 0, _ => ⟨h1, h2⟩
  | j + 1, hj => by
    obtain ⟨g1, g2⟩ := remZ_bound hok h1 h2 j (by omega)
    obtain ⟨a1, a2, a3, _⟩ := hok (n - 1 - j) (by omega)
    have hE := extZ_bound a1 a2 a3
    rw [show n - j = (n - 1 - j) + 1 by omega, prodZ] at g2
    rw [remZ, show n - (j + 1) = n - 1 - j by omega]
    exact ⟨Int.ediv_nonneg g1 (by omega), Int.ediv_lt_of_lt_mul (by omega) g2⟩
theorem idx_at {lo hi : Nat → Int} {n : Nat} {i : Int} (hok : DimsOk lo hi n) (h1 : 0 ≤ i) (h2 : i < prodZ lo hi n) : ∀ k, k ≤ n → idxTo lo hi (atZ lo hi n i) k = remZ lo hi n i (n - k)
  | 0, _ => by
    obtain ⟨g1, g2⟩ := remZ_bound hok h1 h2 n (Nat.le_refl _)
    rw [Nat.sub_self, prodZ] at g2
    rw [idxTo, Nat.sub_zero]
    omega
  | k + 1, hk => by
    rw [idxTo, idx_at hok h1 h2 k (by omega), atZ, show n - k = (n - 1 - k) + 1 by omega, remZ, show n - 1 - (n - 1 - k) = k by omega, show n - (k + 1) = n - 1 - k by omega]
    have := Int.mul_ediv_add_emod (remZ lo hi n i (n - 1 - k)) (extZ (lo k) (hi k))
    rw [Int.mul_comm] at this
    omega
theorem idx_of_at {lo hi : Nat → Int} {n : Nat} {i : Int} (hok : DimsOk lo hi n) (h1 : 0 ≤ i) (h2 : i < prodZ lo hi n) : idxTo lo hi (atZ lo hi n i) n = i := by
  rw [idx_at hok h1 h2 n (Nat.le_refl _), Nat.sub_self]; rfl
theorem at_in {lo hi : Nat → Int} {n : Nat} {i : Int} (hok : DimsOk lo hi n) : ∀ k, k ≤ n → inTo lo hi (atZ lo hi n i) k = true
  | 0, _ => rfl
  | k + 1, hk => by
    obtain ⟨a1, a2, a3, _⟩ := hok k (by omega)
    have hE := extZ_bound a1 a2 a3
    have e1 := Int.emod_nonneg (remZ lo hi n i (n - 1 - k)) (by omega : extZ (lo k) (hi k) ≠ 0)
    have e2 := Int.emod_lt_of_pos (remZ lo hi n i (n - 1 - k)) (by omega : 0 < extZ (lo k) (hi k))
    rw [inTo, at_in hok k (by omega), Bool.true_and, Bool.and_eq_true, decide_eq_true_eq, decide_eq_true_eq]
    have e3 : extZ (lo k) (hi k) = lastZ (hi k) - lo k + 1 := rfl
    unfold atZ
    omega
def cmpI (a b : Int) : Int := if a < b then -1 else if b < a then 1 else 0
theorem cmpI_zero {a b : Int} : cmpI a b = 0 ↔ a = b := by
  unfold cmpI
  constructor
  · intro h
    split at h
    · exact absurd h (by decide)
    · split at h
      · exact absurd h (by decide)
      · omega
  · rintro rfl
    rw [if_neg (by omega), if_neg (by omega)]
theorem cmpI_of_div {a b e : Int} (he : 0 < e) (h : a / e ≠ b / e) : cmpI a b = cmpI (a / e) (b / e) := by
  have h1 : a / e < b / e → a < b := fun g => by
    apply Int.lt_of_not_ge
    intro g2
    have := Int.ediv_le_ediv he g2
    omega
  have h2 : b / e < a / e → b < a := fun g => by
    apply Int.lt_of_not_ge
    intro g2
    have := Int.ediv_le_ediv he g2
    omega
  unfold cmpI
  rcases Int.lt_or_gt_of_ne h with g | g
  · rw [if_pos g, if_pos (h1 g)]
  · have g3 := h2 g
    rw [if_neg (by omega), if_pos g3, if_neg (by omega), if_pos g]
theorem cmpI_of_mod {a b e l : Int} (h : a / e = b / e) : cmpI a b = cmpI (l + a % e) (l + b % e) := by
  have h1 := Int.mul_ediv_add_emod a e
  have h2 := Int.mul_ediv_add_emod b e
  rw [h] at h1
  generalize e * (b / e) = m at *
  generalize a % e = x at *
  generalize b % e = y at *
  unfold cmpI
  by_cases g : a < b
  · rw [if_pos g, if_pos (by omega)]
  · rw [if_neg g]
    by_cases g2 : b < a
    · rw [if_pos g2, if_neg (by omega), if_pos (by omega)]
    · rw [if_neg g2, if_neg (by omega), if_neg (by omega)]
end Go.Proofs.YtmhggphkhabjlaaGreatDoor
end

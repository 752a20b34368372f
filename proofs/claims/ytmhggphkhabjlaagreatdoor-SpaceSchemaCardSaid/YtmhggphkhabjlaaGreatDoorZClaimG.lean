/- SpaceSchema: whatever the dimensions, the attributes and the name, Name and Schema return what the document's own account returns: the law returns true. Its row lists package-level variables, tied to the program's text by the card. -/
import Derived.Test.YtmhggphkhabjlaaGreatDoorZIdxM
import Derived.Test.YtmhggphkhabjlaaGreatDoorZSch
import Derived.Test.YtmhggphkhabjlaaGreatDoorZWka
import Derived.Test.YtmhggphkhabjlaaGreatDoorTie
import Derived.Test.YtmhggphkhabjlaaGreatDoorCards
import Derived.Test.YtmhggphkhabjlaaGreatDoorZOpA
import Derived.SevenTiedAt

/- The reference's schemas. -/
section
namespace Go.Proofs.YtmhggphkhabjlaaGreatDoor
open Go Go.RowKit Go.Deep

set_option maxRecDepth 100000 in
set_option maxHeartbeats 2000000 in
theorem r_taken (w : World) (A B : Option Addr) (n cap m bcap : Nat) (nm : Nat → ByteArray) (lo hi : Nat → Int) (an : Nat → ByteArray) (ty : Nat → Int) (hd : DimsAt w A n nm lo hi) (ha : AttrsAt w B m an ty) (j : Nat) (hj : j ≤ m) (s : ByteArray) (hn : n ≤ 1000) (hm : m ≤ 1000) :
    Calls Tryz.prog 54 #[.slice A n cap, .slice B m bcap, .int .i64 j, .string s] w fun e w' => e = .returned (.bool (dupTo nm s n || dupTo an s j)) ∧ w' = w := by
  have HD := Lib.hid hd
  have HA := Lib.hid ha
  obtain ⟨v, hv⟩ : ∃ v, (dupTo nm s n || dupTo an s j) = v := ⟨_, rfl⟩
  rw [hv]
  have HV := Lib.hid hv
  clear hd ha hv
  go_enter Tryz.func54, Tryz.ntmps54
  go_wp2
  go_loopw [9] (fun i wr => ∃ k : Nat, k ≤ n ∧ i = .int .i64 k ∧ Hid (dupTo nm s k = false) ∧ wr = w) (fun i _ => n - (intOf i).toNat)
  case atStart => exact ⟨0, Nat.zero_le _, rfl, rfl, rfl⟩
  case round =>
    obtain ⟨k, hk, rfl, HK, hw⟩ := hrel
    have hw := hw.symm
    subst hw
    by_cases hlt : k < n
    · obtain ⟨bd, o, rfl, hbd, hc⟩ := HD.out (by omega)
      have c0 := (hc k hlt).1
      clear hc
      have HU : Hid (dupTo nm s (k + 1) = decide (nm k = s)) := by show _ = _; rw [dupTo, HK.out, Bool.false_or]
      have HUl : Hid (dupTo nm s (k + 1) = true → dupTo nm s n = true) := fun h => dupTo_le h (by omega)
      generalize nm k = t at *
      by_cases he : t = s
      · subst he
        have HT : Hid (v = true) := by show _ = _; rw [← HV.out, HUl.out (by rw [HU.out, decide_eq_true rfl])]; rfl
        go_wp2
        go_ret
        exact ⟨by rw [HT.out]; rfl, rfl⟩
      · have h5 : (t.toList == s.toList) = false := by
          cases h6 : t.toList == s.toList
          · rfl
          · exact absurd (str_eq h6) he
        have HR : Hid (dupTo nm s (k + 1) = false) := by show _ = _; rw [HU.out, decide_eq_false he]
        go_wp2
        go_roundw
        case rel => exact ⟨k + 1, by omega, by go_num, HR.out, by first | rfl | trivial⟩
        case measure => simp [intOf]; omega
    · obtain rfl : k = n := by omega
      have HV2 : Hid (v = dupTo an s j) := by show _ = _; rw [← HV.out, HK.out]; rfl
      go_wp2
      go_loopw [10] (fun i wr => ∃ k : Nat, k ≤ j ∧ i = .int .i64 k ∧ Hid (dupTo an s k = false) ∧ wr = w) (fun i _ => j - (intOf i).toNat)
      case atStart => exact ⟨0, Nat.zero_le _, rfl, rfl, rfl⟩
      case round =>
        obtain ⟨i, hi2, rfl, HI, hw⟩ := hrel
        have hw := hw.symm
        subst hw
        by_cases hlt2 : i < j
        · obtain ⟨bd, o, rfl, hbd, hc⟩ := HA.out (by omega)
          have c0 := (hc i (by omega)).1
          clear hc
          have HU : Hid (dupTo an s (i + 1) = decide (an i = s)) := by show _ = _; rw [dupTo, HI.out, Bool.false_or]
          have HUl : Hid (dupTo an s (i + 1) = true → dupTo an s j = true) := fun h => dupTo_le h (by omega)
          generalize an i = t at *
          by_cases he : t = s
          · subst he
            have HT : Hid (v = true) := by show _ = _; rw [HV2.out, HUl.out (by rw [HU.out, decide_eq_true rfl])]
            go_wp2
            go_ret
            exact ⟨by rw [HT.out]; rfl, rfl⟩
          · have h5 : (t.toList == s.toList) = false := by
              cases h6 : t.toList == s.toList
              · rfl
              · exact absurd (str_eq h6) he
            have HR : Hid (dupTo an s (i + 1) = false) := by show _ = _; rw [HU.out, decide_eq_false he]
            go_wp2
            go_roundw
            case rel => exact ⟨i + 1, by omega, by go_num, HR.out, by first | rfl | trivial⟩
            case measure => simp [intOf]; omega
        · obtain rfl : i = j := by omega
          go_wp2
          go_ret
          exact ⟨by rw [HV2.out, HI.out]; rfl, rfl⟩

theorem dup_in2 (M : List ByteArray) (nm : Nat → ByteArray) (s : ByteArray) : ∀ k, inN (metK M nm k) s = (inN M s || dupTo nm s k)
  | 0 => by rw [dupTo, Bool.or_false]; rfl
  | k + 1 => by
    have ih := dup_in2 M nm s k
    rw [dupTo, ← Bool.or_assoc, ← ih]
    by_cases h : nm k = s
    · rw [decide_eq_true h, Bool.or_true]
      exact inN_true.2 (by rw [metK, h]; exact List.mem_cons_self)
    · rw [decide_eq_false h, Bool.or_false]
      cases h2 : inN (metK M nm k) s
      · exact inN_false.2 (by rw [metK]; intro h3; rcases List.mem_cons.1 h3 with h4 | h4; · exact h h4.symm
                              · exact inN_false.1 h2 h4)
      · exact inN_true.2 (by rw [metK]; exact List.mem_cons_of_mem _ (inN_true.1 h2))
theorem attrE_of (nm an : Nat → ByteArray) (s : ByteArray) (n k : Nat) (t : Int) : attrE (metK (metK [] nm n) an k) s t = if nameB s = false then 11 else if (dupTo nm s n || dupTo an s k) = true then 11 else if t < 1 ∨ 4 < t then 12 else 0 := by
  rw [attrE, dup_in2, dup_in]
  cases h1 : nameB s
  · rfl
  · cases h2 : (dupTo nm s n || dupTo an s k)
    · rfl
    · rfl

set_option maxRecDepth 100000 in
set_option maxHeartbeats 4000000 in
theorem r_Schema (w : World) (A B : Option Addr) (n cap m bcap : Nat) (nm : Nat → ByteArray) (lo hi : Nat → Int) (an : Nat → ByteArray) (ty : Nat → Int) (hd : DimsAt w A n nm lo hi) (ha : AttrsAt w B m an ty) (hs : ∀ k, k < n → (nm k).size ≤ 9223372036854775807) (hs2 : ∀ k, k < m → (an k).size ≤ 9223372036854775807) (hn10 : n ≤ 1000) (hm10 : m ≤ 1000) :
    Calls Tryz.prog 15 #[.slice A n cap, .slice B m bcap] w fun e w' => e = .returned (.int .i64 (schE nm lo hi n an ty m)) ∧ Below w.heap.size w w' := by
  have HA := Lib.hid ha
  have HDm := Lib.hid (r_Dims w A n cap nm lo hi hd hs hn10)
  have HTk : Hid (∀ W j s, Below w.heap.size w W → j ≤ m → Calls Tryz.prog 54 #[.slice A n cap, .slice B m bcap, .int .i64 (j : Nat), .string s] W fun e w' => e = .returned (.bool (dupTo nm s n || dupTo an s j)) ∧ w' = W) := fun W j s hW hj => r_taken W A B n cap m bcap nm lo hi an ty (hd.below hW) (ha.below hW) j hj s hn10 hm10
  have HNm := Lib.hid r_Name
  have HS := Lib.hid hs2
  obtain ⟨ve, hve⟩ : ∃ ve, schE nm lo hi n an ty m = ve := ⟨_, rfl⟩
  rw [hve]
  have HV : Hid (ve = if dimsZ nm lo hi n ≠ 0 then dimsZ nm lo hi n else if m = 0 ∨ 6 < m then 9 else attrsTo (metK [] nm n) an ty m) := hve.symm
  clear hd ha hs hs2 hve
  by_cases h0 : dimsZ nm lo hi n = 0
  · have HV2 : Hid (ve = if m = 0 ∨ 6 < m then 9 else attrsTo (metK [] nm n) an ty m) := by show _ = _; rw [HV.out, if_neg (by rw [h0]; simp)]
    rw [h0] at HDm
    clear h0 HV
    by_cases h1 : m = 0 ∨ 6 < m
    · have HR : Hid (ve = 9) := HV2.out.trans (if_pos h1)
      clear HV2
      go_enter Tryz.func15, Tryz.ntmps15
      go_wp2_with fail
      refine HDm.out.mono ?_
      rintro e w1 ⟨rfl, hb1⟩
      rcases h1 with rfl | h1
      · go_wp2
        go_ret
        exact ⟨by rw [HR.out]; rfl, hb1⟩
      · have h2 : ¬ (m : Int) < 1 := by omega
        have h3 : (m : Int) > 6 := by omega
        clear h1
        go_wp2
        go_ret
        exact ⟨by rw [HR.out]; rfl, hb1⟩
    · have HR : Hid (ve = attrsTo (metK [] nm n) an ty m) := HV2.out.trans (if_neg h1)
      have h2 : ¬ (m : Int) < 1 := by omega
      have h3 : ¬ (m : Int) > 6 := by omega
      clear HV2 h1
      go_enter Tryz.func15, Tryz.ntmps15
      go_wp2_with fail
      refine HDm.out.mono ?_
      rintro e w1 ⟨rfl, hb1⟩
      have HB1 := Lib.hid hb1
      clear hb1 HDm
      go_wp2
      go_loopw [6] (fun i wr => ∃ k : Nat, k ≤ m ∧ i = .int .i64 k ∧ Hid (attrsTo (metK [] nm n) an ty k = 0) ∧ Hid (Below w.heap.size w wr)) (fun i _ => m - (intOf i).toNat)
      case atStart => exact ⟨0, Nat.zero_le _, rfl, rfl, HB1.out⟩
      case round =>
        obtain ⟨k, hk, rfl, HK, HB⟩ := hrel
        by_cases hlt : k < m
        · obtain ⟨bd, o, rfl, hbd, hc⟩ := (HA.out.below HB.out) (by omega)
          obtain ⟨c0, c1⟩ := hc k hlt
          clear hc
          have HT : Hid (attrsTo (metK [] nm n) an ty (k + 1) = if nameB (an k) = false then 11 else if (dupTo nm (an k) n || dupTo an (an k) k) = true then 11 else if ty k < 1 ∨ 4 < ty k then 12 else 0) := by show _ = _; rw [attrsTo, if_pos HK.out, attrE_of]
          have HE : Hid (attrsTo (metK [] nm n) an ty (k + 1) ≠ 0 → ve = attrsTo (metK [] nm n) an ty (k + 1)) := fun h => by rw [HR.out]; exact attrsTo_le h (by omega)
          have HNk := Lib.hid (fun W => HNm.out (an k) W (HS.out k hlt))
          have HTkk := Lib.hid (HTk.out wr k (an k) HB.out hk)
          obtain ⟨D, hDe⟩ : ∃ D, attrsTo (metK [] nm n) an ty (k + 1) = D := ⟨_, rfl⟩
          have HDe := Lib.hid hDe
          rw [hDe] at HE HT
          clear hDe
          generalize (dupTo nm (an k) n || dupTo an (an k) k) = u at *
          generalize an k = s at *
          generalize ty k = t at *
          cases hb : nameB s
          · rw [hb] at HNk
            have HD1 : Hid (ve = 11) := by
              have h9 : D = 11 := by rw [HT.out, if_pos hb]
              exact (HE.out (by rw [h9]; decide)).trans h9
            go_wp2_with fail
            refine (HNk.out _).mono ?_
            rintro e w2 ⟨rfl, rfl⟩
            go_wp2
            go_ret
            exact ⟨by rw [HD1.out]; rfl, HB.out⟩
          · rw [hb] at HNk
            have HT2 : Hid (D = if u = true then 11 else if t < 1 ∨ 4 < t then 12 else 0) := by show _ = _; rw [HT.out, if_neg (by rw [hb]; decide)]
            clear hb HT
            cases u
            · have HT3 : Hid (D = if t < 1 ∨ 4 < t then 12 else 0) := HT2.out
              go_wp2_with fail
              refine (HNk.out _).mono ?_
              rintro e w2 ⟨rfl, rfl⟩
              go_wp2_with fail
              refine HTkk.out.mono ?_
              rintro e w2 ⟨rfl, rfl⟩
              by_cases g1 : t < 1
              · have HD1 : Hid (ve = 12) := by
                  have h9 : D = 12 := by rw [HT3.out, if_pos (by omega)]
                  exact (HE.out (by rw [h9]; decide)).trans h9
                go_wp2
                go_ret
                exact ⟨by rw [HD1.out]; rfl, HB.out⟩
              · by_cases g2 : t > 4
                · have HD1 : Hid (ve = 12) := by
                    have h9 : D = 12 := by rw [HT3.out, if_pos (by omega)]
                    exact (HE.out (by rw [h9]; decide)).trans h9
                  go_wp2
                  go_ret
                  exact ⟨by rw [HD1.out]; rfl, HB.out⟩
                · have HD1 : Hid (D = 0) := by show _ = _; rw [HT3.out, if_neg (by omega)]
                  go_wp2
                  go_roundw
                  case rel => exact ⟨k + 1, by omega, by go_num, HDe.out.trans HD1.out, HB.out⟩
                  case measure => simp [intOf]; omega
            · have HD1 : Hid (ve = 11) := by
                have h9 : D = 11 := HT2.out
                exact (HE.out (by rw [h9]; decide)).trans h9
              go_wp2_with fail
              refine (HNk.out _).mono ?_
              rintro e w2 ⟨rfl, rfl⟩
              go_wp2_with fail
              refine HTkk.out.mono ?_
              rintro e w2 ⟨rfl, rfl⟩
              go_wp2
              go_ret
              exact ⟨by rw [HD1.out]; rfl, HB.out⟩
        · obtain rfl : k = m := by omega
          go_wp2
          go_ret
          exact ⟨by rw [HR.out, HK.out]; rfl, HB.out⟩
  · have HE : Hid (ve = dimsZ nm lo hi n) := by show _ = _; rw [HV.out, if_pos h0]
    generalize dimsZ nm lo hi n = E at *
    have h1 : (E != 0) = true := by rw [bne_iff_ne]; exact h0
    clear h0 HV
    go_enter Tryz.func15, Tryz.ntmps15
    go_wp2_with fail
    refine HDm.out.mono ?_
    rintro e w1 ⟨rfl, hb1⟩
    go_wp2
    go_ret
    exact ⟨by rw [HE.out]; rfl, hb1⟩
end Go.Proofs.YtmhggphkhabjlaaGreatDoor
end

/- The walk of SpaceSchema. -/
section
namespace Go.Proofs.YtmhggphkhabjlaaGreatDoor
open Go Go.RowKit Go.Deep

def SchB (n m : Nat) (b : Bool) : Prop := b = true → n ≤ 10 ∧ m ≤ 10
set_option maxRecDepth 100000 in
set_option maxHeartbeats 4000000 in
/-- schema of dimensions and attributes. -/
theorem l_schema3 (w : World) (A B : Option Addr) (n cap m c2 : Nat) (nm : Nat → ByteArray) (lo hi : Nat → Int) (an : Nat → ByteArray) (ty : Nat → Int) (hd : DimsAt w A n nm lo hi) (ha : AttrsAt w B m an ty) (hs : ∀ k, k < n → (nm k).size ≤ 9223372036854775807) (hs2 : ∀ k, k < m → (an k).size ≤ 9223372036854775807) :
    Calls Tryz.prog 9 #[.slice A n cap, .slice B m c2] w fun e w' => (e = .returned (.bool false) ∨ e = .returned (.bool true) ∧ n ≤ 10 ∧ m ≤ 10) ∧ Below w.heap.size w w' := by
  have HD := Lib.hid hd
  have HA := Lib.hid ha
  have HS := Lib.hid hs
  have HS2 := Lib.hid hs2
  have HL := Lib.hid l_short
  clear hd hs ha hs2
  go_enter Tryz.func9, Tryz.ntmps9
  by_cases h0 : (n : Int) > 10
  · go_wp2
    go_ret
    exact ⟨Or.inl rfl, Below.refl _ _⟩
  · by_cases h1 : (m : Int) > 10
    · go_wp2
      go_ret
      exact ⟨Or.inl rfl, Below.refl _ _⟩
    · go_wp2
      go_loopw [5] (fun i wr => ∃ k : Nat, k ≤ n ∧ i = .int .i64 k ∧ wr = w) (fun i _ => n - (intOf i).toNat)
      case atStart => exact ⟨0, Nat.zero_le _, rfl, rfl⟩
      case round =>
        obtain ⟨k, hk, rfl, hw⟩ := hrel
        have hw := hw.symm
        subst hw
        by_cases hlt : k < n
        · obtain ⟨bd, o, rfl, _, hc⟩ := HD.out (by omega)
          have c0 := (hc k hlt).1
          clear hc
          have HSk := Lib.hid (HL.out (nm k) (HS.out k hlt))
          generalize nm k = s at *
          by_cases h5 : s.size ≤ 40
          · rw [decide_eq_true h5] at HSk
            clear h5
            go_wp2_with fail
            refine (HSk.out _).mono ?_
            rintro e w1 ⟨rfl, rfl⟩
            go_wp2
            go_roundw
            case rel => exact ⟨k + 1, by omega, by go_num, by first | rfl | trivial⟩
            case measure => simp [intOf]; omega
          · rw [decide_eq_false h5] at HSk
            clear h5
            go_wp2_with fail
            refine (HSk.out _).mono ?_
            rintro e w1 ⟨rfl, rfl⟩
            go_wp2
            go_ret
            exact ⟨Or.inl rfl, Below.refl _ _⟩
        · obtain rfl : k = n := by omega
          go_wp2
          go_loopw [6] (fun i wr => ∃ k : Nat, k ≤ m ∧ i = .int .i64 k ∧ wr = w) (fun i _ => m - (intOf i).toNat)
          case atStart => exact ⟨0, Nat.zero_le _, rfl, rfl⟩
          case round =>
            obtain ⟨j, hj, rfl, hw⟩ := hrel
            have hw := hw.symm
            subst hw
            by_cases hlt2 : j < m
            · obtain ⟨bd, o, rfl, _, hc⟩ := HA.out (by omega)
              have c0 := (hc j hlt2).1
              clear hc
              have HSk := Lib.hid (HL.out (an j) (HS2.out j hlt2))
              generalize an j = s at *
              by_cases h5 : s.size ≤ 40
              · rw [decide_eq_true h5] at HSk
                clear h5
                go_wp2_with fail
                refine (HSk.out _).mono ?_
                rintro e w1 ⟨rfl, rfl⟩
                go_wp2
                go_roundw
                case rel => exact ⟨j + 1, by omega, by go_num, by first | rfl | trivial⟩
                case measure => simp [intOf]; omega
              · rw [decide_eq_false h5] at HSk
                clear h5
                go_wp2_with fail
                refine (HSk.out _).mono ?_
                rintro e w1 ⟨rfl, rfl⟩
                go_wp2
                go_ret
                exact ⟨Or.inl rfl, Below.refl _ _⟩
            · obtain rfl : j = m := by omega
              go_wp2
              go_ret
              exact ⟨Or.inr ⟨rfl, by omega, by omega⟩, Below.refl _ _⟩

theorem l_schema2 (w : World) (A B : Option Addr) (n cap m c2 : Nat) (nm : Nat → ByteArray) (lo hi : Nat → Int) (an : Nat → ByteArray) (ty : Nat → Int) (hd : DimsAt w A n nm lo hi) (ha : AttrsAt w B m an ty) (hs : ∀ k, k < n → (nm k).size ≤ 9223372036854775807) (hs2 : ∀ k, k < m → (an k).size ≤ 9223372036854775807) :
    Calls Tryz.prog 9 #[.slice A n cap, .slice B m c2] w fun e w' => ∃ b : Bool, e = .returned (.bool b) ∧ SchB n m b ∧ Below w.heap.size w w' :=
  (l_schema3 w A B n cap m c2 nm lo hi an ty hd ha hs hs2).mono fun e w' ⟨h, hb⟩ => by
    rcases h with h | ⟨h, h1, h2⟩
    · exact ⟨false, h, (fun h => by cases h), hb⟩
    · exact ⟨true, h, (fun _ => ⟨h1, h2⟩), hb⟩

set_option maxRecDepth 100000 in
set_option maxHeartbeats 8000000 in
theorem l_schemaS (w : World) (A B : Option Addr) (n cap m c2 : Nat) (nm : Nat → ByteArray) (lo hi : Nat → Int) (an : Nat → ByteArray) (ty : Nat → Int) (s : ByteArray) (hd : DimsAt w A n nm lo hi) (ha : AttrsAt w B m an ty) (hs : ∀ k, k < n → (nm k).size ≤ 9223372036854775807) (hs2 : ∀ k, k < m → (an k).size ≤ 9223372036854775807) (hs3 : s.size ≤ 9223372036854775807) (hw : WorksAt w) :
    Calls Tryz.prog 3 #[.slice A n cap, .slice B m c2, .string s] w fun e w' => e = .returned (.bool true) ∧ Below w.heap.size w w' := by
  have HW := Lib.hid hw
  have HD := Lib.hid hd
  have HA := Lib.hid ha
  have HN := Lib.hid hs
  have HN2 := Lib.hid hs2
  have HS := Lib.hid (l_schema2 w A B n cap m c2 nm lo hi an ty hd ha hs hs2)
  have HSh := Lib.hid (l_short s hs3)
  have HP := Lib.hid s_Name
  have HR := Lib.hid r_Name
  have HRs := Lib.hid (fun W => r_Name s W hs3)
  clear hw hd ha hs hs2 hs3
  go_enter Tryz.func3, Tryz.ntmps3
  go_wp2_with fail
  refine HS.out.mono ?_
  rintro e w1 ⟨c, rfl, hc, hb1⟩
  have HC := Lib.hid hc
  have HB1 := Lib.hid hb1
  clear HS hc hb1
  cases c
  · clear HC
    go_wp2_with fail
    refine (HW.out _ HB1.out).mono ?_
    rintro e w2 ⟨rfl, hb2⟩
    go_wp2
    go_ret
    exact ⟨rfl, st HB1.out hb2⟩
  · have hn10 : n ≤ 10 := (HC.out rfl).1
    have hm10 : m ≤ 10 := (HC.out rfl).2
    clear HC
    by_cases h5 : s.size ≤ 40
    · rw [decide_eq_true h5] at HSh
      clear h5
      go_wp2_with fail
      refine (HSh.out _).mono ?_
      rintro e w2 ⟨rfl, rfl⟩
      go_wp2
      go_loopw [7] (fun i wr => ∃ k : Nat, k ≤ n ∧ i = .int .i64 k ∧ Hid (Below w.heap.size w wr)) (fun i _ => n - (intOf i).toNat)
      case atStart => exact ⟨0, Nat.zero_le _, rfl, HB1.out⟩
      case round =>
        obtain ⟨k, hk, rfl, HB⟩ := hrel
        by_cases hlt : k < n
        · obtain ⟨bd, o, rfl, hbd, hc⟩ := (HD.out.below HB.out) (by omega)
          have c0 := (hc k hlt).1
          clear hc
          have HPk := Lib.hid (HP.out (nm k))
          have HRk := Lib.hid (fun W => HR.out (nm k) W (HN.out k hlt))
          generalize nm k = t at *
          have HCC : Hid (∀ q, (wr.drewN q).cell? ⟨bd, o + k * 3, none⟩ = some (.string t)) := fun _ => c0
          go_wp2_with fail
          go_region_held3 (fun W => W.cell? ⟨bd, o + k * 3, none⟩ = some (.string t))
            (first | exact HCC.out _ | exact c0)
            (first
              | (go_at_call 12; refine (HPk.out _).mono ?_; rintro e w3 ⟨rfl, rfl⟩)
              | (go_at_call 13; refine (HRk.out _).mono ?_; rintro e w4 ⟨rfl, rfl⟩))
          all_goals
            go_wp2
            go_roundw
            case rel => exact ⟨k + 1, by omega, by go_num, Below.drew HB.out⟩
            case measure => simp [intOf]; omega
        · obtain rfl : k = n := by omega
          have HSc : Hid (∀ W, Below w.heap.size w W → Calls Tryz.prog 14 #[.slice A k cap, .slice B m c2] W fun e w' => e = .returned (.int .i64 (schE nm lo hi k an ty m)) ∧ Below W.heap.size W w') := fun W hW => s_Schema W A B k cap m c2 nm lo hi an ty (HD.out.below hW) (HA.out.below hW)
          have HRc : Hid (∀ W, Below w.heap.size w W → Calls Tryz.prog 15 #[.slice A k cap, .slice B m c2] W fun e w' => e = .returned (.int .i64 (schE nm lo hi k an ty m)) ∧ Below W.heap.size W w') := fun W hW => r_Schema W A B k cap m c2 nm lo hi an ty (HD.out.below hW) (HA.out.below hW) HN.out HN2.out (by omega) (by omega)
          generalize schE nm lo hi k an ty m = se at *
          have HPs := Lib.hid (HP.out s)
          generalize nameB s = nb at *
          go_wp2_with (first | (go_at_call 12; refine (HPs.out _).mono ?_; rintro e w3 ⟨rfl, rfl⟩) | (go_at_call 13; refine (HRs.out _).mono ?_; rintro e w4 ⟨rfl, rfl⟩) | (go_at_call 14; refine (HSc.out _ HB.out).mono ?_; rintro e w5 ⟨rfl, hb5⟩; have HB5 : Hid (Below w.heap.size w w5) := st HB.out hb5) | (go_at_call 15; refine (HRc.out _ HB5.out).mono ?_; rintro e w6 ⟨rfl, hb6⟩; have HB6 : Hid (Below w.heap.size w w6) := st HB5.out hb6) | (go_at_call 11; refine (HW.out _ HB6.out).mono ?_; rintro e w9 ⟨rfl, hb9⟩))
          go_ret
          exact ⟨rfl, st HB6.out hb9⟩
    · rw [decide_eq_false h5] at HSh
      clear h5
      go_wp2_with (first | (go_at_call 10; refine (HSh.out _).mono ?_; rintro e w2 ⟨rfl, rfl⟩) | (go_at_call 11; refine (HW.out _ HB1.out).mono ?_; rintro e w9 ⟨rfl, hb9⟩))
      go_ret
      exact ⟨rfl, st HB1.out hb9⟩
end Go.Proofs.YtmhggphkhabjlaaGreatDoor
end

/- SpaceSchema: whatever the dimensions, the attributes and the name, Name and Schema return what the document's own account returns: the law returns true. Its row lists package-level variables, tied to the program's text by the card. -/
section
namespace Go.Proofs.YtmhggphkhabjlaaGreatDoor
open Go.ChangeShapes Go.WideShapes Go.ChangeAt Go.RowKit

set_option maxRecDepth 100000 in
theorem claimg_lifted (os : Os) (started : os.Started) (H : Type) (enc : TypeId × Value → H) :
    ReturnsInHanded {} Tryz.checked os 3 .any (fun w args => (Rows.spaceSchemaSpec.pre enc Tryz.prog Tryz.f3 [] false w args ∧ laidMetH Tryz.prog Rows.spaceSchemaRow.laid w) ∧ sizedMet enc Tryz.prog Tryz.f3 (OpenSpec.ofChange Rows.spaceSchemaSpec) false w args)
      (Rows.spaceSchemaSpec.post enc Tryz.prog Tryz.f3 false true false false) := by
  refine handed_laid_shaped (C := Tryz.checked) (X := fun w _ => laidMetH Tryz.prog Rows.spaceSchemaRow.laid w) (fun _ _ _ hh h => h.of_heap hh) own started (by kernel_rfl) Tryz.func3
    (ChangeSpec.witness_shaped (enc := enc) (C := Tryz.checked) (os := os) (X := fun w _ => laidMetH Tryz.prog Rows.spaceSchemaRow.laid w) false (World.laidAll Tryz.prog os Rows.spaceSchemaRow.laid) #[.slice none 0 0, .slice none 0 0, .string ⟨#[]⟩] 8 (World.laidAll_os _ _ _)
      (World.shaped_of_ZipB (by kernel_rfl) (by kernel_rfl)) (by kernel_rfl) (by kernel_rfl) (by kernel_rfl)
      (by rw [MakeChecks.laidMetH_plain _ _ _ (by kernel_rfl)]; exact laidMet_laidAll _ (by kernel_rfl) (by kernel_rfl))) ?_
  intro W base args ds gs before hval0 hW hlaid hsh
  have hval : ∀ (j : Nat) t v, Tryz.f3.params[j]? = some t → args[j]? = some v → Value.okWide Tryz.prog W .any base t v := hval0
  rw [MakeChecks.laidMetH_plain _ _ _ (by kernel_rfl)] at hlaid
  have htab : Tab W := tab_of hlaid
  have htt : TyTab W := tyTab_of hlaid
  have hW' := hW
  obtain ⟨p, q, hA0, hV, rfl, _, _⟩ := hW
  have hA : DataW.TrodAll enc Tryz.prog W 0 (fun _ => true) true Tryz.f3.params.toList args.toList ds p := hA0
  rw [Tryz.params3] at hA hval
  obtain ⟨v0, v1, v2, d0, d1, d2, p0, p1, p2, rfl, rfl, rfl, h0, h1, h2⟩ := trodAll_three hA
  obtain ⟨rfl, rfl⟩ := trodVars_none hV
  obtain ⟨A, n, cap, rfl⟩ := okWide_slice Tryz.underlying22 (hval 0 22 v0 rfl rfl)
  obtain ⟨B, m, c2, rfl⟩ := okWide_slice Tryz.underlying23 (hval 1 23 v1 rfl rfl)
  have k2 := h2
  obtain ⟨s, rfl, hsz⟩ := open_strA (hval 2 9 v2 rfl rfl) h2
  clear hA0 hval0
  simp only [List.append_nil] at hW'
  obtain ⟨m9, hm9⟩ := maxLen_cell hsh
  have hlt0 : ∀ x ∈ p0, x.block < W.heap.size := fun x hx => hW'.lt x (by simp [hx])
  have hlt1 : ∀ x ∈ p1, x.block < W.heap.size := fun x hx => hW'.lt x (by simp [hx])
  have hlt2 : ∀ x ∈ p2, x.block < W.heap.size := fun x hx => hW'.lt x (by simp [hx])
  have k0 := h0
  obtain ⟨_, f0⟩ := h0
  obtain ⟨nm, lo, hi, hd, hn, hs⟩ := open_dims f0
  have k1 := h1
  obtain ⟨_, f1⟩ := h1
  obtain ⟨an, ty, ha, hm, hs2⟩ := open_attrs f1
  refine (l_schemaS W A B n cap m c2 nm lo hi an ty s hd ha (fun k hk => (hs k hk).1) (fun k hk => (hs2 k hk).1) hsz (works_at htab htt hm9)).mono fun e W' ⟨he, hb⟩ => ?_
  subst he
  have tr0 := Below.trod laidOut' (t := 22) (by kernel_rfl) (of_decide_eq_true (by kernel_rfl)) k0 hb hlt0
  have tr1 := Below.trod laidOut' (t := 23) (by kernel_rfl) (of_decide_eq_true (by kernel_rfl)) k1 hb hlt1
  have tr2 := Below.trod laidOut' (t := 9) (by kernel_rfl) (of_decide_eq_true (by kernel_rfl)) k2 hb hlt2
  exact ⟨_, rfl, ⟨_, _, _, [], _, [], hW', trodAll_mk1 (shut_bool Tryz.underlying4 _), trodAll_mk3 tr0 tr1 tr2, rfl, hb.frame _, fun h => by cases h⟩⟩

theorem claimg_row : Rows.SpaceSchemaSaid :=
  OpenClaim.holds_of_wide 3 Tryz.f3 rfl rfl rfl rfl rfl rfl rfl ⟨rfl, rfl, rfl, rfl, rfl⟩ rfl rfl rfl rfl rfl (by kernel_rfl) Tryz.func3 (by kernel_rfl)
    (of_decide_eq_true (by kernel_rfl)) (by unfold Func.isWrapper; first | (rw [if_pos (by decide +kernel)]; kernel_rfl) | (rw [if_neg (by decide +kernel)]; exact ⟨rfl, rfl⟩))
    (fun os started H enc _ => claimg_lifted os started H enc)

theorem claimg_card : Rows.SpaceSchemaCardSaid :=
  Claim7.holds_tied_plain_at .later [] Rows.spaceSchemaCard.laidKinds true Rows.spaceSchemaCard.stood.harness false
    claimg_row (fun _ h => by cases h) (by kernel_rfl) (fun _ h => by cases h) spaceSchema_row_tie rfl ⟨rfl, rfl⟩ (by kernel_rfl) rfl
    (fun f fn hf hfn => by
      obtain rfl : f = 3 := Option.some.inj ((show Tryz.prog.funcNamed "tesseract/tesseractlaw02.SpaceSchema" = some 3 by kernel_rfl).symm.trans hf) |>.symm
      obtain rfl : fn = Tryz.f3 := (Option.some.inj (Tryz.func3.symm.trans hfn)).symm
      exact ⟨by kernel_rfl, fun j t ht => by
        rw [Tryz.params3] at ht
        have hin : t ∈ [22, 23, 9] := by simpa using Array.mem_of_getElem? ht
        have hall : ([22, 23, 9].all fun u => !Tryz.prog.wantsStandIn u) = true := by kernel_rfl
        exact (show Tryz.prog.wantsStandIn t = false by simpa using List.all_eq_true.1 hall t hin)⟩)
    (by kernel_rfl)
end Go.Proofs.YtmhggphkhabjlaaGreatDoor
end

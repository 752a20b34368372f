/- The reference's comparison of coordinates. -/
import Derived.Test.YtoippldgoehpcaaGreatDoorZCmpS
import Derived.Test.YtoippldgoehpcaaGreatDoorZLS
import Derived.Test.YtoippldgoehpcaaGreatDoorZSch
import Derived.Test.YtoippldgoehpcaaGreatDoorZRfE
import Derived.Test.YtoippldgoehpcaaGreatDoorZPrt2

/- The reference's comparison of coordinates. -/
section
namespace Go.Proofs.YtoippldgoehpcaaGreatDoor
open Go Go.RowKit Go.Deep

set_option maxRecDepth 100000 in
set_option maxHeartbeats 2000000 in
theorem r_Compare (w : World) (A B : Option Addr) (n c m d : Nat) (f g : Nat → Int) (ha : IntsAt w A n f) (hb : IntsAt w B m g) (hn : n ≤ 1000000) (hm : m ≤ 1000000) :
    Calls Tryz.prog 28 #[.slice A n c, .slice B m d] w fun e w' => e = .returned (.int .i64 (cmpS n m f g)) ∧ Below w.heap.size w w' := by
  have HA := Lib.hid ha
  have HB := Lib.hid hb
  obtain ⟨ve, hve⟩ : ∃ ve, cmpS n m f g = ve := ⟨_, rfl⟩
  rw [hve]
  have HV : Hid (ve = if cmpTo f g m n = 0 then (if n < m then -1 else 0) else cmpTo f g m n) := hve.symm
  clear ha hb hve
  go_enter Tryz.func28, Tryz.ntmps28
  go_wp2
  go_loopw [5] (fun i wr => ∃ k : Nat, k ≤ n ∧ k ≤ m ∧ i = .int .i64 k ∧ Hid (cmpTo f g m k = 0) ∧ Hid (Below w.heap.size w wr)) (fun i _ => n - (intOf i).toNat)
  case atStart => exact ⟨0, Nat.zero_le _, Nat.zero_le _, rfl, rfl, Below.refl _ _⟩
  case round =>
    obtain ⟨k, hk, hkm, rfl, HK, HBw⟩ := hrel
    by_cases hlt : k < n
    · have HS : Hid (cmpTo f g m (k + 1) = if m ≤ k then 1 else Lib.compareInt (f k) (g k)) := by show _ = _; rw [cmpTo, if_pos HK.out]
      by_cases hlm : k < m
      · obtain ⟨b1, o1, rfl, _, hc1⟩ := (HA.out.below HBw.out) (by omega)
        have x0 := hc1 k hlt
        obtain ⟨b2, o2, rfl, _, hc2⟩ := (HB.out.below HBw.out) (by omega)
        have y0 := hc2 k hlm
        clear hc1 hc2
        rw [if_neg (by omega)] at HS
        have HE : Hid (Lib.compareInt (f k) (g k) ≠ 0 → ve = Lib.compareInt (f k) (g k)) := fun h => by
          have h1 := cmpTo_le (f := f) (g := g) (m := m) (k := k + 1) (n := n) (by rw [HS.out]; exact h) (by omega)
          rw [HV.out, h1, HS.out, if_neg h]
        have hx0 : ∀ W, Below wr.heap.size wr W → True := fun _ _ => trivial
        have HCW : Hid (∀ n9, (wr.drewN n9).cell? ⟨b1, o1 + k, none⟩ = some (.int .i64 (f k)) ∧ (wr.drewN n9).cell? ⟨b2, o2 + k, none⟩ = some (.int .i64 (g k))) := fun n9 => ⟨x0, y0⟩
        clear hx0
        have HD : Hid (Lib.compareInt (f k) (g k) = if f k < g k then -1 else if g k < f k then 1 else 0) := rfl
        generalize f k = x at *
        generalize g k = y at *
        by_cases g1 : x < y
        · have HF : Hid (ve = -1) := by
            have h9 : Lib.compareInt x y = -1 := by rw [HD.out, if_pos g1]
            rw [h9] at HE
            exact HE.out (by decide)
          go_wp2
          go_quiet (fail)
          go_wp2
          go_ret
          exact ⟨by rw [HF.out]; rfl, drewB HBw.out _⟩
        · by_cases g2 : y < x
          · have HF : Hid (ve = 1) := by
              have h9 : Lib.compareInt x y = 1 := by rw [HD.out, if_neg g1, if_pos g2]
              rw [h9] at HE
              exact HE.out (by decide)
            have g3 : x > y := g2
            clear HE HD HS
            go_wp2
            go_quiet (fail)
            have HB1 : Hid (Below w.heap.size w (wr.drewN nq)) := drewB HBw.out _
            obtain ⟨x1, y1⟩ := HCW.out nq
            clear x0 y0 HCW
            generalize wr.drewN nq = wq at *
            go_wp2
            go_quiet (fail)
            go_wp2
            go_ret
            exact ⟨by rw [HF.out]; rfl, drewB HB1.out _⟩
          · have HR : Hid (cmpTo f g m (k + 1) = 0) := by show _ = _; rw [HS.out, HD.out, if_neg g1, if_neg g2]
            have g3 : ¬ x > y := g2
            clear HE HD HS
            go_wp2
            go_quiet (fail)
            have HB1 : Hid (Below w.heap.size w (wr.drewN nq)) := drewB HBw.out _
            obtain ⟨x1, y1⟩ := HCW.out nq
            clear x0 y0 HCW
            generalize wr.drewN nq = wq at *
            go_wp2
            go_quiet (fail)
            go_wp2
            go_roundw
            case rel => exact ⟨k + 1, by omega, by omega, by go_num, HR.out, drewB HB1.out _⟩
            case measure => simp [intOf]; omega
      · have HF : Hid (ve = 1) := by
          show _ = _
          have h1 : cmpTo f g m (k + 1) = 1 := by rw [HS.out, if_pos (by omega)]
          rw [HV.out, cmpTo_le (k := k + 1) (by rw [h1]; decide) (by omega), h1]; rfl
        have h2 : ¬ (k : Int) < (m : Int) := by omega
        have h3 : ¬ (n : Int) < (m : Int) := by omega
        have h4 : (n : Int) > (m : Int) := by omega
        go_wp2
        go_ret
        exact ⟨by rw [HF.out]; rfl, HBw.out⟩
    · obtain rfl : k = n := by omega
      rw [if_pos HK.out] at HV
      by_cases hkm2 : k < m
      · rw [if_pos hkm2] at HV
        have hkm' : (k : Int) < (m : Int) := by omega
        go_wp2
        go_ret
        exact ⟨by rw [HV.out]; rfl, HBw.out⟩
      · rw [if_neg hkm2] at HV
        have hkm' : ¬ (k : Int) < (m : Int) := by omega
        have hkm3 : ¬ (k : Int) > (m : Int) := by omega
        go_wp2
        go_ret
        exact ⟨by rw [HV.out]; rfl, HBw.out⟩
end Go.Proofs.YtoippldgoehpcaaGreatDoor
end

/- The reference's schemas. -/
section
namespace Go.Proofs.YtoippldgoehpcaaGreatDoor
open Go Go.RowKit Go.Deep

set_option maxRecDepth 100000 in
set_option maxHeartbeats 2000000 in
theorem r_taken (w : World) (A B : Option Addr) (n cap m bcap : Nat) (nm : Nat → ByteArray) (lo hi : Nat → Int) (an : Nat → ByteArray) (ty : Nat → Int) (hd : DimsAt w A n nm lo hi) (ha : AttrsAt w B m an ty) (j : Nat) (hj : j ≤ m) (s : ByteArray) (hn : n ≤ 1000) (hm : m ≤ 1000) :
    Calls Tryz.prog 131 #[.slice A n cap, .slice B m bcap, .int .i64 j, .string s] w fun e w' => e = .returned (.bool (dupTo nm s n || dupTo an s j)) ∧ w' = w := by
  have HD := Lib.hid hd
  have HA := Lib.hid ha
  obtain ⟨v, hv⟩ : ∃ v, (dupTo nm s n || dupTo an s j) = v := ⟨_, rfl⟩
  rw [hv]
  have HV := Lib.hid hv
  clear hd ha hv
  go_enter Tryz.func131, Tryz.ntmps131
  go_wp2
  go_loopw [9] (fun i wr => ∃ k : Nat, k ≤ n ∧ i = .int .i64 k ∧ Hid (dupTo nm s k = false) ∧ wr = w) (fun i _ => n - (intOf i).toNat)
  case atStart => exact ⟨0, Nat.zero_le _, rfl, rfl, rfl⟩
  case round =>
    obtain ⟨k, hk, rfl, HK, hw⟩ := hrel
    have hw := hw.symm
    subst hw
    by_cases hlt : k < n
    · obtain ⟨bd, o, rfl, hbd, hc⟩ := HD.out (by omega)
      have c0 := (hc k hlt).1
      clear hc
      have HU : Hid (dupTo nm s (k + 1) = decide (nm k = s)) := by show _ = _; rw [dupTo, HK.out, Bool.false_or]
      have HUl : Hid (dupTo nm s (k + 1) = true → dupTo nm s n = true) := fun h => dupTo_le h (by omega)
      generalize nm k = t at *
      by_cases he : t = s
      · subst he
        have HT : Hid (v = true) := by show _ = _; rw [← HV.out, HUl.out (by rw [HU.out, decide_eq_true rfl])]; rfl
        go_wp2
        go_ret
        exact ⟨by rw [HT.out]; rfl, rfl⟩
      · have h5 : (t.toList == s.toList) = false := by
          cases h6 : t.toList == s.toList
          · rfl
          · exact absurd (str_eq h6) he
        have HR : Hid (dupTo nm s (k + 1) = false) := by show _ = _; rw [HU.out, decide_eq_false he]
        go_wp2
        go_roundw
        case rel => exact ⟨k + 1, by omega, by go_num, HR.out, by first | rfl | trivial⟩
        case measure => simp [intOf]; omega
    · obtain rfl : k = n := by omega
      have HV2 : Hid (v = dupTo an s j) := by show _ = _; rw [← HV.out, HK.out]; rfl
      go_wp2
      go_loopw [10] (fun i wr => ∃ k : Nat, k ≤ j ∧ i = .int .i64 k ∧ Hid (dupTo an s k = false) ∧ wr = w) (fun i _ => j - (intOf i).toNat)
      case atStart => exact ⟨0, Nat.zero_le _, rfl, rfl, rfl⟩
      case round =>
        obtain ⟨i, hi2, rfl, HI, hw⟩ := hrel
        have hw := hw.symm
        subst hw
        by_cases hlt2 : i < j
        · obtain ⟨bd, o, rfl, hbd, hc⟩ := HA.out (by omega)
          have c0 := (hc i (by omega)).1
          clear hc
          have HU : Hid (dupTo an s (i + 1) = decide (an i = s)) := by show _ = _; rw [dupTo, HI.out, Bool.false_or]
          have HUl : Hid (dupTo an s (i + 1) = true → dupTo an s j = true) := fun h => dupTo_le h (by omega)
          generalize an i = t at *
          by_cases he : t = s
          · subst he
            have HT : Hid (v = true) := by show _ = _; rw [HV2.out, HUl.out (by rw [HU.out, decide_eq_true rfl])]
            go_wp2
            go_ret
            exact ⟨by rw [HT.out]; rfl, rfl⟩
          · have h5 : (t.toList == s.toList) = false := by
              cases h6 : t.toList == s.toList
              · rfl
              · exact absurd (str_eq h6) he
            have HR : Hid (dupTo an s (i + 1) = false) := by show _ = _; rw [HU.out, decide_eq_false he]
            go_wp2
            go_roundw
            case rel => exact ⟨i + 1, by omega, by go_num, HR.out, by first | rfl | trivial⟩
            case measure => simp [intOf]; omega
        · obtain rfl : i = j := by omega
          go_wp2
          go_ret
          exact ⟨by rw [HV2.out, HI.out]; rfl, rfl⟩

theorem dup_in2 (M : List ByteArray) (nm : Nat → ByteArray) (s : ByteArray) : ∀ k, inN (metK M nm k) s = (inN M s || dupTo nm s k)
  | 0 => by rw [dupTo, Bool.or_false]; rfl
  | k + 1 => by
    have ih := dup_in2 M nm s k
    rw [dupTo, ← Bool.or_assoc, ← ih]
    by_cases h : nm k = s
    · rw [decide_eq_true h, Bool.or_true]
      exact inN_true.2 (by rw [metK, h]; exact List.mem_cons_self)
    · rw [decide_eq_false h, Bool.or_false]
      cases h2 : inN (metK M nm k) s
      · exact inN_false.2 (by rw [metK]; intro h3; rcases List.mem_cons.1 h3 with h4 | h4; · exact h h4.symm
                              · exact inN_false.1 h2 h4)
      · exact inN_true.2 (by rw [metK]; exact List.mem_cons_of_mem _ (inN_true.1 h2))
theorem attrE_of (nm an : Nat → ByteArray) (s : ByteArray) (n k : Nat) (t : Int) : attrE (metK (metK [] nm n) an k) s t = if nameB s = false then 11 else if (dupTo nm s n || dupTo an s k) = true then 11 else if t < 1 ∨ 4 < t then 12 else 0 := by
  rw [attrE, dup_in2, dup_in]
  cases h1 : nameB s
  · rfl
  · cases h2 : (dupTo nm s n || dupTo an s k)
    · rfl
    · rfl

set_option maxRecDepth 100000 in
set_option maxHeartbeats 4000000 in
theorem r_Schema (w : World) (A B : Option Addr) (n cap m bcap : Nat) (nm : Nat → ByteArray) (lo hi : Nat → Int) (an : Nat → ByteArray) (ty : Nat → Int) (hd : DimsAt w A n nm lo hi) (ha : AttrsAt w B m an ty) (hs : ∀ k, k < n → (nm k).size ≤ 9223372036854775807) (hs2 : ∀ k, k < m → (an k).size ≤ 9223372036854775807) (hn10 : n ≤ 1000) (hm10 : m ≤ 1000) :
    Calls Tryz.prog 72 #[.slice A n cap, .slice B m bcap] w fun e w' => e = .returned (.int .i64 (schE nm lo hi n an ty m)) ∧ Below w.heap.size w w' := by
  have HA := Lib.hid ha
  have HDm := Lib.hid (r_Dims w A n cap nm lo hi hd hs hn10)
  have HTk : Hid (∀ W j s, Below w.heap.size w W → j ≤ m → Calls Tryz.prog 131 #[.slice A n cap, .slice B m bcap, .int .i64 (j : Nat), .string s] W fun e w' => e = .returned (.bool (dupTo nm s n || dupTo an s j)) ∧ w' = W) := fun W j s hW hj => r_taken W A B n cap m bcap nm lo hi an ty (hd.below hW) (ha.below hW) j hj s hn10 hm10
  have HNm := Lib.hid r_Name
  have HS := Lib.hid hs2
  obtain ⟨ve, hve⟩ : ∃ ve, schE nm lo hi n an ty m = ve := ⟨_, rfl⟩
  rw [hve]
  have HV : Hid (ve = if dimsZ nm lo hi n ≠ 0 then dimsZ nm lo hi n else if m = 0 ∨ 6 < m then 9 else attrsTo (metK [] nm n) an ty m) := hve.symm
  clear hd ha hs hs2 hve
  by_cases h0 : dimsZ nm lo hi n = 0
  · have HV2 : Hid (ve = if m = 0 ∨ 6 < m then 9 else attrsTo (metK [] nm n) an ty m) := by show _ = _; rw [HV.out, if_neg (by rw [h0]; simp)]
    rw [h0] at HDm
    clear h0 HV
    by_cases h1 : m = 0 ∨ 6 < m
    · have HR : Hid (ve = 9) := HV2.out.trans (if_pos h1)
      clear HV2
      go_enter Tryz.func72, Tryz.ntmps72
      go_wp2_with fail
      refine HDm.out.mono ?_
      rintro e w1 ⟨rfl, hb1⟩
      rcases h1 with rfl | h1
      · go_wp2
        go_ret
        exact ⟨by rw [HR.out]; rfl, hb1⟩
      · have h2 : ¬ (m : Int) < 1 := by omega
        have h3 : (m : Int) > 6 := by omega
        clear h1
        go_wp2
        go_ret
        exact ⟨by rw [HR.out]; rfl, hb1⟩
    · have HR : Hid (ve = attrsTo (metK [] nm n) an ty m) := HV2.out.trans (if_neg h1)
      have h2 : ¬ (m : Int) < 1 := by omega
      have h3 : ¬ (m : Int) > 6 := by omega
      clear HV2 h1
      go_enter Tryz.func72, Tryz.ntmps72
      go_wp2_with fail
      refine HDm.out.mono ?_
      rintro e w1 ⟨rfl, hb1⟩
      have HB1 := Lib.hid hb1
      clear hb1 HDm
      go_wp2
      go_loopw [6] (fun i wr => ∃ k : Nat, k ≤ m ∧ i = .int .i64 k ∧ Hid (attrsTo (metK [] nm n) an ty k = 0) ∧ Hid (Below w.heap.size w wr)) (fun i _ => m - (intOf i).toNat)
      case atStart => exact ⟨0, Nat.zero_le _, rfl, rfl, HB1.out⟩
      case round =>
        obtain ⟨k, hk, rfl, HK, HB⟩ := hrel
        by_cases hlt : k < m
        · obtain ⟨bd, o, rfl, hbd, hc⟩ := (HA.out.below HB.out) (by omega)
          obtain ⟨c0, c1⟩ := hc k hlt
          clear hc
          have HT : Hid (attrsTo (metK [] nm n) an ty (k + 1) = if nameB (an k) = false then 11 else if (dupTo nm (an k) n || dupTo an (an k) k) = true then 11 else if ty k < 1 ∨ 4 < ty k then 12 else 0) := by show _ = _; rw [attrsTo, if_pos HK.out, attrE_of]
          have HE : Hid (attrsTo (metK [] nm n) an ty (k + 1) ≠ 0 → ve = attrsTo (metK [] nm n) an ty (k + 1)) := fun h => by rw [HR.out]; exact attrsTo_le h (by omega)
          have HNk := Lib.hid (fun W => HNm.out (an k) W (HS.out k hlt))
          have HTkk := Lib.hid (HTk.out wr k (an k) HB.out hk)
          obtain ⟨D, hDe⟩ : ∃ D, attrsTo (metK [] nm n) an ty (k + 1) = D := ⟨_, rfl⟩
          have HDe := Lib.hid hDe
          rw [hDe] at HE HT
          clear hDe
          generalize (dupTo nm (an k) n || dupTo an (an k) k) = u at *
          generalize an k = s at *
          generalize ty k = t at *
          cases hb : nameB s
          · rw [hb] at HNk
            have HD1 : Hid (ve = 11) := by
              have h9 : D = 11 := by rw [HT.out, if_pos hb]
              exact (HE.out (by rw [h9]; decide)).trans h9
            go_wp2_with fail
            refine (HNk.out _).mono ?_
            rintro e w2 ⟨rfl, rfl⟩
            go_wp2
            go_ret
            exact ⟨by rw [HD1.out]; rfl, HB.out⟩
          · rw [hb] at HNk
            have HT2 : Hid (D = if u = true then 11 else if t < 1 ∨ 4 < t then 12 else 0) := by show _ = _; rw [HT.out, if_neg (by rw [hb]; decide)]
            clear hb HT
            cases u
            · have HT3 : Hid (D = if t < 1 ∨ 4 < t then 12 else 0) := HT2.out
              go_wp2_with fail
              refine (HNk.out _).mono ?_
              rintro e w2 ⟨rfl, rfl⟩
              go_wp2_with fail
              refine HTkk.out.mono ?_
              rintro e w2 ⟨rfl, rfl⟩
              by_cases g1 : t < 1
              · have HD1 : Hid (ve = 12) := by
                  have h9 : D = 12 := by rw [HT3.out, if_pos (by omega)]
                  exact (HE.out (by rw [h9]; decide)).trans h9
                go_wp2
                go_ret
                exact ⟨by rw [HD1.out]; rfl, HB.out⟩
              · by_cases g2 : t > 4
                · have HD1 : Hid (ve = 12) := by
                    have h9 : D = 12 := by rw [HT3.out, if_pos (by omega)]
                    exact (HE.out (by rw [h9]; decide)).trans h9
                  go_wp2
                  go_ret
                  exact ⟨by rw [HD1.out]; rfl, HB.out⟩
                · have HD1 : Hid (D = 0) := by show _ = _; rw [HT3.out, if_neg (by omega)]
                  go_wp2
                  go_roundw
                  case rel => exact ⟨k + 1, by omega, by go_num, HDe.out.trans HD1.out, HB.out⟩
                  case measure => simp [intOf]; omega
            · have HD1 : Hid (ve = 11) := by
                have h9 : D = 11 := HT2.out
                exact (HE.out (by rw [h9]; decide)).trans h9
              go_wp2_with fail
              refine (HNk.out _).mono ?_
              rintro e w2 ⟨rfl, rfl⟩
              go_wp2_with fail
              refine HTkk.out.mono ?_
              rintro e w2 ⟨rfl, rfl⟩
              go_wp2
              go_ret
              exact ⟨by rw [HD1.out]; rfl, HB.out⟩
        · obtain rfl : k = m := by omega
          go_wp2
          go_ret
          exact ⟨by rw [HR.out, HK.out]; rfl, HB.out⟩
  · have HE : Hid (ve = dimsZ nm lo hi n) := by show _ = _; rw [HV.out, if_pos h0]
    generalize dimsZ nm lo hi n = E at *
    have h1 : (E != 0) = true := by rw [bne_iff_ne]; exact h0
    clear h0 HV
    go_enter Tryz.func72, Tryz.ntmps72
    go_wp2_with fail
    refine HDm.out.mono ?_
    rintro e w1 ⟨rfl, hb1⟩
    go_wp2
    go_ret
    exact ⟨by rw [HE.out]; rfl, hb1⟩
end Go.Proofs.YtoippldgoehpcaaGreatDoor
end

/- The reference's error of an array. -/
section
namespace Go.Proofs.YtoippldgoehpcaaGreatDoor
open Go Go.RowKit Go.Deep

theorem cmpTo_three (f g : Nat → Int) (m : Nat) : ∀ k, cmpTo f g m k = -1 ∨ cmpTo f g m k = 0 ∨ cmpTo f g m k = 1
  | 0 => .inr (.inl rfl)
  | k + 1 => by
    rw [cmpTo]
    split
    · split
      · exact .inr (.inr rfl)
      · unfold Lib.compareInt
        split
        · exact .inl rfl
        · split
          · exact .inr (.inr rfl)
          · exact .inr (.inl rfl)
    · exact cmpTo_three f g m k
theorem cmpS_three (n m : Nat) (f g : Nat → Int) : cmpS n m f g = -1 ∨ cmpS n m f g = 0 ∨ cmpS n m f g = 1 := by
  unfold cmpS
  split
  · split
    · exact .inl rfl
    · exact .inr (.inl rfl)
  · exact cmpTo_three f g m n
set_option maxRecDepth 100000 in
set_option maxHeartbeats 4000000 in
theorem ra_Check (w : World) (A B C : Option Addr) (n cap m bcap N ccap : Nat) (nm : Nat → ByteArray) (lo hi : Nat → Int) (an : Nat → ByteArray) (ty : Nat → Int) (ln vl : Nat → Nat) (x vk vn vd : Nat → Nat → Int) (vs : Nat → Nat → ByteArray)
    (hd : DimsAt w A n nm lo hi) (ha : AttrsAt w B m an ty) (hc : CellsAt w C N ln vl x vk vn vd vs) (hn : n ≤ 1000) (hm : m ≤ 1000) (hN : N ≤ 1000000) (hs : ∀ k, k < n → (nm k).size ≤ 9223372036854775807) (hs2 : ∀ k, k < m → (an k).size ≤ 9223372036854775807) (hs3 : ∀ k, k < N → ∀ j, j < vl k → (vs k j).size ≤ 9223372036854775807) :
    Calls Tryz.prog 18 #[ArrV A n cap B m bcap C N ccap] w fun e w' => e = .returned (.int .i64 (checkE nm lo hi n an ty m N ln vl x vk vn vd vs)) ∧ Below w.heap.size w w' := by
  have KB := Lib.hid (arr_box w (.slice A n cap) (.slice B m bcap) (.slice C N ccap) 26)
  have HB : Hid (Below w.heap.size w (w.alloc (.cells #[.slice A n cap, .slice B m bcap, .slice C N ccap] 26))) := (Below.refl _ _).alloc (Nat.le_refl _) _
  have HM : Hid (∀ W, Below w.heap.size w W → Calls Tryz.prog 72 #[.slice A n cap, .slice B m bcap] W fun e w' => e = .returned (.int .i64 (schE nm lo hi n an ty m)) ∧ Below W.heap.size W w') := fun W hW => r_Schema W A B n cap m bcap nm lo hi an ty (hd.below hW) (ha.below hW) hs hs2 hn hm
  have HCe : Hid (∀ W P ln' pc Q vl' qc x' vk' vn' vd' vs', Below w.heap.size w W → IntsAt W P ln' x' → ValsAt W Q vl' vk' vn' vd' vs' → ln' ≤ 1000 → (∀ j, j < vl' → (vs' j).size ≤ 9223372036854775807) → Calls Tryz.prog 73 #[.slice A n cap, .slice B m bcap, CelV P ln' pc Q vl' qc] W fun e w' => e = .returned (.int .i64 (cellE lo hi n ty m x' ln' vk' vn' vd' vs' vl')) ∧ Below W.heap.size W w') := fun W P ln' pc Q vl' qc x' vk' vn' vd' vs' hW hx hv hl hs9 => r_Cell W A B P Q n cap m bcap ln' pc vl' qc nm lo hi an ty x' vk' vn' vd' vs' (hd.below hW) (ha.below hW) hx hv hn hm hl hs9
  have HCm := Lib.hid r_Compare
  have HC := Lib.hid hc
  have HS3 := Lib.hid hs3
  obtain ⟨ve, hve⟩ : ∃ ve, checkE nm lo hi n an ty m N ln vl x vk vn vd vs = ve := ⟨_, rfl⟩
  rw [hve]
  have HV := Lib.hid hve
  unfold checkE manyE at HV
  clear hd ha hve hc hs hs2 hs3
  generalize schE nm lo hi n an ty m = me at *
  go_enter Tryz.func18, Tryz.ntmps18
  go_wp2_with fail
  generalize w.alloc (.cells #[.slice A n cap, .slice B m bcap, .slice C N ccap] 26) = W0 at *
  obtain ⟨l0, l1, l2⟩ := KB.out W0 (Below.refl _ _)
  go_wp2_with fail
  refine (HM.out _ HB.out).mono ?_
  rintro e w1 ⟨rfl, hb1⟩
  have HB1 : Hid (Below w.heap.size w w1) := st HB.out hb1
  have KB1 : Hid (∀ W, Below w1.heap.size w1 W → W.cell? ⟨w.heap.size, 0, none⟩ = some (.slice A n cap) ∧ W.cell? ⟨w.heap.size, 1, none⟩ = some (.slice B m bcap) ∧ W.cell? ⟨w.heap.size, 2, none⟩ = some (.slice C N ccap)) := fun W hW => KB.out W (hb1.trans (hW.mono hb1.size))
  clear l0 l1 l2 KB HB HM hb1
  obtain ⟨l0, l1, l2⟩ := KB1.out w1 (Below.refl _ _)
  by_cases h0 : me = 0
  · subst h0
    by_cases h4 : 4096 < N
    · have HE : Hid (ve = 9) := by show _ = _; rw [← HV.out]; simp [h4]
      have h5 : (N : Int) > 4096 := by omega
      clear HV
      go_wp2
      go_ret
      exact ⟨by rw [HE.out]; rfl, HB1.out⟩
    have HV1 : Hid (cellsTo lo hi n ty m ln vl x vk vn vd vs N = ve) := by show _ = _; rw [← HV.out]; simp [h4]
    have h5 : ¬ (N : Int) > 4096 := by omega
    clear HV
    go_wp2_with fail
    clear l0 l1 l2
    go_loopw [4, 5, 6] (fun i _ _ wr => ∃ k : Nat, k ≤ N ∧ i = .int .i64 k ∧ Hid (cellsTo lo hi n ty m ln vl x vk vn vd vs k = 0) ∧ Hid (Below w1.heap.size w1 wr)) (fun i _ _ _ => N - (intOf i).toNat)
    case atStart => exact ⟨0, Nat.zero_le _, rfl, rfl, Below.refl _ _⟩
    case round =>
      obtain ⟨k, hk, rfl, HK, HBr⟩ := hrel
      have HBw : Hid (Below w.heap.size w wr) := st HB1.out HBr.out
      obtain ⟨l0, l1, l2⟩ := KB1.out wr HBr.out
      by_cases hlt : k < N
      · obtain ⟨bc, oc, rfl, hbc, hcc⟩ := (HC.out.below HBw.out) (by omega)
        obtain ⟨P, pc, Q, qc, x0, x1, x2, x3, x4⟩ := hcc k hlt
        have HCk : Hid (∀ W, Below wr.heap.size wr W → Calls Tryz.prog 73 #[.slice A n cap, .slice B m bcap, CelV P (ln k) pc Q (vl k) qc] W fun e w' => e = .returned (.int .i64 (cellE lo hi n ty m (x k) (ln k) (vk k) (vn k) (vd k) (vs k) (vl k))) ∧ Below W.heap.size W w') := fun W hW =>
          HCe.out _ P (ln k) pc Q (vl k) qc (x k) (vk k) (vn k) (vd k) (vs k) (st HBw.out hW) (x2.below hW) (x3.below hW) x4 (HS3.out k hlt)
        have KW : Hid (∀ W, Below wr.heap.size wr W → (W.cell? ⟨bc, oc + k * 2, none⟩ = some (.slice P (ln k) pc) ∧ W.cell? ⟨bc, oc + k * 2 + 1, none⟩ = some (.slice Q (vl k) qc)) ∧ W.cell? ⟨w.heap.size, 0, none⟩ = some (.slice A n cap) ∧ W.cell? ⟨w.heap.size, 1, none⟩ = some (.slice B m bcap) ∧ W.cell? ⟨w.heap.size, 2, none⟩ = some (.slice (some ⟨bc, oc, none⟩) N ccap)) := fun W hW =>
          ⟨⟨(hW.cell (p := ⟨bc, oc + k * 2, none⟩) hbc).trans x0, (hW.cell (p := ⟨bc, oc + k * 2 + 1, none⟩) hbc).trans x1⟩, KB1.out W (st HBr.out hW)⟩
        have HS : Hid (cellsTo lo hi n ty m ln vl x vk vn vd vs (k + 1) = cellsE lo hi n ty m ln vl x vk vn vd vs k) := by show _ = _; rw [cellsTo, if_pos HK.out]
        have HEr : Hid (cellsE lo hi n ty m ln vl x vk vn vd vs k ≠ 0 → ve = cellsE lo hi n ty m ln vl x vk vn vd vs k) := fun h => by
          rw [← HV1.out, cellsTo_le (k := k + 1) (by rw [HS.out]; exact h) (by omega), HS.out]
        have HD : Hid (cellsE lo hi n ty m ln vl x vk vn vd vs k = if cellE lo hi n ty m (x k) (ln k) (vk k) (vn k) (vd k) (vs k) (vl k) ≠ 0 then cellE lo hi n ty m (x k) (ln k) (vk k) (vn k) (vd k) (vs k) (vl k) else if k = 0 then 0 else ordE (cmpS (ln (k - 1)) (ln k) (x (k - 1)) (x k))) := rfl
        generalize cellE lo hi n ty m (x k) (ln k) (vk k) (vn k) (vd k) (vs k) (vl k) = ce at *
        have HX2 := Lib.hid x2
        have hlnk : ln k ≤ 1000000 := by omega
        clear x0 x1 x2 x3 x4
        have hk4 : (k : Int) < (N : Int) := by omega
        have B0d : Below wr.heap.size wr wr.drew := Below.drew (Below.refl _ _)
        obtain ⟨⟨m0, m1⟩, -⟩ := KW.out wr (Below.refl _ _)
        go_wp2_with fail
        go_region_held3 (fun W => (W.cell? ⟨bc, oc + k * 2, none⟩ = some (.slice P (ln k) pc) ∧ W.cell? ⟨bc, oc + k * 2 + 1, none⟩ = some (.slice Q (vl k) qc)) ∧ W.cell? ⟨w.heap.size, 0, none⟩ = some (.slice A n cap) ∧ W.cell? ⟨w.heap.size, 1, none⟩ = some (.slice B m bcap) ∧ W.cell? ⟨w.heap.size, 2, none⟩ = some (.slice (some ⟨bc, oc, none⟩) N ccap))
          (first | exact KW.out _ B1 | exact KW.out _ B0d | exact KW.out _ (Below.refl _ _))
          (first
            | (go_at_call 73; refine (HCk.out _ B0d).mono ?_; rintro e w2 ⟨rfl, hb2⟩; have B1 : Below wr.heap.size wr w2 := st B0d hb2))
        all_goals
          have HB2 : Hid (Below w.heap.size w w2) := st HBw.out B1
          have HB12 : Hid (Below w1.heap.size w1 w2) := st HBr.out B1
          have KW2 : Hid (∀ W, Below w2.heap.size w2 W → (W.cell? ⟨bc, oc + k * 2, none⟩ = some (.slice P (ln k) pc) ∧ W.cell? ⟨bc, oc + k * 2 + 1, none⟩ = some (.slice Q (vl k) qc)) ∧ W.cell? ⟨w.heap.size, 0, none⟩ = some (.slice A n cap) ∧ W.cell? ⟨w.heap.size, 1, none⟩ = some (.slice B m bcap) ∧ W.cell? ⟨w.heap.size, 2, none⟩ = some (.slice (some ⟨bc, oc, none⟩) N ccap)) := fun W hW => KW.out W (st B1 hW)
          by_cases hce : ce = 0
          · subst hce
            by_cases hk0 : k = 0
            · subst hk0
              have HSZ : Hid (cellsTo lo hi n ty m ln vl x vk vn vd vs (0 + 1) = 0) := by show _ = _; rw [HS.out, HD.out]; rfl
              clear HS HEr HD
              go_wp2
              exact ⟨⟨1, by omega, by go_num, HSZ, HB12⟩, by simp [intOf]; omega⟩
            · obtain ⟨p, rfl⟩ : ∃ p, k = p + 1 := ⟨k - 1, by omega⟩
              have hk1 : (((p + 1 : Nat) : Int) == 0) = false := by rw [beq_eq_false_iff_ne]; omega
              obtain ⟨P', pc', Q', qc', z0, z1, z2, z3, z4⟩ := hcc p (by omega)
              have HPx : Hid (∀ W, Below w2.heap.size w2 W → W.cell? ⟨bc, oc + p * 2, none⟩ = some (.slice P' (ln p) pc') ∧ W.cell? ⟨bc, oc + p * 2 + 1, none⟩ = some (.slice Q' (vl p) qc')) := fun W hW => ⟨((st B1 hW).cell (p := ⟨bc, oc + p * 2, none⟩) hbc).trans z0, ((st B1 hW).cell (p := ⟨bc, oc + p * 2 + 1, none⟩) hbc).trans z1⟩
              have HCp : Hid (∀ W, Below w2.heap.size w2 W → Calls Tryz.prog 28 #[.slice P' (ln p) pc', .slice P (ln (p + 1)) pc] W fun e w' => e = .returned (.int .i64 (cmpS (ln p) (ln (p + 1)) (x p) (x (p + 1)))) ∧ Below W.heap.size W w') := fun W hW => HCm.out W P' P (ln p) pc' (ln (p + 1)) pc (x p) (x (p + 1)) (z2.below (st B1 hW)) (HX2.out.below (st B1 hW)) (by omega) (by omega)
              have HD2 : Hid (cellsE lo hi n ty m ln vl x vk vn vd vs (p + 1) = ordE (cmpS (ln p) (ln (p + 1)) (x p) (x (p + 1)))) := by show _ = _; rw [HD.out, if_neg (by simp), if_neg (by omega)]; rfl
              clear HD z0 z1 z2 z3
              have hcz := cmpS_three (ln p) (ln (p + 1)) (x p) (x (p + 1))
              generalize cmpS (ln p) (ln (p + 1)) (x p) (x (p + 1)) = cz at *
              have hwp : IntKind.i64.wrap ((p : Int) + 1 - 1) = p := by rw [show (p : Int) + 1 - 1 = p by omega]; exact w64 (by omega) (by omega)
              have KS : Hid (∀ W, Below w2.heap.size w2 W → (W.cell? ⟨bc, oc + p * 2, none⟩ = some (.slice P' (ln p) pc') ∧ W.cell? ⟨bc, oc + p * 2 + 1, none⟩ = some (.slice Q' (vl p) qc')) ∧ (W.cell? ⟨bc, oc + (p + 1) * 2, none⟩ = some (.slice P (ln (p + 1)) pc) ∧ W.cell? ⟨bc, oc + (p + 1) * 2 + 1, none⟩ = some (.slice Q (vl (p + 1)) qc)) ∧ W.cell? ⟨w.heap.size, 2, none⟩ = some (.slice (some ⟨bc, oc, none⟩) N ccap)) := fun W hW => ⟨HPx.out W hW, (KW2.out W hW).1, (KW2.out W hW).2.2.2⟩
              have C0d : Below w2.heap.size w2 w2.drew := Below.drew (Below.refl _ _)
              have hwp2 : IntKind.i64.wrap (p : Int) = p := w64 (by omega) (by omega)
              have hp0 : (0 : Int) ≤ (p : Int) := by omega
              have hpN : (p : Int) < (N : Int) := by omega
              have hpn : p < N := by omega
              have hp1 : (0 : Int) ≤ (p : Int) + 1 := by omega
              have hp2 : (p : Int) + 1 < (N : Int) := by omega
              have hp3 : p + 1 < N := by omega
              obtain ⟨⟨n0, n1⟩, -⟩ := KS.out w2 (Below.refl _ _)
              rcases hcz with rfl | rfl | rfl
              · have HSZ : Hid (cellsTo lo hi n ty m ln vl x vk vn vd vs (p + 1 + 1) = 0) := by show _ = _; rw [HS.out, HD2.out]; rfl
                clear HS HEr HD2
                go_wp2_with fail
                go_region_held3 (fun W => (W.cell? ⟨bc, oc + p * 2, none⟩ = some (.slice P' (ln p) pc') ∧ W.cell? ⟨bc, oc + p * 2 + 1, none⟩ = some (.slice Q' (vl p) qc')) ∧ (W.cell? ⟨bc, oc + (p + 1) * 2, none⟩ = some (.slice P (ln (p + 1)) pc) ∧ W.cell? ⟨bc, oc + (p + 1) * 2 + 1, none⟩ = some (.slice Q (vl (p + 1)) qc)) ∧ W.cell? ⟨w.heap.size, 2, none⟩ = some (.slice (some ⟨bc, oc, none⟩) N ccap))
                  (first | exact KS.out _ C1 | exact KS.out _ C0d | exact KS.out _ (Below.refl _ _))
                  (first
                    | (go_at_call 28; refine (HCp.out _ C0d).mono ?_; rintro e w3 ⟨rfl, hb3⟩; have C1 : Below w2.heap.size w2 w3 := st C0d hb3))
                all_goals
                  go_wp2
                  exact ⟨⟨p + 1 + 1, by omega, by go_num, HSZ, st HB12.out C1⟩, by simp [intOf]; omega⟩
              · have HE : Hid (ve = 5) := by show _ = _; rw [HEr.out (by rw [HD2.out]; decide), HD2.out]; rfl
                clear HS HEr HD2
                go_wp2_with fail
                go_region_held3 (fun W => (W.cell? ⟨bc, oc + p * 2, none⟩ = some (.slice P' (ln p) pc') ∧ W.cell? ⟨bc, oc + p * 2 + 1, none⟩ = some (.slice Q' (vl p) qc')) ∧ (W.cell? ⟨bc, oc + (p + 1) * 2, none⟩ = some (.slice P (ln (p + 1)) pc) ∧ W.cell? ⟨bc, oc + (p + 1) * 2 + 1, none⟩ = some (.slice Q (vl (p + 1)) qc)) ∧ W.cell? ⟨w.heap.size, 2, none⟩ = some (.slice (some ⟨bc, oc, none⟩) N ccap))
                  (first | exact KS.out _ C1 | exact KS.out _ C0d | exact KS.out _ (Below.refl _ _))
                  (first
                    | (go_at_call 28; refine (HCp.out _ C0d).mono ?_; rintro e w3 ⟨rfl, hb3⟩; have C1 : Below w2.heap.size w2 w3 := st C0d hb3))
                all_goals
                  go_wp2
                  go_ret
                  exact ⟨by rw [HE.out]; rfl, st HB2.out C1⟩
              · have HE : Hid (ve = 2) := by show _ = _; rw [HEr.out (by rw [HD2.out]; decide), HD2.out]; rfl
                clear HS HEr HD2
                go_wp2_with fail
                go_region_held3 (fun W => (W.cell? ⟨bc, oc + p * 2, none⟩ = some (.slice P' (ln p) pc') ∧ W.cell? ⟨bc, oc + p * 2 + 1, none⟩ = some (.slice Q' (vl p) qc')) ∧ (W.cell? ⟨bc, oc + (p + 1) * 2, none⟩ = some (.slice P (ln (p + 1)) pc) ∧ W.cell? ⟨bc, oc + (p + 1) * 2 + 1, none⟩ = some (.slice Q (vl (p + 1)) qc)) ∧ W.cell? ⟨w.heap.size, 2, none⟩ = some (.slice (some ⟨bc, oc, none⟩) N ccap))
                  (first | exact KS.out _ C1 | exact KS.out _ C0d | exact KS.out _ (Below.refl _ _))
                  (first
                    | (go_at_call 28; refine (HCp.out _ C0d).mono ?_; rintro e w3 ⟨rfl, hb3⟩; have C1 : Below w2.heap.size w2 w3 := st C0d hb3))
                all_goals
                  go_wp2
                  go_ret
                  exact ⟨by rw [HE.out]; rfl, st HB2.out C1⟩
          · have h1 : (ce != 0) = true := by rw [bne_iff_ne]; exact hce
            have HE : Hid (ve = ce) := by show _ = _; rw [HEr.out (by rw [HD.out, if_pos hce]; exact hce), HD.out, if_pos hce]
            clear hce HS HEr HD
            go_wp2
            go_ret
            exact ⟨by rw [HE.out]; rfl, HB2.out⟩
      · obtain rfl : k = N := by omega
        go_wp2
        go_ret
        exact ⟨by rw [← HV1.out, HK.out]; rfl, HBw.out⟩
  · have h1 : (me != 0) = true := by rw [bne_iff_ne]; exact h0
    have HE : Hid (ve = me) := by show _ = _; rw [← HV.out]; simp [h0]
    clear h0 HV
    go_wp2
    go_ret
    exact ⟨by rw [HE.out]; rfl, HB1.out⟩
end Go.Proofs.YtoippldgoehpcaaGreatDoor
end

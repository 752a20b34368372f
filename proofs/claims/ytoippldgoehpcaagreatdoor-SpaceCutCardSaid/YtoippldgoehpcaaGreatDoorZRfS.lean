/- The reference's Fits, whatever the value. -/
import Derived.Test.YtoippldgoehpcaaGreatDoorZFit9
import Derived.Test.YtoippldgoehpcaaGreatDoorZMathT
import Derived.Test.YtoippldgoehpcaaGreatDoorZRfO
import Derived.Test.YtoippldgoehpcaaGreatDoorZCmpS
import Derived.Test.YtoippldgoehpcaaGreatDoorZRfD
import Derived.Test.YtoippldgoehpcaaGreatDoorZSch

/- The reference's Fits, whatever the value. -/
section
namespace Go.Proofs.YtoippldgoehpcaaGreatDoor
open Go.RowKit Go.Deep

set_option maxRecDepth 100000 in
set_option maxHeartbeats 8000000 in
theorem r_Fits (k n d : Int) (s : ByteArray) (t : Int) (w : World) (hs : s.size ≤ 9223372036854775807) :
    Calls Tryz.prog 132 #[V k n d s, .int .i64 t] w fun e w' => e = .returned (.bool (isTy t && (okB k n d s && fitB k d t))) ∧ Below w.heap.size w w' := by
  obtain ⟨W, b, hW, hb, hlt, hbel, K⟩ := box_facts w k n d s
  have HBel := Lib.hid hbel
  have KK : Hid (∀ W', Below W.heap.size W W' → W'.cell? ⟨w.heap.size, 0, none⟩ = some (.int .i64 k) ∧ W'.cell? ⟨w.heap.size, 1, none⟩ = some (.int .i64 n) ∧ W'.cell? ⟨w.heap.size, 2, none⟩ = some (.int .i64 d) ∧ W'.cell? ⟨w.heap.size, 3, none⟩ = some (.string s)) := by
    rw [hb]; exact K.out
  have HC := Lib.hid (fun W => r_Check k n d s W hs)
  clear K hb hlt hbel hs
  generalize hE : (isTy t && (okB k n d s && fitB k d t)) = E
  obtain ⟨k0, k1, k2, k3⟩ := KK.out W (Below.refl _ _)
  by_cases hok : okB k n d s = true
  · have hk : k = 0 ∨ k = 1 ∨ k = 2 ∨ k = 3 := by
      by_cases h0 : k = 0
      · exact .inl h0
      by_cases h1 : k = 1
      · exact .inr (.inl h1)
      by_cases h2 : k = 2
      · exact .inr (.inr (.inl h2))
      by_cases h3 : k = 3
      · exact .inr (.inr (.inr h3))
      simp [okB, h0, h1, h2, h3] at hok
    have HC0 : Hid (∀ W, Calls Tryz.prog 166 #[V k n d s] W fun e w' => e = .returned (.int .i64 0) ∧ Below W.heap.size W w') := fun W => by
      have h9 := HC.out W
      rw [hok] at h9
      exact h9
    rw [hok, Bool.true_and] at hE
    clear hok HC
    have ht : t < 1 ∨ 4 < t ∨ t = 1 ∨ t = 2 ∨ t = 3 ∨ t = 4 := by omega
    rcases hk with rfl | rfl | rfl | rfl
    all_goals
      rcases ht with ht | ht | rfl | rfl | rfl | rfl
    all_goals
      first
      | (have HE : Hid (E = false) := by
           show _ = _
           rw [← hE]
           first
           | (simp [isTy, fitB]; done)
           | (simp [isTy]; omega)
         clear hE
         go_enter Tryz.func132, Tryz.ntmps132
         go_wp2_with fail
         refine (HC0.out W).mono ?_
         rintro e w1 ⟨rfl, hb1⟩
         have HB1 := Lib.hid (btr HBel.out hb1)
         obtain ⟨q0, q1, q2, q3⟩ := KK.out _ hb1
         clear hb1 k0 k1 k2 k3
         go_wp2
         go_ret
         exact ⟨by rw [HE.out]; rfl, HB1.out⟩)
      | (have HE : Hid (E = true) := by
           show _ = _
           rw [← hE]
           simp [isTy, fitB]
         clear hE
         go_enter Tryz.func132, Tryz.ntmps132
         go_wp2_with fail
         refine (HC0.out W).mono ?_
         rintro e w1 ⟨rfl, hb1⟩
         have HB1 := Lib.hid (btr HBel.out hb1)
         obtain ⟨q0, q1, q2, q3⟩ := KK.out _ hb1
         clear hb1 k0 k1 k2 k3
         go_wp2
         go_ret
         exact ⟨by rw [HE.out]; rfl, HB1.out⟩)
      | (have HE : Hid (E = (d == 1)) := by
           show _ = _
           rw [← hE]
           simp [isTy, fitB]
         clear hE
         go_enter Tryz.func132, Tryz.ntmps132
         go_wp2_with fail
         refine (HC0.out W).mono ?_
         rintro e w1 ⟨rfl, hb1⟩
         have HB1 := Lib.hid (btr HBel.out hb1)
         obtain ⟨q0, q1, q2, q3⟩ := KK.out _ hb1
         clear hb1 k0 k1 k2 k3
         go_wp2
         go_ret
         exact ⟨by rw [HE.out]; rfl, HB1.out⟩)
  · have HC0 : Hid (∀ W, Calls Tryz.prog 166 #[V k n d s] W fun e w' => e = .returned (.int .i64 2) ∧ Below W.heap.size W w') := fun W => by
      have h9 := HC.out W
      rw [show okB k n d s = false by simpa using hok] at h9
      exact h9
    have HE : Hid (E = false) := by
      show _ = _
      rw [← hE, show okB k n d s = false by simpa using hok]
      simp
    clear hok HC hE
    go_enter Tryz.func132, Tryz.ntmps132
    go_wp2_with fail
    refine (HC0.out W).mono ?_
    rintro e w1 ⟨rfl, hb1⟩
    have HB1 := Lib.hid (btr HBel.out hb1)
    clear hb1 k0 k1 k2 k3
    go_wp2
    go_ret
    exact ⟨by rw [HE.out]; rfl, HB1.out⟩

end Go.Proofs.YtoippldgoehpcaaGreatDoor
end

/- The reference's error of a cell. -/
section
namespace Go.Proofs.YtoippldgoehpcaaGreatDoor
open Go Go.RowKit Go.Deep

set_option maxRecDepth 100000 in
set_option maxHeartbeats 4000000 in
theorem r_Cell (w : World) (A B P Q : Option Addr) (n cap m bcap ln pc vl qc : Nat) (nm : Nat → ByteArray) (lo hi : Nat → Int) (an : Nat → ByteArray) (ty x vk vn vd : Nat → Int) (vs : Nat → ByteArray) (hd : DimsAt w A n nm lo hi) (ha : AttrsAt w B m an ty) (hx : IntsAt w P ln x) (hv : ValsAt w Q vl vk vn vd vs) (hn : n ≤ 1000) (hm : m ≤ 1000) (hl : ln ≤ 1000) (hs : ∀ j, j < vl → (vs j).size ≤ 9223372036854775807) :
    Calls Tryz.prog 73 #[.slice A n cap, .slice B m bcap, CelV P ln pc Q vl qc] w fun e w' => e = .returned (.int .i64 (cellE lo hi n ty m x ln vk vn vd vs vl)) ∧ Below w.heap.size w w' := by
  have KB := Lib.hid (cel_box w (.slice P ln pc) (.slice Q vl qc) 41)
  have HB : Hid (Below w.heap.size w (w.alloc (.cells #[.slice P ln pc, .slice Q vl qc] 41))) := (Below.refl _ _).alloc (Nat.le_refl _) _
  have HP : Hid (∀ W, Below w.heap.size w W → Calls Tryz.prog 105 #[.slice A n cap, .slice P ln pc] W fun e w' => e = .returned (.bool (ofB lo hi x n ln)) ∧ Below W.heap.size W w') := fun W hW => r_Of W A P n cap ln pc nm lo hi x (hd.below hW) (hx.below hW) hn hl
  have HF := Lib.hid r_Fits
  have HSz := Lib.hid hs
  have HA := Lib.hid ha
  have HV := Lib.hid hv
  obtain ⟨ve, hve⟩ : ∃ ve, cellE lo hi n ty m x ln vk vn vd vs vl = ve := ⟨_, rfl⟩
  rw [hve]
  have HE : Hid (ve = cellE lo hi n ty m x ln vk vn vd vs vl) := hve.symm
  clear hd ha hx hv hve hl hs
  by_cases h0 : ln = n
  · by_cases h1 : vl = m
    · subst h0 h1
      have HE1 : Hid (ve = if ofB lo hi x ln ln = false then 3 else if fitTo ty vk vn vd vs vl = true then 0 else 12) := by
        show _ = _
        rw [HE.out, cellE, if_neg (by simp)]
        have e1 : placeEr lo hi x ln ln = rangeE (inTo lo hi x ln) := if_neg (by simp)
        have e2 : ofB lo hi x ln ln = inTo lo hi x ln := by rw [ofB, beq_self_eq_true, Bool.true_and]
        rw [e1, e2]
        cases inTo lo hi x ln <;> rfl
      clear HE
      generalize ofB lo hi x ln ln = pe at *
      go_enter Tryz.func73, Tryz.ntmps73
      go_wp2_with fail
      generalize w.alloc (.cells #[.slice P ln pc, .slice Q vl qc] 41) = W0 at *
      obtain ⟨l0, l1⟩ := KB.out W0 (Below.refl _ _)
      go_wp2_with fail
      refine (HP.out _ HB.out).mono ?_
      rintro e w1 ⟨rfl, hb1⟩
      clear l0 l1
      obtain ⟨l0, l1⟩ := KB.out w1 hb1
      have HB1 : Hid (Below w.heap.size w w1) := st HB.out hb1
      clear HB
      cases pe
      · have HE2 : Hid (ve = 3) := HE1.out
        go_wp2
        go_ret
        exact ⟨by rw [HE2.out]; rfl, HB1.out⟩
      · have HE2 : Hid (ve = if fitTo ty vk vn vd vs vl = true then 0 else 12) := by show _ = _; rw [HE1.out, if_neg (by simp)]
        clear HE1
        go_wp2_with fail
        have KB1 : Hid (∀ W, Below w1.heap.size w1 W → W.cell? ⟨w.heap.size, 0, none⟩ = some (.slice P ln pc) ∧ W.cell? ⟨w.heap.size, 1, none⟩ = some (.slice Q vl qc)) := fun W hW => KB.out W (hb1.trans (hW.mono hb1.size))
        clear l0 l1
        go_loopw [7] (fun i wr => ∃ k : Nat, k ≤ vl ∧ i = .int .i64 k ∧ Hid (fitTo ty vk vn vd vs k = true) ∧ Hid (Below w1.heap.size w1 wr)) (fun i _ => vl - (intOf i).toNat)
        case atStart => exact ⟨0, Nat.zero_le _, rfl, rfl, Below.refl _ _⟩
        case round =>
          obtain ⟨k, hk, rfl, HK, HBr⟩ := hrel
          have HBw : Hid (Below w.heap.size w wr) := st HB1.out HBr.out
          by_cases hlt : k < vl
          · obtain ⟨bv, ov, rfl, hbv, hcv⟩ := (HV.out.below HBw.out) (by omega)
            obtain ⟨x0, x1, x2, x3⟩ := hcv k hlt
            obtain ⟨ba, oa, rfl, hba, hca⟩ := (HA.out.below HBw.out) (by omega)
            obtain ⟨y0, y1⟩ := hca k hlt
            clear hcv hca
            have HS : Hid (fitTo ty vk vn vd vs (k + 1) = (isTy (ty k) && (okB (vk k) (vn k) (vd k) (vs k) && fitB (vk k) (vd k) (ty k)))) := by show _ = _; rw [fitTo, HK.out, Bool.true_and]
            have HFk := Lib.hid (fun W => HF.out (vk k) (vn k) (vd k) (vs k) (ty k) W (HSz.out k hlt))
            generalize (isTy (ty k) && (okB (vk k) (vn k) (vd k) (vs k) && fitB (vk k) (vd k) (ty k))) = rs at *
            generalize vk k = k9 at *
            generalize vn k = n9 at *
            generalize vd k = d9 at *
            generalize vs k = s9 at *
            generalize ty k = t9 at *
            generalize an k = a9 at *
            have KV : Hid (∀ W, Below wr.heap.size wr W → (W.cell? ⟨bv, ov + k * 4, none⟩ = some (.int .i64 k9) ∧ W.cell? ⟨bv, ov + k * 4 + 1, none⟩ = some (.int .i64 n9) ∧ W.cell? ⟨bv, ov + k * 4 + 2, none⟩ = some (.int .i64 d9) ∧ W.cell? ⟨bv, ov + k * 4 + 3, none⟩ = some (.string s9)) ∧ W.cell? ⟨ba, oa + k * 2 + 1, none⟩ = some (.int .i64 t9) ∧ W.cell? ⟨w.heap.size, 1, none⟩ = some (.slice (some ⟨bv, ov, none⟩) vl qc)) := fun W hW =>
              ⟨⟨(hW.cell (p := ⟨bv, ov + k * 4, none⟩) hbv).trans x0, (hW.cell (p := ⟨bv, ov + k * 4 + 1, none⟩) hbv).trans x1, (hW.cell (p := ⟨bv, ov + k * 4 + 2, none⟩) hbv).trans x2, (hW.cell (p := ⟨bv, ov + k * 4 + 3, none⟩) hbv).trans x3⟩, (hW.cell (p := ⟨ba, oa + k * 2 + 1, none⟩) hba).trans y1, (KB1.out W (st HBr.out hW)).2⟩
            clear x0 x1 x2 x3 y0 y1
            have B0d : Below wr.heap.size wr wr.drew := Below.drew (Below.refl _ _)
            have hk4 : (k : Int) < (vl : Int) := by omega
            go_wp2_with fail
            cases rs
            · have HR : Hid (ve = 12) := by show _ = _; rw [HE2.out, if_neg (by rw [fitTo_le (k := k + 1) HS.out (by omega)]; simp)]
              go_region_held3 (fun W => (W.cell? ⟨bv, ov + k * 4, none⟩ = some (.int .i64 k9) ∧ W.cell? ⟨bv, ov + k * 4 + 1, none⟩ = some (.int .i64 n9) ∧ W.cell? ⟨bv, ov + k * 4 + 2, none⟩ = some (.int .i64 d9) ∧ W.cell? ⟨bv, ov + k * 4 + 3, none⟩ = some (.string s9)) ∧ W.cell? ⟨ba, oa + k * 2 + 1, none⟩ = some (.int .i64 t9) ∧ W.cell? ⟨w.heap.size, 1, none⟩ = some (.slice (some ⟨bv, ov, none⟩) vl qc))
                (first | exact KV.out _ B1 | exact KV.out _ B0d | exact KV.out _ (Below.refl _ _))
                (first
                  | (go_at_call 132; refine (HFk.out _).mono ?_; rintro e w2 ⟨rfl, hb2⟩; have B1 : Below wr.heap.size wr w2 := st B0d hb2))
              all_goals
                go_wp2
                go_ret
                exact ⟨by rw [HR.out]; rfl, st HBw.out B1⟩
            · go_region_held3 (fun W => (W.cell? ⟨bv, ov + k * 4, none⟩ = some (.int .i64 k9) ∧ W.cell? ⟨bv, ov + k * 4 + 1, none⟩ = some (.int .i64 n9) ∧ W.cell? ⟨bv, ov + k * 4 + 2, none⟩ = some (.int .i64 d9) ∧ W.cell? ⟨bv, ov + k * 4 + 3, none⟩ = some (.string s9)) ∧ W.cell? ⟨ba, oa + k * 2 + 1, none⟩ = some (.int .i64 t9) ∧ W.cell? ⟨w.heap.size, 1, none⟩ = some (.slice (some ⟨bv, ov, none⟩) vl qc))
                (first | exact KV.out _ B1 | exact KV.out _ B0d | exact KV.out _ (Below.refl _ _))
                (first
                  | (go_at_call 132; refine (HFk.out _).mono ?_; rintro e w2 ⟨rfl, hb2⟩; have B1 : Below wr.heap.size wr w2 := st B0d hb2))
              all_goals
                go_wp2
                go_roundw
                case rel => exact ⟨k + 1, by omega, by go_num, HS, st HBr.out B1⟩
                case measure => simp [intOf]; omega
          · obtain rfl : k = vl := by omega
            obtain ⟨l0, l1⟩ := KB1.out wr HBr.out
            go_wp2
            go_ret
            exact ⟨by rw [HE2.out, if_pos HK.out]; rfl, HBw.out⟩
    · have HR : Hid (ve = 13) := by show _ = _; rw [HE.out, cellE, if_pos (.inr h1)]
      have h2 : ((vl : Int) != (m : Int)) = true := by rw [bne_iff_ne]; omega
      subst h0
      clear HE
      go_enter Tryz.func73, Tryz.ntmps73
      go_wp2
      go_ret
      exact ⟨by rw [HR.out]; rfl, HB.out⟩
  · have HR : Hid (ve = 13) := by show _ = _; rw [HE.out, cellE, if_pos (.inl h0)]
    have h2 : ((ln : Int) != (n : Int)) = true := by rw [bne_iff_ne]; omega
    clear HE
    go_enter Tryz.func73, Tryz.ntmps73
    go_wp2
    go_ret
    exact ⟨by rw [HR.out]; rfl, HB.out⟩
end Go.Proofs.YtoippldgoehpcaaGreatDoor
end

/- The reference's comparison of coordinates. -/
section
namespace Go.Proofs.YtoippldgoehpcaaGreatDoor
open Go Go.RowKit Go.Deep

set_option maxRecDepth 100000 in
set_option maxHeartbeats 2000000 in
theorem r_Compare (w : World) (A B : Option Addr) (n c m d : Nat) (f g : Nat → Int) (ha : IntsAt w A n f) (hb : IntsAt w B m g) (hn : n ≤ 1000000) (hm : m ≤ 1000000) :
    Calls Tryz.prog 28 #[.slice A n c, .slice B m d] w fun e w' => e = .returned (.int .i64 (cmpS n m f g)) ∧ Below w.heap.size w w' := by
  have HA := Lib.hid ha
  have HB := Lib.hid hb
  obtain ⟨ve, hve⟩ : ∃ ve, cmpS n m f g = ve := ⟨_, rfl⟩
  rw [hve]
  have HV : Hid (ve = if cmpTo f g m n = 0 then (if n < m then -1 else 0) else cmpTo f g m n) := hve.symm
  clear ha hb hve
  go_enter Tryz.func28, Tryz.ntmps28
  go_wp2
  go_loopw [5] (fun i wr => ∃ k : Nat, k ≤ n ∧ k ≤ m ∧ i = .int .i64 k ∧ Hid (cmpTo f g m k = 0) ∧ Hid (Below w.heap.size w wr)) (fun i _ => n - (intOf i).toNat)
  case atStart => exact ⟨0, Nat.zero_le _, Nat.zero_le _, rfl, rfl, Below.refl _ _⟩
  case round =>
    obtain ⟨k, hk, hkm, rfl, HK, HBw⟩ := hrel
    by_cases hlt : k < n
    · have HS : Hid (cmpTo f g m (k + 1) = if m ≤ k then 1 else Lib.compareInt (f k) (g k)) := by show _ = _; rw [cmpTo, if_pos HK.out]
      by_cases hlm : k < m
      · obtain ⟨b1, o1, rfl, _, hc1⟩ := (HA.out.below HBw.out) (by omega)
        have x0 := hc1 k hlt
        obtain ⟨b2, o2, rfl, _, hc2⟩ := (HB.out.below HBw.out) (by omega)
        have y0 := hc2 k hlm
        clear hc1 hc2
        rw [if_neg (by omega)] at HS
        have HE : Hid (Lib.compareInt (f k) (g k) ≠ 0 → ve = Lib.compareInt (f k) (g k)) := fun h => by
          have h1 := cmpTo_le (f := f) (g := g) (m := m) (k := k + 1) (n := n) (by rw [HS.out]; exact h) (by omega)
          rw [HV.out, h1, HS.out, if_neg h]
        have hx0 : ∀ W, Below wr.heap.size wr W → True := fun _ _ => trivial
        have HCW : Hid (∀ n9, (wr.drewN n9).cell? ⟨b1, o1 + k, none⟩ = some (.int .i64 (f k)) ∧ (wr.drewN n9).cell? ⟨b2, o2 + k, none⟩ = some (.int .i64 (g k))) := fun n9 => ⟨x0, y0⟩
        clear hx0
        have HD : Hid (Lib.compareInt (f k) (g k) = if f k < g k then -1 else if g k < f k then 1 else 0) := rfl
        generalize f k = x at *
        generalize g k = y at *
        by_cases g1 : x < y
        · have HF : Hid (ve = -1) := by
            have h9 : Lib.compareInt x y = -1 := by rw [HD.out, if_pos g1]
            rw [h9] at HE
            exact HE.out (by decide)
          go_wp2
          go_quiet (fail)
          go_wp2
          go_ret
          exact ⟨by rw [HF.out]; rfl, drewB HBw.out _⟩
        · by_cases g2 : y < x
          · have HF : Hid (ve = 1) := by
              have h9 : Lib.compareInt x y = 1 := by rw [HD.out, if_neg g1, if_pos g2]
              rw [h9] at HE
              exact HE.out (by decide)
            have g3 : x > y := g2
            clear HE HD HS
            go_wp2
            go_quiet (fail)
            have HB1 : Hid (Below w.heap.size w (wr.drewN nq)) := drewB HBw.out _
            obtain ⟨x1, y1⟩ := HCW.out nq
            clear x0 y0 HCW
            generalize wr.drewN nq = wq at *
            go_wp2
            go_quiet (fail)
            go_wp2
            go_ret
            exact ⟨by rw [HF.out]; rfl, drewB HB1.out _⟩
          · have HR : Hid (cmpTo f g m (k + 1) = 0) := by show _ = _; rw [HS.out, HD.out, if_neg g1, if_neg g2]
            have g3 : ¬ x > y := g2
            clear HE HD HS
            go_wp2
            go_quiet (fail)
            have HB1 : Hid (Below w.heap.size w (wr.drewN nq)) := drewB HBw.out _
            obtain ⟨x1, y1⟩ := HCW.out nq
            clear x0 y0 HCW
            generalize wr.drewN nq = wq at *
            go_wp2
            go_quiet (fail)
            go_wp2
            go_roundw
            case rel => exact ⟨k + 1, by omega, by omega, by go_num, HR.out, drewB HB1.out _⟩
            case measure => simp [intOf]; omega
      · have HF : Hid (ve = 1) := by
          show _ = _
          have h1 : cmpTo f g m (k + 1) = 1 := by rw [HS.out, if_pos (by omega)]
          rw [HV.out, cmpTo_le (k := k + 1) (by rw [h1]; decide) (by omega), h1]; rfl
        have h2 : ¬ (k : Int) < (m : Int) := by omega
        have h3 : ¬ (n : Int) < (m : Int) := by omega
        have h4 : (n : Int) > (m : Int) := by omega
        go_wp2
        go_ret
        exact ⟨by rw [HF.out]; rfl, HBw.out⟩
    · obtain rfl : k = n := by omega
      rw [if_pos HK.out] at HV
      by_cases hkm2 : k < m
      · rw [if_pos hkm2] at HV
        have hkm' : (k : Int) < (m : Int) := by omega
        go_wp2
        go_ret
        exact ⟨by rw [HV.out]; rfl, HBw.out⟩
      · rw [if_neg hkm2] at HV
        have hkm' : ¬ (k : Int) < (m : Int) := by omega
        have hkm3 : ¬ (k : Int) > (m : Int) := by omega
        go_wp2
        go_ret
        exact ⟨by rw [HV.out]; rfl, HBw.out⟩
end Go.Proofs.YtoippldgoehpcaaGreatDoor
end

/- The reference's schemas. -/
section
namespace Go.Proofs.YtoippldgoehpcaaGreatDoor
open Go Go.RowKit Go.Deep

set_option maxRecDepth 100000 in
set_option maxHeartbeats 2000000 in
theorem r_taken (w : World) (A B : Option Addr) (n cap m bcap : Nat) (nm : Nat → ByteArray) (lo hi : Nat → Int) (an : Nat → ByteArray) (ty : Nat → Int) (hd : DimsAt w A n nm lo hi) (ha : AttrsAt w B m an ty) (j : Nat) (hj : j ≤ m) (s : ByteArray) (hn : n ≤ 1000) (hm : m ≤ 1000) :
    Calls Tryz.prog 131 #[.slice A n cap, .slice B m bcap, .int .i64 j, .string s] w fun e w' => e = .returned (.bool (dupTo nm s n || dupTo an s j)) ∧ w' = w := by
  have HD := Lib.hid hd
  have HA := Lib.hid ha
  obtain ⟨v, hv⟩ : ∃ v, (dupTo nm s n || dupTo an s j) = v := ⟨_, rfl⟩
  rw [hv]
  have HV := Lib.hid hv
  clear hd ha hv
  go_enter Tryz.func131, Tryz.ntmps131
  go_wp2
  go_loopw [9] (fun i wr => ∃ k : Nat, k ≤ n ∧ i = .int .i64 k ∧ Hid (dupTo nm s k = false) ∧ wr = w) (fun i _ => n - (intOf i).toNat)
  case atStart => exact ⟨0, Nat.zero_le _, rfl, rfl, rfl⟩
  case round =>
    obtain ⟨k, hk, rfl, HK, hw⟩ := hrel
    have hw := hw.symm
    subst hw
    by_cases hlt : k < n
    · obtain ⟨bd, o, rfl, hbd, hc⟩ := HD.out (by omega)
      have c0 := (hc k hlt).1
      clear hc
      have HU : Hid (dupTo nm s (k + 1) = decide (nm k = s)) := by show _ = _; rw [dupTo, HK.out, Bool.false_or]
      have HUl : Hid (dupTo nm s (k + 1) = true → dupTo nm s n = true) := fun h => dupTo_le h (by omega)
      generalize nm k = t at *
      by_cases he : t = s
      · subst he
        have HT : Hid (v = true) := by show _ = _; rw [← HV.out, HUl.out (by rw [HU.out, decide_eq_true rfl])]; rfl
        go_wp2
        go_ret
        exact ⟨by rw [HT.out]; rfl, rfl⟩
      · have h5 : (t.toList == s.toList) = false := by
          cases h6 : t.toList == s.toList
          · rfl
          · exact absurd (str_eq h6) he
        have HR : Hid (dupTo nm s (k + 1) = false) := by show _ = _; rw [HU.out, decide_eq_false he]
        go_wp2
        go_roundw
        case rel => exact ⟨k + 1, by omega, by go_num, HR.out, by first | rfl | trivial⟩
        case measure => simp [intOf]; omega
    · obtain rfl : k = n := by omega
      have HV2 : Hid (v = dupTo an s j) := by show _ = _; rw [← HV.out, HK.out]; rfl
      go_wp2
      go_loopw [10] (fun i wr => ∃ k : Nat, k ≤ j ∧ i = .int .i64 k ∧ Hid (dupTo an s k = false) ∧ wr = w) (fun i _ => j - (intOf i).toNat)
      case atStart => exact ⟨0, Nat.zero_le _, rfl, rfl, rfl⟩
      case round =>
        obtain ⟨i, hi2, rfl, HI, hw⟩ := hrel
        have hw := hw.symm
        subst hw
        by_cases hlt2 : i < j
        · obtain ⟨bd, o, rfl, hbd, hc⟩ := HA.out (by omega)
          have c0 := (hc i (by omega)).1
          clear hc
          have HU : Hid (dupTo an s (i + 1) = decide (an i = s)) := by show _ = _; rw [dupTo, HI.out, Bool.false_or]
          have HUl : Hid (dupTo an s (i + 1) = true → dupTo an s j = true) := fun h => dupTo_le h (by omega)
          generalize an i = t at *
          by_cases he : t = s
          · subst he
            have HT : Hid (v = true) := by show _ = _; rw [HV2.out, HUl.out (by rw [HU.out, decide_eq_true rfl])]
            go_wp2
            go_ret
            exact ⟨by rw [HT.out]; rfl, rfl⟩
          · have h5 : (t.toList == s.toList) = false := by
              cases h6 : t.toList == s.toList
              · rfl
              · exact absurd (str_eq h6) he
            have HR : Hid (dupTo an s (i + 1) = false) := by show _ = _; rw [HU.out, decide_eq_false he]
            go_wp2
            go_roundw
            case rel => exact ⟨i + 1, by omega, by go_num, HR.out, by first | rfl | trivial⟩
            case measure => simp [intOf]; omega
        · obtain rfl : i = j := by omega
          go_wp2
          go_ret
          exact ⟨by rw [HV2.out, HI.out]; rfl, rfl⟩

theorem dup_in2 (M : List ByteArray) (nm : Nat → ByteArray) (s : ByteArray) : ∀ k, inN (metK M nm k) s = (inN M s || dupTo nm s k)
  | 0 => by rw [dupTo, Bool.or_false]; rfl
  | k + 1 => by
    have ih := dup_in2 M nm s k
    rw [dupTo, ← Bool.or_assoc, ← ih]
    by_cases h : nm k = s
    · rw [decide_eq_true h, Bool.or_true]
      exact inN_true.2 (by rw [metK, h]; exact List.mem_cons_self)
    · rw [decide_eq_false h, Bool.or_false]
      cases h2 : inN (metK M nm k) s
      · exact inN_false.2 (by rw [metK]; intro h3; rcases List.mem_cons.1 h3 with h4 | h4; · exact h h4.symm
                              · exact inN_false.1 h2 h4)
      · exact inN_true.2 (by rw [metK]; exact List.mem_cons_of_mem _ (inN_true.1 h2))
theorem attrE_of (nm an : Nat → ByteArray) (s : ByteArray) (n k : Nat) (t : Int) : attrE (metK (metK [] nm n) an k) s t = if nameB s = false then 11 else if (dupTo nm s n || dupTo an s k) = true then 11 else if t < 1 ∨ 4 < t then 12 else 0 := by
  rw [attrE, dup_in2, dup_in]
  cases h1 : nameB s
  · rfl
  · cases h2 : (dupTo nm s n || dupTo an s k)
    · rfl
    · rfl

set_option maxRecDepth 100000 in
set_option maxHeartbeats 4000000 in
theorem r_Schema (w : World) (A B : Option Addr) (n cap m bcap : Nat) (nm : Nat → ByteArray) (lo hi : Nat → Int) (an : Nat → ByteArray) (ty : Nat → Int) (hd : DimsAt w A n nm lo hi) (ha : AttrsAt w B m an ty) (hs : ∀ k, k < n → (nm k).size ≤ 9223372036854775807) (hs2 : ∀ k, k < m → (an k).size ≤ 9223372036854775807) (hn10 : n ≤ 1000) (hm10 : m ≤ 1000) :
    Calls Tryz.prog 72 #[.slice A n cap, .slice B m bcap] w fun e w' => e = .returned (.int .i64 (schE nm lo hi n an ty m)) ∧ Below w.heap.size w w' := by
  have HA := Lib.hid ha
  have HDm := Lib.hid (r_Dims w A n cap nm lo hi hd hs hn10)
  have HTk : Hid (∀ W j s, Below w.heap.size w W → j ≤ m → Calls Tryz.prog 131 #[.slice A n cap, .slice B m bcap, .int .i64 (j : Nat), .string s] W fun e w' => e = .returned (.bool (dupTo nm s n || dupTo an s j)) ∧ w' = W) := fun W j s hW hj => r_taken W A B n cap m bcap nm lo hi an ty (hd.below hW) (ha.below hW) j hj s hn10 hm10
  have HNm := Lib.hid r_Name
  have HS := Lib.hid hs2
  obtain ⟨ve, hve⟩ : ∃ ve, schE nm lo hi n an ty m = ve := ⟨_, rfl⟩
  rw [hve]
  have HV : Hid (ve = if dimsZ nm lo hi n ≠ 0 then dimsZ nm lo hi n else if m = 0 ∨ 6 < m then 9 else attrsTo (metK [] nm n) an ty m) := hve.symm
  clear hd ha hs hs2 hve
  by_cases h0 : dimsZ nm lo hi n = 0
  · have HV2 : Hid (ve = if m = 0 ∨ 6 < m then 9 else attrsTo (metK [] nm n) an ty m) := by show _ = _; rw [HV.out, if_neg (by rw [h0]; simp)]
    rw [h0] at HDm
    clear h0 HV
    by_cases h1 : m = 0 ∨ 6 < m
    · have HR : Hid (ve = 9) := HV2.out.trans (if_pos h1)
      clear HV2
      go_enter Tryz.func72, Tryz.ntmps72
      go_wp2_with fail
      refine HDm.out.mono ?_
      rintro e w1 ⟨rfl, hb1⟩
      rcases h1 with rfl | h1
      · go_wp2
        go_ret
        exact ⟨by rw [HR.out]; rfl, hb1⟩
      · have h2 : ¬ (m : Int) < 1 := by omega
        have h3 : (m : Int) > 6 := by omega
        clear h1
        go_wp2
        go_ret
        exact ⟨by rw [HR.out]; rfl, hb1⟩
    · have HR : Hid (ve = attrsTo (metK [] nm n) an ty m) := HV2.out.trans (if_neg h1)
      have h2 : ¬ (m : Int) < 1 := by omega
      have h3 : ¬ (m : Int) > 6 := by omega
      clear HV2 h1
      go_enter Tryz.func72, Tryz.ntmps72
      go_wp2_with fail
      refine HDm.out.mono ?_
      rintro e w1 ⟨rfl, hb1⟩
      have HB1 := Lib.hid hb1
      clear hb1 HDm
      go_wp2
      go_loopw [6] (fun i wr => ∃ k : Nat, k ≤ m ∧ i = .int .i64 k ∧ Hid (attrsTo (metK [] nm n) an ty k = 0) ∧ Hid (Below w.heap.size w wr)) (fun i _ => m - (intOf i).toNat)
      case atStart => exact ⟨0, Nat.zero_le _, rfl, rfl, HB1.out⟩
      case round =>
        obtain ⟨k, hk, rfl, HK, HB⟩ := hrel
        by_cases hlt : k < m
        · obtain ⟨bd, o, rfl, hbd, hc⟩ := (HA.out.below HB.out) (by omega)
          obtain ⟨c0, c1⟩ := hc k hlt
          clear hc
          have HT : Hid (attrsTo (metK [] nm n) an ty (k + 1) = if nameB (an k) = false then 11 else if (dupTo nm (an k) n || dupTo an (an k) k) = true then 11 else if ty k < 1 ∨ 4 < ty k then 12 else 0) := by show _ = _; rw [attrsTo, if_pos HK.out, attrE_of]
          have HE : Hid (attrsTo (metK [] nm n) an ty (k + 1) ≠ 0 → ve = attrsTo (metK [] nm n) an ty (k + 1)) := fun h => by rw [HR.out]; exact attrsTo_le h (by omega)
          have HNk := Lib.hid (fun W => HNm.out (an k) W (HS.out k hlt))
          have HTkk := Lib.hid (HTk.out wr k (an k) HB.out hk)
          obtain ⟨D, hDe⟩ : ∃ D, attrsTo (metK [] nm n) an ty (k + 1) = D := ⟨_, rfl⟩
          have HDe := Lib.hid hDe
          rw [hDe] at HE HT
          clear hDe
          generalize (dupTo nm (an k) n || dupTo an (an k) k) = u at *
          generalize an k = s at *
          generalize ty k = t at *
          cases hb : nameB s
          · rw [hb] at HNk
            have HD1 : Hid (ve = 11) := by
              have h9 : D = 11 := by rw [HT.out, if_pos hb]
              exact (HE.out (by rw [h9]; decide)).trans h9
            go_wp2_with fail
            refine (HNk.out _).mono ?_
            rintro e w2 ⟨rfl, rfl⟩
            go_wp2
            go_ret
            exact ⟨by rw [HD1.out]; rfl, HB.out⟩
          · rw [hb] at HNk
            have HT2 : Hid (D = if u = true then 11 else if t < 1 ∨ 4 < t then 12 else 0) := by show _ = _; rw [HT.out, if_neg (by rw [hb]; decide)]
            clear hb HT
            cases u
            · have HT3 : Hid (D = if t < 1 ∨ 4 < t then 12 else 0) := HT2.out
              go_wp2_with fail
              refine (HNk.out _).mono ?_
              rintro e w2 ⟨rfl, rfl⟩
              go_wp2_with fail
              refine HTkk.out.mono ?_
              rintro e w2 ⟨rfl, rfl⟩
              by_cases g1 : t < 1
              · have HD1 : Hid (ve = 12) := by
                  have h9 : D = 12 := by rw [HT3.out, if_pos (by omega)]
                  exact (HE.out (by rw [h9]; decide)).trans h9
                go_wp2
                go_ret
                exact ⟨by rw [HD1.out]; rfl, HB.out⟩
              · by_cases g2 : t > 4
                · have HD1 : Hid (ve = 12) := by
                    have h9 : D = 12 := by rw [HT3.out, if_pos (by omega)]
                    exact (HE.out (by rw [h9]; decide)).trans h9
                  go_wp2
                  go_ret
                  exact ⟨by rw [HD1.out]; rfl, HB.out⟩
                · have HD1 : Hid (D = 0) := by show _ = _; rw [HT3.out, if_neg (by omega)]
                  go_wp2
                  go_roundw
                  case rel => exact ⟨k + 1, by omega, by go_num, HDe.out.trans HD1.out, HB.out⟩
                  case measure => simp [intOf]; omega
            · have HD1 : Hid (ve = 11) := by
                have h9 : D = 11 := HT2.out
                exact (HE.out (by rw [h9]; decide)).trans h9
              go_wp2_with fail
              refine (HNk.out _).mono ?_
              rintro e w2 ⟨rfl, rfl⟩
              go_wp2_with fail
              refine HTkk.out.mono ?_
              rintro e w2 ⟨rfl, rfl⟩
              go_wp2
              go_ret
              exact ⟨by rw [HD1.out]; rfl, HB.out⟩
        · obtain rfl : k = m := by omega
          go_wp2
          go_ret
          exact ⟨by rw [HR.out, HK.out]; rfl, HB.out⟩
  · have HE : Hid (ve = dimsZ nm lo hi n) := by show _ = _; rw [HV.out, if_pos h0]
    generalize dimsZ nm lo hi n = E at *
    have h1 : (E != 0) = true := by rw [bne_iff_ne]; exact h0
    clear h0 HV
    go_enter Tryz.func72, Tryz.ntmps72
    go_wp2_with fail
    refine HDm.out.mono ?_
    rintro e w1 ⟨rfl, hb1⟩
    go_wp2
    go_ret
    exact ⟨by rw [HE.out]; rfl, hb1⟩
end Go.Proofs.YtoippldgoehpcaaGreatDoor
end

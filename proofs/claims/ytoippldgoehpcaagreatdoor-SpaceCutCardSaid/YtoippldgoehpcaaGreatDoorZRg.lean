/- The reference's error of an array. -/
import Derived.Test.YtoippldgoehpcaaGreatDoorZRfS
import Derived.Test.YtoippldgoehpcaaGreatDoorZPrt2
import Derived.Test.YtoippldgoehpcaaGreatDoorZSch
import Derived.Test.YtoippldgoehpcaaGreatDoorZSpE
import Derived.Test.YtoippldgoehpcaaGreatDoorZRfD

/- The reference's error of an array. -/
section
namespace Go.Proofs.YtoippldgoehpcaaGreatDoor
open Go Go.RowKit Go.Deep

theorem cmpTo_three (f g : Nat → Int) (m : Nat) : ∀ k, cmpTo f g m k = -1 ∨ cmpTo f g m k = 0 ∨ cmpTo f g m k = 1
  | 0 => .inr (.inl rfl)
  | k + 1 => by
    rw [cmpTo]
    split
    · split
      · exact .inr (.inr rfl)
      · unfold Lib.compareInt
        split
        · exact .inl rfl
        · split
          · exact .inr (.inr rfl)
          · exact .inr (.inl rfl)
    · exact cmpTo_three f g m k
theorem cmpS_three (n m : Nat) (f g : Nat → Int) : cmpS n m f g = -1 ∨ cmpS n m f g = 0 ∨ cmpS n m f g = 1 := by
  unfold cmpS
  split
  · split
    · exact .inl rfl
    · exact .inr (.inl rfl)
  · exact cmpTo_three f g m n
set_option maxRecDepth 100000 in
set_option maxHeartbeats 4000000 in
theorem ra_Check (w : World) (A B C : Option Addr) (n cap m bcap N ccap : Nat) (nm : Nat → ByteArray) (lo hi : Nat → Int) (an : Nat → ByteArray) (ty : Nat → Int) (ln vl : Nat → Nat) (x vk vn vd : Nat → Nat → Int) (vs : Nat → Nat → ByteArray)
    (hd : DimsAt w A n nm lo hi) (ha : AttrsAt w B m an ty) (hc : CellsAt w C N ln vl x vk vn vd vs) (hn : n ≤ 1000) (hm : m ≤ 1000) (hN : N ≤ 1000000) (hs : ∀ k, k < n → (nm k).size ≤ 9223372036854775807) (hs2 : ∀ k, k < m → (an k).size ≤ 9223372036854775807) (hs3 : ∀ k, k < N → ∀ j, j < vl k → (vs k j).size ≤ 9223372036854775807) :
    Calls Tryz.prog 18 #[ArrV A n cap B m bcap C N ccap] w fun e w' => e = .returned (.int .i64 (checkE nm lo hi n an ty m N ln vl x vk vn vd vs)) ∧ Below w.heap.size w w' := by
  have KB := Lib.hid (arr_box w (.slice A n cap) (.slice B m bcap) (.slice C N ccap) 26)
  have HB : Hid (Below w.heap.size w (w.alloc (.cells #[.slice A n cap, .slice B m bcap, .slice C N ccap] 26))) := (Below.refl _ _).alloc (Nat.le_refl _) _
  have HM : Hid (∀ W, Below w.heap.size w W → Calls Tryz.prog 72 #[.slice A n cap, .slice B m bcap] W fun e w' => e = .returned (.int .i64 (schE nm lo hi n an ty m)) ∧ Below W.heap.size W w') := fun W hW => r_Schema W A B n cap m bcap nm lo hi an ty (hd.below hW) (ha.below hW) hs hs2 hn hm
  have HCe : Hid (∀ W P ln' pc Q vl' qc x' vk' vn' vd' vs', Below w.heap.size w W → IntsAt W P ln' x' → ValsAt W Q vl' vk' vn' vd' vs' → ln' ≤ 1000 → (∀ j, j < vl' → (vs' j).size ≤ 9223372036854775807) → Calls Tryz.prog 73 #[.slice A n cap, .slice B m bcap, CelV P ln' pc Q vl' qc] W fun e w' => e = .returned (.int .i64 (cellE lo hi n ty m x' ln' vk' vn' vd' vs' vl')) ∧ Below W.heap.size W w') := fun W P ln' pc Q vl' qc x' vk' vn' vd' vs' hW hx hv hl hs9 => r_Cell W A B P Q n cap m bcap ln' pc vl' qc nm lo hi an ty x' vk' vn' vd' vs' (hd.below hW) (ha.below hW) hx hv hn hm hl hs9
  have HCm := Lib.hid r_Compare
  have HC := Lib.hid hc
  have HS3 := Lib.hid hs3
  obtain ⟨ve, hve⟩ : ∃ ve, checkE nm lo hi n an ty m N ln vl x vk vn vd vs = ve := ⟨_, rfl⟩
  rw [hve]
  have HV := Lib.hid hve
  unfold checkE manyE at HV
  clear hd ha hve hc hs hs2 hs3
  generalize schE nm lo hi n an ty m = me at *
  go_enter Tryz.func18, Tryz.ntmps18
  go_wp2_with fail
  generalize w.alloc (.cells #[.slice A n cap, .slice B m bcap, .slice C N ccap] 26) = W0 at *
  obtain ⟨l0, l1, l2⟩ := KB.out W0 (Below.refl _ _)
  go_wp2_with fail
  refine (HM.out _ HB.out).mono ?_
  rintro e w1 ⟨rfl, hb1⟩
  have HB1 : Hid (Below w.heap.size w w1) := st HB.out hb1
  have KB1 : Hid (∀ W, Below w1.heap.size w1 W → W.cell? ⟨w.heap.size, 0, none⟩ = some (.slice A n cap) ∧ W.cell? ⟨w.heap.size, 1, none⟩ = some (.slice B m bcap) ∧ W.cell? ⟨w.heap.size, 2, none⟩ = some (.slice C N ccap)) := fun W hW => KB.out W (hb1.trans (hW.mono hb1.size))
  clear l0 l1 l2 KB HB HM hb1
  obtain ⟨l0, l1, l2⟩ := KB1.out w1 (Below.refl _ _)
  by_cases h0 : me = 0
  · subst h0
    by_cases h4 : 4096 < N
    · have HE : Hid (ve = 9) := by show _ = _; rw [← HV.out]; simp [h4]
      have h5 : (N : Int) > 4096 := by omega
      clear HV
      go_wp2
      go_ret
      exact ⟨by rw [HE.out]; rfl, HB1.out⟩
    have HV1 : Hid (cellsTo lo hi n ty m ln vl x vk vn vd vs N = ve) := by show _ = _; rw [← HV.out]; simp [h4]
    have h5 : ¬ (N : Int) > 4096 := by omega
    clear HV
    go_wp2_with fail
    clear l0 l1 l2
    go_loopw [4, 5, 6] (fun i _ _ wr => ∃ k : Nat, k ≤ N ∧ i = .int .i64 k ∧ Hid (cellsTo lo hi n ty m ln vl x vk vn vd vs k = 0) ∧ Hid (Below w1.heap.size w1 wr)) (fun i _ _ _ => N - (intOf i).toNat)
    case atStart => exact ⟨0, Nat.zero_le _, rfl, rfl, Below.refl _ _⟩
    case round =>
      obtain ⟨k, hk, rfl, HK, HBr⟩ := hrel
      have HBw : Hid (Below w.heap.size w wr) := st HB1.out HBr.out
      obtain ⟨l0, l1, l2⟩ := KB1.out wr HBr.out
      by_cases hlt : k < N
      · obtain ⟨bc, oc, rfl, hbc, hcc⟩ := (HC.out.below HBw.out) (by omega)
        obtain ⟨P, pc, Q, qc, x0, x1, x2, x3, x4⟩ := hcc k hlt
        have HCk : Hid (∀ W, Below wr.heap.size wr W → Calls Tryz.prog 73 #[.slice A n cap, .slice B m bcap, CelV P (ln k) pc Q (vl k) qc] W fun e w' => e = .returned (.int .i64 (cellE lo hi n ty m (x k) (ln k) (vk k) (vn k) (vd k) (vs k) (vl k))) ∧ Below W.heap.size W w') := fun W hW =>
          HCe.out _ P (ln k) pc Q (vl k) qc (x k) (vk k) (vn k) (vd k) (vs k) (st HBw.out hW) (x2.below hW) (x3.below hW) x4 (HS3.out k hlt)
        have KW : Hid (∀ W, Below wr.heap.size wr W → (W.cell? ⟨bc, oc + k * 2, none⟩ = some (.slice P (ln k) pc) ∧ W.cell? ⟨bc, oc + k * 2 + 1, none⟩ = some (.slice Q (vl k) qc)) ∧ W.cell? ⟨w.heap.size, 0, none⟩ = some (.slice A n cap) ∧ W.cell? ⟨w.heap.size, 1, none⟩ = some (.slice B m bcap) ∧ W.cell? ⟨w.heap.size, 2, none⟩ = some (.slice (some ⟨bc, oc, none⟩) N ccap)) := fun W hW =>
          ⟨⟨(hW.cell (p := ⟨bc, oc + k * 2, none⟩) hbc).trans x0, (hW.cell (p := ⟨bc, oc + k * 2 + 1, none⟩) hbc).trans x1⟩, KB1.out W (st HBr.out hW)⟩
        have HS : Hid (cellsTo lo hi n ty m ln vl x vk vn vd vs (k + 1) = cellsE lo hi n ty m ln vl x vk vn vd vs k) := by show _ = _; rw [cellsTo, if_pos HK.out]
        have HEr : Hid (cellsE lo hi n ty m ln vl x vk vn vd vs k ≠ 0 → ve = cellsE lo hi n ty m ln vl x vk vn vd vs k) := fun h => by
          rw [← HV1.out, cellsTo_le (k := k + 1) (by rw [HS.out]; exact h) (by omega), HS.out]
        have HD : Hid (cellsE lo hi n ty m ln vl x vk vn vd vs k = if cellE lo hi n ty m (x k) (ln k) (vk k) (vn k) (vd k) (vs k) (vl k) ≠ 0 then cellE lo hi n ty m (x k) (ln k) (vk k) (vn k) (vd k) (vs k) (vl k) else if k = 0 then 0 else ordE (cmpS (ln (k - 1)) (ln k) (x (k - 1)) (x k))) := rfl
        generalize cellE lo hi n ty m (x k) (ln k) (vk k) (vn k) (vd k) (vs k) (vl k) = ce at *
        have HX2 := Lib.hid x2
        have hlnk : ln k ≤ 1000000 := by omega
        clear x0 x1 x2 x3 x4
        have hk4 : (k : Int) < (N : Int) := by omega
        have B0d : Below wr.heap.size wr wr.drew := Below.drew (Below.refl _ _)
        obtain ⟨⟨m0, m1⟩, -⟩ := KW.out wr (Below.refl _ _)
        go_wp2_with fail
        go_region_held3 (fun W => (W.cell? ⟨bc, oc + k * 2, none⟩ = some (.slice P (ln k) pc) ∧ W.cell? ⟨bc, oc + k * 2 + 1, none⟩ = some (.slice Q (vl k) qc)) ∧ W.cell? ⟨w.heap.size, 0, none⟩ = some (.slice A n cap) ∧ W.cell? ⟨w.heap.size, 1, none⟩ = some (.slice B m bcap) ∧ W.cell? ⟨w.heap.size, 2, none⟩ = some (.slice (some ⟨bc, oc, none⟩) N ccap))
          (first | exact KW.out _ B1 | exact KW.out _ B0d | exact KW.out _ (Below.refl _ _))
          (first
            | (go_at_call 73; refine (HCk.out _ B0d).mono ?_; rintro e w2 ⟨rfl, hb2⟩; have B1 : Below wr.heap.size wr w2 := st B0d hb2))
        all_goals
          have HB2 : Hid (Below w.heap.size w w2) := st HBw.out B1
          have HB12 : Hid (Below w1.heap.size w1 w2) := st HBr.out B1
          have KW2 : Hid (∀ W, Below w2.heap.size w2 W → (W.cell? ⟨bc, oc + k * 2, none⟩ = some (.slice P (ln k) pc) ∧ W.cell? ⟨bc, oc + k * 2 + 1, none⟩ = some (.slice Q (vl k) qc)) ∧ W.cell? ⟨w.heap.size, 0, none⟩ = some (.slice A n cap) ∧ W.cell? ⟨w.heap.size, 1, none⟩ = some (.slice B m bcap) ∧ W.cell? ⟨w.heap.size, 2, none⟩ = some (.slice (some ⟨bc, oc, none⟩) N ccap)) := fun W hW => KW.out W (st B1 hW)
          by_cases hce : ce = 0
          · subst hce
            by_cases hk0 : k = 0
            · subst hk0
              have HSZ : Hid (cellsTo lo hi n ty m ln vl x vk vn vd vs (0 + 1) = 0) := by show _ = _; rw [HS.out, HD.out]; rfl
              clear HS HEr HD
              go_wp2
              exact ⟨⟨1, by omega, by go_num, HSZ, HB12⟩, by simp [intOf]; omega⟩
            · obtain ⟨p, rfl⟩ : ∃ p, k = p + 1 := ⟨k - 1, by omega⟩
              have hk1 : (((p + 1 : Nat) : Int) == 0) = false := by rw [beq_eq_false_iff_ne]; omega
              obtain ⟨P', pc', Q', qc', z0, z1, z2, z3, z4⟩ := hcc p (by omega)
              have HPx : Hid (∀ W, Below w2.heap.size w2 W → W.cell? ⟨bc, oc + p * 2, none⟩ = some (.slice P' (ln p) pc') ∧ W.cell? ⟨bc, oc + p * 2 + 1, none⟩ = some (.slice Q' (vl p) qc')) := fun W hW => ⟨((st B1 hW).cell (p := ⟨bc, oc + p * 2, none⟩) hbc).trans z0, ((st B1 hW).cell (p := ⟨bc, oc + p * 2 + 1, none⟩) hbc).trans z1⟩
              have HCp : Hid (∀ W, Below w2.heap.size w2 W → Calls Tryz.prog 28 #[.slice P' (ln p) pc', .slice P (ln (p + 1)) pc] W fun e w' => e = .returned (.int .i64 (cmpS (ln p) (ln (p + 1)) (x p) (x (p + 1)))) ∧ Below W.heap.size W w') := fun W hW => HCm.out W P' P (ln p) pc' (ln (p + 1)) pc (x p) (x (p + 1)) (z2.below (st B1 hW)) (HX2.out.below (st B1 hW)) (by omega) (by omega)
              have HD2 : Hid (cellsE lo hi n ty m ln vl x vk vn vd vs (p + 1) = ordE (cmpS (ln p) (ln (p + 1)) (x p) (x (p + 1)))) := by show _ = _; rw [HD.out, if_neg (by simp), if_neg (by omega)]; rfl
              clear HD z0 z1 z2 z3
              have hcz := cmpS_three (ln p) (ln (p + 1)) (x p) (x (p + 1))
              generalize cmpS (ln p) (ln (p + 1)) (x p) (x (p + 1)) = cz at *
              have hwp : IntKind.i64.wrap ((p : Int) + 1 - 1) = p := by rw [show (p : Int) + 1 - 1 = p by omega]; exact w64 (by omega) (by omega)
              have KS : Hid (∀ W, Below w2.heap.size w2 W → (W.cell? ⟨bc, oc + p * 2, none⟩ = some (.slice P' (ln p) pc') ∧ W.cell? ⟨bc, oc + p * 2 + 1, none⟩ = some (.slice Q' (vl p) qc')) ∧ (W.cell? ⟨bc, oc + (p + 1) * 2, none⟩ = some (.slice P (ln (p + 1)) pc) ∧ W.cell? ⟨bc, oc + (p + 1) * 2 + 1, none⟩ = some (.slice Q (vl (p + 1)) qc)) ∧ W.cell? ⟨w.heap.size, 2, none⟩ = some (.slice (some ⟨bc, oc, none⟩) N ccap)) := fun W hW => ⟨HPx.out W hW, (KW2.out W hW).1, (KW2.out W hW).2.2.2⟩
              have C0d : Below w2.heap.size w2 w2.drew := Below.drew (Below.refl _ _)
              have hwp2 : IntKind.i64.wrap (p : Int) = p := w64 (by omega) (by omega)
              have hp0 : (0 : Int) ≤ (p : Int) := by omega
              have hpN : (p : Int) < (N : Int) := by omega
              have hpn : p < N := by omega
              have hp1 : (0 : Int) ≤ (p : Int) + 1 := by omega
              have hp2 : (p : Int) + 1 < (N : Int) := by omega
              have hp3 : p + 1 < N := by omega
              obtain ⟨⟨n0, n1⟩, -⟩ := KS.out w2 (Below.refl _ _)
              rcases hcz with rfl | rfl | rfl
              · have HSZ : Hid (cellsTo lo hi n ty m ln vl x vk vn vd vs (p + 1 + 1) = 0) := by show _ = _; rw [HS.out, HD2.out]; rfl
                clear HS HEr HD2
                go_wp2_with fail
                go_region_held3 (fun W => (W.cell? ⟨bc, oc + p * 2, none⟩ = some (.slice P' (ln p) pc') ∧ W.cell? ⟨bc, oc + p * 2 + 1, none⟩ = some (.slice Q' (vl p) qc')) ∧ (W.cell? ⟨bc, oc + (p + 1) * 2, none⟩ = some (.slice P (ln (p + 1)) pc) ∧ W.cell? ⟨bc, oc + (p + 1) * 2 + 1, none⟩ = some (.slice Q (vl (p + 1)) qc)) ∧ W.cell? ⟨w.heap.size, 2, none⟩ = some (.slice (some ⟨bc, oc, none⟩) N ccap))
                  (first | exact KS.out _ C1 | exact KS.out _ C0d | exact KS.out _ (Below.refl _ _))
                  (first
                    | (go_at_call 28; refine (HCp.out _ C0d).mono ?_; rintro e w3 ⟨rfl, hb3⟩; have C1 : Below w2.heap.size w2 w3 := st C0d hb3))
                all_goals
                  go_wp2
                  exact ⟨⟨p + 1 + 1, by omega, by go_num, HSZ, st HB12.out C1⟩, by simp [intOf]; omega⟩
              · have HE : Hid (ve = 5) := by show _ = _; rw [HEr.out (by rw [HD2.out]; decide), HD2.out]; rfl
                clear HS HEr HD2
                go_wp2_with fail
                go_region_held3 (fun W => (W.cell? ⟨bc, oc + p * 2, none⟩ = some (.slice P' (ln p) pc') ∧ W.cell? ⟨bc, oc + p * 2 + 1, none⟩ = some (.slice Q' (vl p) qc')) ∧ (W.cell? ⟨bc, oc + (p + 1) * 2, none⟩ = some (.slice P (ln (p + 1)) pc) ∧ W.cell? ⟨bc, oc + (p + 1) * 2 + 1, none⟩ = some (.slice Q (vl (p + 1)) qc)) ∧ W.cell? ⟨w.heap.size, 2, none⟩ = some (.slice (some ⟨bc, oc, none⟩) N ccap))
                  (first | exact KS.out _ C1 | exact KS.out _ C0d | exact KS.out _ (Below.refl _ _))
                  (first
                    | (go_at_call 28; refine (HCp.out _ C0d).mono ?_; rintro e w3 ⟨rfl, hb3⟩; have C1 : Below w2.heap.size w2 w3 := st C0d hb3))
                all_goals
                  go_wp2
                  go_ret
                  exact ⟨by rw [HE.out]; rfl, st HB2.out C1⟩
              · have HE : Hid (ve = 2) := by show _ = _; rw [HEr.out (by rw [HD2.out]; decide), HD2.out]; rfl
                clear HS HEr HD2
                go_wp2_with fail
                go_region_held3 (fun W => (W.cell? ⟨bc, oc + p * 2, none⟩ = some (.slice P' (ln p) pc') ∧ W.cell? ⟨bc, oc + p * 2 + 1, none⟩ = some (.slice Q' (vl p) qc')) ∧ (W.cell? ⟨bc, oc + (p + 1) * 2, none⟩ = some (.slice P (ln (p + 1)) pc) ∧ W.cell? ⟨bc, oc + (p + 1) * 2 + 1, none⟩ = some (.slice Q (vl (p + 1)) qc)) ∧ W.cell? ⟨w.heap.size, 2, none⟩ = some (.slice (some ⟨bc, oc, none⟩) N ccap))
                  (first | exact KS.out _ C1 | exact KS.out _ C0d | exact KS.out _ (Below.refl _ _))
                  (first
                    | (go_at_call 28; refine (HCp.out _ C0d).mono ?_; rintro e w3 ⟨rfl, hb3⟩; have C1 : Below w2.heap.size w2 w3 := st C0d hb3))
                all_goals
                  go_wp2
                  go_ret
                  exact ⟨by rw [HE.out]; rfl, st HB2.out C1⟩
          · have h1 : (ce != 0) = true := by rw [bne_iff_ne]; exact hce
            have HE : Hid (ve = ce) := by show _ = _; rw [HEr.out (by rw [HD.out, if_pos hce]; exact hce), HD.out, if_pos hce]
            clear hce HS HEr HD
            go_wp2
            go_ret
            exact ⟨by rw [HE.out]; rfl, HB2.out⟩
      · obtain rfl : k = N := by omega
        go_wp2
        go_ret
        exact ⟨by rw [← HV1.out, HK.out]; rfl, HBw.out⟩
  · have h1 : (me != 0) = true := by rw [bne_iff_ne]; exact h0
    have HE : Hid (ve = me) := by show _ = _; rw [← HV.out]; simp [h0]
    clear h0 HV
    go_wp2
    go_ret
    exact ⟨by rw [HE.out]; rfl, HB1.out⟩
end Go.Proofs.YtoippldgoehpcaaGreatDoor
end

/- What the laws examine: the sizes of schemas. -/
section
namespace Go.Proofs.YtoippldgoehpcaaGreatDoor
open Go Go.RowKit Go.Deep

set_option maxHeartbeats 1000000 in
theorem l_short (s : ByteArray) (hs : s.size ≤ 9223372036854775807) (w : World) : Calls Tryz.prog 33 #[.string s] w fun e w' => e = .returned (.bool (decide (s.size ≤ 40))) ∧ w' = w := by
  have e1 : decide (s.size ≤ 40) = decide ((s.size : Int) ≤ 40) := by
    by_cases h : s.size ≤ 40
    · rw [decide_eq_true h, decide_eq_true (by omega)]
    · rw [decide_eq_false h, decide_eq_false (by omega)]
  rw [e1]
  go_enter Tryz.func33, Tryz.ntmps33
  go_wp2
  go_ret
  exact ⟨rfl, rfl⟩

end Go.Proofs.YtoippldgoehpcaaGreatDoor
end

/- What the laws examine: the sizes of schemas with attributes. -/
section
namespace Go.Proofs.YtoippldgoehpcaaGreatDoor
open Go Go.RowKit Go.Deep

set_option maxRecDepth 100000 in
set_option maxHeartbeats 4000000 in
/-- schema of dimensions and attributes. -/
theorem l_schema3 (w : World) (A B : Option Addr) (n cap m c2 : Nat) (nm : Nat → ByteArray) (lo hi : Nat → Int) (an : Nat → ByteArray) (ty : Nat → Int) (hd : DimsAt w A n nm lo hi) (ha : AttrsAt w B m an ty) (hs : ∀ k, k < n → (nm k).size ≤ 9223372036854775807) (hs2 : ∀ k, k < m → (an k).size ≤ 9223372036854775807) :
    Calls Tryz.prog 19 #[.slice A n cap, .slice B m c2] w fun e w' => (e = .returned (.bool false) ∨ e = .returned (.bool true) ∧ n ≤ 10 ∧ m ≤ 10) ∧ Below w.heap.size w w' := by
  have HD := Lib.hid hd
  have HA := Lib.hid ha
  have HS := Lib.hid hs
  have HS2 := Lib.hid hs2
  have HL := Lib.hid l_short
  clear hd hs ha hs2
  go_enter Tryz.func19, Tryz.ntmps19
  by_cases h0 : (n : Int) > 10
  · go_wp2
    go_ret
    exact ⟨Or.inl rfl, Below.refl _ _⟩
  · by_cases h1 : (m : Int) > 10
    · go_wp2
      go_ret
      exact ⟨Or.inl rfl, Below.refl _ _⟩
    · go_wp2
      go_loopw [5] (fun i wr => ∃ k : Nat, k ≤ n ∧ i = .int .i64 k ∧ wr = w) (fun i _ => n - (intOf i).toNat)
      case atStart => exact ⟨0, Nat.zero_le _, rfl, rfl⟩
      case round =>
        obtain ⟨k, hk, rfl, hw⟩ := hrel
        have hw := hw.symm
        subst hw
        by_cases hlt : k < n
        · obtain ⟨bd, o, rfl, _, hc⟩ := HD.out (by omega)
          have c0 := (hc k hlt).1
          clear hc
          have HSk := Lib.hid (HL.out (nm k) (HS.out k hlt))
          generalize nm k = s at *
          by_cases h5 : s.size ≤ 40
          · rw [decide_eq_true h5] at HSk
            clear h5
            go_wp2_with fail
            refine (HSk.out _).mono ?_
            rintro e w1 ⟨rfl, rfl⟩
            go_wp2
            go_roundw
            case rel => exact ⟨k + 1, by omega, by go_num, by first | rfl | trivial⟩
            case measure => simp [intOf]; omega
          · rw [decide_eq_false h5] at HSk
            clear h5
            go_wp2_with fail
            refine (HSk.out _).mono ?_
            rintro e w1 ⟨rfl, rfl⟩
            go_wp2
            go_ret
            exact ⟨Or.inl rfl, Below.refl _ _⟩
        · obtain rfl : k = n := by omega
          go_wp2
          go_loopw [6] (fun i wr => ∃ k : Nat, k ≤ m ∧ i = .int .i64 k ∧ wr = w) (fun i _ => m - (intOf i).toNat)
          case atStart => exact ⟨0, Nat.zero_le _, rfl, rfl⟩
          case round =>
            obtain ⟨j, hj, rfl, hw⟩ := hrel
            have hw := hw.symm
            subst hw
            by_cases hlt2 : j < m
            · obtain ⟨bd, o, rfl, _, hc⟩ := HA.out (by omega)
              have c0 := (hc j hlt2).1
              clear hc
              have HSk := Lib.hid (HL.out (an j) (HS2.out j hlt2))
              generalize an j = s at *
              by_cases h5 : s.size ≤ 40
              · rw [decide_eq_true h5] at HSk
                clear h5
                go_wp2_with fail
                refine (HSk.out _).mono ?_
                rintro e w1 ⟨rfl, rfl⟩
                go_wp2
                go_roundw
                case rel => exact ⟨j + 1, by omega, by go_num, by first | rfl | trivial⟩
                case measure => simp [intOf]; omega
              · rw [decide_eq_false h5] at HSk
                clear h5
                go_wp2_with fail
                refine (HSk.out _).mono ?_
                rintro e w1 ⟨rfl, rfl⟩
                go_wp2
                go_ret
                exact ⟨Or.inl rfl, Below.refl _ _⟩
            · obtain rfl : j = m := by omega
              go_wp2
              go_ret
              exact ⟨Or.inr ⟨rfl, by omega, by omega⟩, Below.refl _ _⟩

end Go.Proofs.YtoippldgoehpcaaGreatDoor
end

/- What the laws ask of the driver. -/
section
namespace Go.Proofs.YtoippldgoehpcaaGreatDoor
open Go Go.RowKit Go.Deep

/-- The examples of the chapter hold in whatever world goes on from here. -/
def WorksAt (w : World) : Prop := ∀ W, Below w.heap.size w W → Calls Tryz.prog 16 #[] W fun e w' => e = .returned (.bool true) ∧ Below W.heap.size W w'
end Go.Proofs.YtoippldgoehpcaaGreatDoor
end

/- What the laws examine: the sizes of arrays. -/
section
namespace Go.Proofs.YtoippldgoehpcaaGreatDoor
open Go Go.RowKit Go.Deep

/-- Few cells, with few coordinates and values. -/
def CelsB (N : Nat) (most : Int) (ln vl : Nat → Nat) : Prop := (N : Int) ≤ most ∧ ∀ k, k < N → ln k ≤ 10 ∧ vl k ≤ 10
set_option maxRecDepth 100000 in
set_option maxHeartbeats 4000000 in
theorem l_cells (w : World) (C : Option Addr) (N ccap : Nat) (most : Int) (ln vl : Nat → Nat) (x vk vn vd : Nat → Nat → Int) (vs : Nat → Nat → ByteArray) (hc : CelsAt w C N ln vl x vk vn vd vs) (hm : most ≤ 1000000)
    (hs : ∀ k, k < N → ln k ≤ 9223372036854775807 ∧ vl k ≤ 9223372036854775807 ∧ ∀ j, j < vl k → (vs k j).size ≤ 9223372036854775807) :
    Calls Tryz.prog 20 #[.slice C N ccap, .int .i64 most] w fun e w' => (e = .returned (.bool false) ∨ e = .returned (.bool true) ∧ CelsB N most ln vl) ∧ Below w.heap.size w w' := by
  have HC := Lib.hid hc
  have HS := Lib.hid hs
  have HL := Lib.hid l_short
  clear hc hs
  go_enter Tryz.func20, Tryz.ntmps20
  by_cases h0 : (N : Int) > most
  · go_wp2
    go_ret
    exact ⟨Or.inl rfl, Below.refl _ _⟩
  · go_wp2
    go_loopw [5, 6] (fun i _ wr => ∃ k : Nat, k ≤ N ∧ i = .int .i64 k ∧ Hid (∀ j, j < k → ln j ≤ 10 ∧ vl j ≤ 10) ∧ Hid (Below w.heap.size w wr)) (fun i _ _ => N - (intOf i).toNat)
    case atStart => exact ⟨0, Nat.zero_le _, rfl, fun j hj => absurd hj (by omega), Below.refl _ _⟩
    case round =>
      obtain ⟨k, hk, rfl, HK, HB⟩ := hrel
      by_cases hlt : k < N
      · obtain ⟨bc, oc, rfl, hbc, hcc⟩ := (HC.out.below HB.out) (by omega)
        obtain ⟨P, pc, Q, qc, x0, x1, _, x3⟩ := hcc k hlt
        clear hcc
        have HSk := Lib.hid (HS.out k hlt)
        have HV := Lib.hid x3
        clear x3
        obtain ⟨L, hL⟩ : ∃ L, ln k = L := ⟨_, rfl⟩
        obtain ⟨V, hV⟩ : ∃ V, vl k = V := ⟨_, rfl⟩
        have HLV : Hid (ln k = L ∧ vl k = V) := ⟨hL, hV⟩
        rw [hL] at x0 HSk
        rw [hV] at x1 HV HSk
        have hL9 := HSk.out.1
        have hV9 := HSk.out.2.1
        clear hL hV
        have HCW : Hid (∀ W, Below wr.heap.size wr W → W.cell? ⟨bc, oc + k * 2, none⟩ = some (.slice P L pc) ∧ W.cell? ⟨bc, oc + k * 2 + 1, none⟩ = some (.slice Q V qc)) := fun W hW => ⟨(hW.cell (p := ⟨bc, oc + k * 2, none⟩) hbc).trans x0, (hW.cell (p := ⟨bc, oc + k * 2 + 1, none⟩) hbc).trans x1⟩
        by_cases g1 : (L : Int) > 10
        · go_wp2
          go_ret
          exact ⟨Or.inl rfl, HB.out⟩
        · by_cases g2 : (V : Int) > 10
          · go_wp2
            go_ret
            exact ⟨Or.inl rfl, HB.out⟩
          · go_wp2
            clear x0 x1
            obtain ⟨wo, rfl⟩ : ∃ wo, wo = wr := ⟨_, rfl⟩
            go_loopw [6] (fun i wr => ∃ j : Nat, j ≤ V ∧ i = .int .i64 j ∧ Hid (Below wo.heap.size wo wr)) (fun i _ => V - (intOf i).toNat)
            case atStart => exact ⟨0, Nat.zero_le _, rfl, Below.refl _ _⟩
            case round =>
              obtain ⟨j, hj, rfl, HBj⟩ := hrel
              obtain ⟨x0, x1⟩ := HCW.out _ HBj.out
              by_cases hlt2 : j < V
              · obtain ⟨bv, ov, rfl, hbv, hcv⟩ := (HV.out.below HBj.out) (by omega)
                obtain ⟨y0, y1, y2, y3⟩ := hcv j hlt2
                clear hcv
                have HLs := Lib.hid (fun W => HL.out (vs k j) (HSk.out.2.2 j hlt2) W)
                generalize vs k j = s at *
                have KV : Hid (∀ W, Below wr.heap.size wr W → W.cell? ⟨bv, ov + j * 4 + 3, none⟩ = some (.string s) ∧ W.cell? ⟨bc, oc + k * 2 + 1, none⟩ = some (.slice (some ⟨bv, ov, none⟩) V qc)) := fun W hW => ⟨(hW.cell (p := ⟨bv, ov + j * 4 + 3, none⟩) hbv).trans y3, (HCW.out W (st HBj.out hW)).2⟩
                clear y0 y1 y2
                by_cases h5 : s.size ≤ 40
                · rw [decide_eq_true h5] at HLs
                  clear h5
                  go_wp2_with fail
                  refine (HLs.out _).mono ?_
                  rintro e w1 ⟨rfl, rfl⟩
                  go_wp2
                  go_roundw
                  case rel => exact ⟨j + 1, by omega, by go_num, HBj.out⟩
                  case measure => simp [intOf]; omega
                · rw [decide_eq_false h5] at HLs
                  clear h5
                  go_wp2_with fail
                  refine (HLs.out _).mono ?_
                  rintro e w1 ⟨rfl, rfl⟩
                  go_wp2
                  go_ret
                  exact ⟨Or.inl rfl, st HB.out HBj.out⟩
              · obtain rfl : j = V := by omega
                go_wp2
                go_roundw
                case rel =>
                  refine ⟨k + 1, by omega, by go_num, fun i hi => ?_, st HB.out HBj.out⟩
                  by_cases e : i = k
                  · subst e
                    rw [HLV.out.1, HLV.out.2]
                    omega
                  · exact HK.out i (by omega)
                case measure => simp [intOf]; omega
      · obtain rfl : k = N := by omega
        go_wp2
        go_ret
        exact ⟨Or.inr ⟨rfl, by omega, HK.out⟩, HB.out⟩

/-- Few: not more than what is examined. -/
def FewB (n m N : Nat) (most : Int) (ln vl : Nat → Nat) : Prop := n ≤ 10 ∧ m ≤ 10 ∧ CelsB N most ln vl
set_option maxRecDepth 100000 in
set_option maxHeartbeats 4000000 in
theorem l_Few3 (w : World) (A B C : Option Addr) (n cap m bcap N ccap : Nat) (most : Int) (nm : Nat → ByteArray) (lo hi : Nat → Int) (an : Nat → ByteArray) (ty : Nat → Int) (ln vl : Nat → Nat) (x vk vn vd : Nat → Nat → Int) (vs : Nat → Nat → ByteArray)
    (h : ArrF w A n B m C N nm lo hi an ty ln vl x vk vn vd vs) (hm : most ≤ 1000000) :
    Calls Tryz.prog 15 #[ArrV A n cap B m bcap C N ccap, .int .i64 most] w fun e w' => (e = .returned (.bool false) ∨ e = .returned (.bool true) ∧ FewB n m N most ln vl) ∧ Below w.heap.size w w' := by
  have KB := Lib.hid (arr_box w (.slice A n cap) (.slice B m bcap) (.slice C N ccap) 26)
  have HB : Hid (Below w.heap.size w (w.alloc (.cells #[.slice A n cap, .slice B m bcap, .slice C N ccap] 26))) := (Below.refl _ _).alloc (Nat.le_refl _) _
  have HS : Hid (∀ W, Below w.heap.size w W → Calls Tryz.prog 19 #[.slice A n cap, .slice B m bcap] W fun e w' => (e = .returned (.bool false) ∨ e = .returned (.bool true) ∧ n ≤ 10 ∧ m ≤ 10) ∧ Below W.heap.size W w') := fun W hW => l_schema3 W A B n cap m bcap nm lo hi an ty (h.dims.below hW) (h.attrs.below hW) h.nmS h.anS
  have HC : Hid (∀ W, Below w.heap.size w W → Calls Tryz.prog 20 #[.slice C N ccap, .int .i64 most] W fun e w' => (e = .returned (.bool false) ∨ e = .returned (.bool true) ∧ CelsB N most ln vl) ∧ Below W.heap.size W w') := fun W hW => l_cells W C N ccap most ln vl x vk vn vd vs (h.cells.below hW) hm h.cS
  clear h
  go_enter Tryz.func15, Tryz.ntmps15
  go_wp2_with fail
  generalize w.alloc (.cells #[.slice A n cap, .slice B m bcap, .slice C N ccap] 26) = W0 at *
  obtain ⟨l0, l1, l2⟩ := KB.out W0 (Below.refl _ _)
  go_wp2_with fail
  refine (HS.out _ HB.out).mono ?_
  rintro e w1 ⟨he, hb1⟩
  obtain ⟨l0', l1', l2'⟩ := KB.out w1 hb1
  clear l0 l1 l2
  have HB1 : Hid (Below w.heap.size w w1) := st HB.out hb1
  rcases he with rfl | ⟨rfl, hn, hm2⟩
  · go_wp2
    go_ret
    exact ⟨Or.inl rfl, HB1.out⟩
  · go_wp2_with fail
    refine (HC.out _ HB1.out).mono ?_
    rintro e w2 ⟨he, hb2⟩
    have HB2 : Hid (Below w.heap.size w w2) := st HB1.out hb2
    rcases he with rfl | ⟨rfl, hc⟩
    · go_wp2
      go_ret
      exact ⟨Or.inl rfl, HB2.out⟩
    · go_wp2
      go_ret
      exact ⟨Or.inr ⟨rfl, hn, hm2, hc⟩, HB2.out⟩
end Go.Proofs.YtoippldgoehpcaaGreatDoor
end

/- The walk of SpaceCheck. -/
section
namespace Go.Proofs.YtoippldgoehpcaaGreatDoor
open Go Go.RowKit Go.Deep

/-- Few arrays have few cells: what the contracts ask of them. -/
theorem ArrF.few {w : World} {A : Option Addr} {n : Nat} {B : Option Addr} {m : Nat} {C : Option Addr} {N : Nat} {nm : Nat → ByteArray} {lo hi : Nat → Int} {an : Nat → ByteArray} {ty : Nat → Int} {ln vl : Nat → Nat} {x vk vn vd : Nat → Nat → Int} {vs : Nat → Nat → ByteArray} {most : Int}
    (h : ArrF w A n B m C N nm lo hi an ty ln vl x vk vn vd vs) (hf : FewB n m N most ln vl) : CellsAt w C N ln vl x vk vn vd vs :=
  h.cells.few fun k hk => by have := (hf.2.2.2 k hk).1; omega
end Go.Proofs.YtoippldgoehpcaaGreatDoor
end

/- Drawn regions taken operation by operation, those that a guard leaves out among them. -/
section
namespace Go.Proofs.YtoippldgoehpcaaGreatDoor
open Go Go.RowKit Go.Deep

theorem rgi {P : Program} {ops : Array Oper} {Q : Exit → Act → World → Prop} {md : Region.Mode} {S : World → Prop} {fuel : Nat} {listed : Array Bool} {a : Act} {w : World} {oi : Oper} {v : Value} (i : Nat) (hi : ops[i]? = some oi)
    (hs : Region.noSelect ops = true) (hf : Region.free md ops listed i = true) (hr : (Region.ready md ops listed).contains i = true) (hQ : ∀ c a w, Q (.panic c) (a.put oi.dst v) w → Q (.panic c) a w)
    (hw : Region.wanted oi (yielded ops a.tmps) = true) (hy : ∀ w, S w → (execOp a.eval oi).run P w = .ok (.value v) w) (hS : S w) (h : wpAnyH P md ops Q S fuel (listed.setIfInBounds i true) (a.put oi.dst v) w) : wpAnyH P md ops Q S (fuel + 1) listed a w := wpAnyH_take hi hs hf hr hQ (.inl ⟨hw, hy⟩) hS h
theorem rgo {P : Program} {ops : Array Oper} {Q : Exit → Act → World → Prop} {md : Region.Mode} {S : World → Prop} {fuel : Nat} {listed : Array Bool} {a : Act} {w : World} {oi : Oper} (i : Nat) (hi : ops[i]? = some oi)
    (hs : Region.noSelect ops = true) (hf : Region.free md ops listed i = true) (hr : (Region.ready md ops listed).contains i = true) (hQ : ∀ c a w, Q (.panic c) (a.put oi.dst undef) w → Q (.panic c) a w)
    (hw : Region.wanted oi (yielded ops a.tmps) = false) (hS : S w) (h : wpAnyH P md ops Q S fuel (listed.setIfInBounds i true) (a.put oi.dst undef) w) : wpAnyH P md ops Q S (fuel + 1) listed a w := wpAnyH_take hi hs hf hr hQ (.inr ⟨hw, rfl⟩) hS h
end Go.Proofs.YtoippldgoehpcaaGreatDoor
end

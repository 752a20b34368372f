/- The error of an array. -/
import Derived.Test.YtogmbehomilalaaGreatDoorZMathT
import Derived.Test.YtogmbehomilalaaGreatDoorZCmpS

/- The error of an array. -/
section
namespace Go.Proofs.YtogmbehomilalaaGreatDoor
open Go Go.RowKit Go.Deep

/-- The cells of a slice. -/
def CellsAt (w : World) (A : Option Addr) (N : Nat) (ln vl : Nat → Nat) (x vk vn vd : Nat → Nat → Int) (vs : Nat → Nat → ByteArray) : Prop :=
  0 < N → ∃ b o, A = some ⟨b, o, none⟩ ∧ b < w.heap.size ∧ ∀ k, k < N → ∃ P c Q d, w.cell? ⟨b, o + k * 2, none⟩ = some (.slice P (ln k) c) ∧ w.cell? ⟨b, o + k * 2 + 1, none⟩ = some (.slice Q (vl k) d) ∧ IntsAt w P (ln k) (x k) ∧ ValsAt w Q (vl k) (vk k) (vn k) (vd k) (vs k) ∧ ln k ≤ 1000
theorem CellsAt.below {w w' : World} {A : Option Addr} {N : Nat} {ln vl : Nat → Nat} {x vk vn vd : Nat → Nat → Int} {vs : Nat → Nat → ByteArray} (h : CellsAt w A N ln vl x vk vn vd vs) (hb : Below w.heap.size w w') : CellsAt w' A N ln vl x vk vn vd vs := fun hn => by
  obtain ⟨b, o, h1, h2, h3⟩ := h hn
  refine ⟨b, o, h1, Nat.lt_of_lt_of_le h2 hb.size, fun k hk => ?_⟩
  obtain ⟨P, c, Q, d, a1, a2, a3, a4, a5⟩ := h3 k hk
  exact ⟨P, c, Q, d, (hb.cell (p := ⟨b, o + k * 2, none⟩) h2).trans a1, (hb.cell (p := ⟨b, o + k * 2 + 1, none⟩) h2).trans a2, a3.below hb, a4.below hb, a5⟩
noncomputable def manyE (nm : Nat → ByteArray) (lo hi : Nat → Int) (n : Nat) (an : Nat → ByteArray) (ty : Nat → Int) (m N : Nat) : Int :=
  if schE nm lo hi n an ty m ≠ 0 then schE nm lo hi n an ty m else if 4096 < N then 9 else 0
/-- What two neighbors' comparison says. -/
def ordE (c : Int) : Int := if c = 0 then 5 else if c = 1 then 2 else 0
def cellsE (lo hi : Nat → Int) (n : Nat) (ty : Nat → Int) (m : Nat) (ln vl : Nat → Nat) (x vk vn vd : Nat → Nat → Int) (vs : Nat → Nat → ByteArray) (k : Nat) : Int :=
  if cellE lo hi n ty m (x k) (ln k) (vk k) (vn k) (vd k) (vs k) (vl k) ≠ 0 then cellE lo hi n ty m (x k) (ln k) (vk k) (vn k) (vd k) (vs k) (vl k) else if k = 0 then 0 else ordE (cmpS (ln (k - 1)) (ln k) (x (k - 1)) (x k))
def cellsTo (lo hi : Nat → Int) (n : Nat) (ty : Nat → Int) (m : Nat) (ln vl : Nat → Nat) (x vk vn vd : Nat → Nat → Int) (vs : Nat → Nat → ByteArray) : Nat → Int
  | 0 => 0
  | k + 1 => if cellsTo lo hi n ty m ln vl x vk vn vd vs k = 0 then cellsE lo hi n ty m ln vl x vk vn vd vs k else cellsTo lo hi n ty m ln vl x vk vn vd vs k
theorem cellsTo_le {lo hi : Nat → Int} {n : Nat} {ty : Nat → Int} {m : Nat} {ln vl : Nat → Nat} {x vk vn vd : Nat → Nat → Int} {vs : Nat → Nat → ByteArray} {k N : Nat} (h : cellsTo lo hi n ty m ln vl x vk vn vd vs k ≠ 0) (hn : k ≤ N) : cellsTo lo hi n ty m ln vl x vk vn vd vs N = cellsTo lo hi n ty m ln vl x vk vn vd vs k := by
  induction N with
  | zero => obtain rfl : k = 0 := by omega
            rfl
  | succ N ih =>
    by_cases e : k = N + 1
    · rw [e]
    · rw [cellsTo, if_neg (by rw [ih (by omega)]; exact h), ih (by omega)]
/-- The error of an array. -/
noncomputable def checkE (nm : Nat → ByteArray) (lo hi : Nat → Int) (n : Nat) (an : Nat → ByteArray) (ty : Nat → Int) (m N : Nat) (ln vl : Nat → Nat) (x vk vn vd : Nat → Nat → Int) (vs : Nat → Nat → ByteArray) : Int :=
  if manyE nm lo hi n an ty m N ≠ 0 then manyE nm lo hi n an ty m N else cellsTo lo hi n ty m ln vl x vk vn vd vs N

set_option maxRecDepth 100000 in
set_option maxHeartbeats 4000000 in
theorem s_manyError (w : World) (A B C : Option Addr) (n cap m bcap N ccap : Nat) (nm : Nat → ByteArray) (lo hi : Nat → Int) (an : Nat → ByteArray) (ty : Nat → Int) (hd : DimsAt w A n nm lo hi) (ha : AttrsAt w B m an ty) :
    Calls Tryz.prog 35 #[.slice A n cap, .slice B m bcap, .slice C N ccap] w fun e w' => e = .returned (.int .i64 (manyE nm lo hi n an ty m N)) ∧ Below w.heap.size w w' := by
  have HS := Lib.hid (s_Schema w A B n cap m bcap nm lo hi an ty hd ha)
  obtain ⟨ve, hve⟩ : ∃ ve, manyE nm lo hi n an ty m N = ve := ⟨_, rfl⟩
  rw [hve]
  have HV := Lib.hid hve
  unfold manyE at HV
  clear hd ha hve
  generalize schE nm lo hi n an ty m = se at *
  by_cases h0 : se = 0
  · subst h0
    by_cases h1 : 4096 < N
    · have HE : Hid (ve = 9) := by show _ = _; rw [← HV.out, if_neg (by simp), if_pos h1]
      have h2 : (4096 : Int) < (N : Int) := by omega
      clear HV
      go_enter Tryz.func35, Tryz.ntmps35
      go_wp2_with (go_at_call 75; refine HS.out.mono ?_; rintro e w1 ⟨rfl, hb1⟩)
      go_ret
      exact ⟨by rw [HE.out]; rfl, hb1⟩
    · have HE : Hid (ve = 0) := by show _ = _; rw [← HV.out, if_neg (by simp), if_neg h1]
      have h2 : ¬ (4096 : Int) < (N : Int) := by omega
      clear HV
      go_enter Tryz.func35, Tryz.ntmps35
      go_wp2_with (go_at_call 75; refine HS.out.mono ?_; rintro e w1 ⟨rfl, hb1⟩)
      go_ret
      exact ⟨by rw [HE.out]; rfl, hb1⟩
  · have HE : Hid (ve = se) := by show _ = _; rw [← HV.out, if_pos h0]
    have h2 : (se != 0) = true := by rw [bne_iff_ne]; exact h0
    clear HV h0
    go_enter Tryz.func35, Tryz.ntmps35
    go_wp2_with (go_at_call 75; refine HS.out.mono ?_; rintro e w1 ⟨rfl, hb1⟩)
    go_ret
    exact ⟨by rw [HE.out]; rfl, hb1⟩

abbrev ArrV (A : Option Addr) (n cap : Nat) (B : Option Addr) (m bcap : Nat) (C : Option Addr) (N ccap : Nat) : Value := .agg #[.slice A n cap, .slice B m bcap, .slice C N ccap]
theorem arr_box (w : World) (p q r : Value) (t : TypeId) (W : World) (hW : Below (w.alloc (.cells #[p, q, r] t)).heap.size (w.alloc (.cells #[p, q, r] t)) W) : W.cell? ⟨w.heap.size, 0, none⟩ = some p ∧ W.cell? ⟨w.heap.size, 1, none⟩ = some q ∧ W.cell? ⟨w.heap.size, 2, none⟩ = some r := by
  have hb := (hW.block w.heap.size (by simp)).trans (heap_alloc_new w (.cells #[p, q, r] t))
  refine ⟨?_, ?_, ?_⟩ <;> (rw [cell_of_row _ _ _ _ _ _ hb]; rfl)

set_option maxRecDepth 100000 in
set_option maxHeartbeats 4000000 in
theorem s_Check (w : World) (A B C : Option Addr) (n cap m bcap N ccap : Nat) (nm : Nat → ByteArray) (lo hi : Nat → Int) (an : Nat → ByteArray) (ty : Nat → Int) (ln vl : Nat → Nat) (x vk vn vd : Nat → Nat → Int) (vs : Nat → Nat → ByteArray)
    (hd : DimsAt w A n nm lo hi) (ha : AttrsAt w B m an ty) (hc : CellsAt w C N ln vl x vk vn vd vs) (hn : n ≤ 1000) (hm : m ≤ 1000) (hN : N ≤ 1000000) :
    Calls Tryz.prog 28 #[ArrV A n cap B m bcap C N ccap] w fun e w' => e = .returned (.int .i64 (checkE nm lo hi n an ty m N ln vl x vk vn vd vs)) ∧ Below w.heap.size w w' := by
  have KB := Lib.hid (arr_box w (.slice A n cap) (.slice B m bcap) (.slice C N ccap) 29)
  have HB : Hid (Below w.heap.size w (w.alloc (.cells #[.slice A n cap, .slice B m bcap, .slice C N ccap] 29))) := (Below.refl _ _).alloc (Nat.le_refl _) _
  have HM : Hid (∀ W, Below w.heap.size w W → Calls Tryz.prog 35 #[.slice A n cap, .slice B m bcap, .slice C N ccap] W fun e w' => e = .returned (.int .i64 (manyE nm lo hi n an ty m N)) ∧ Below W.heap.size W w') := fun W hW => s_manyError W A B C n cap m bcap N ccap nm lo hi an ty (hd.below hW) (ha.below hW)
  have HCe : Hid (∀ W P ln' pc Q vl' qc x' vk' vn' vd' vs', Below w.heap.size w W → IntsAt W P ln' x' → ValsAt W Q vl' vk' vn' vd' vs' → ln' ≤ 1000 → Calls Tryz.prog 36 #[.slice A n cap, .slice B m bcap, CelV P ln' pc Q vl' qc] W fun e w' => e = .returned (.int .i64 (cellE lo hi n ty m x' ln' vk' vn' vd' vs' vl')) ∧ Below W.heap.size W w') := fun W P ln' pc Q vl' qc x' vk' vn' vd' vs' hW hx hv hl => s_cellError W A B P Q n cap m bcap ln' pc vl' qc nm lo hi an ty x' vk' vn' vd' vs' (hd.below hW) (ha.below hW) hx hv hn hm hl
  have HCm := Lib.hid s_Compare
  have HC := Lib.hid hc
  obtain ⟨ve, hve⟩ : ∃ ve, checkE nm lo hi n an ty m N ln vl x vk vn vd vs = ve := ⟨_, rfl⟩
  rw [hve]
  have HV := Lib.hid hve
  unfold checkE at HV
  clear hd ha hve hc
  generalize manyE nm lo hi n an ty m N = me at *
  go_enter Tryz.func28, Tryz.ntmps28
  go_wp2_with fail
  generalize w.alloc (.cells #[.slice A n cap, .slice B m bcap, .slice C N ccap] 29) = W0 at *
  obtain ⟨l0, l1, l2⟩ := KB.out W0 (Below.refl _ _)
  go_wp2_with fail
  refine (HM.out _ HB.out).mono ?_
  rintro e w1 ⟨rfl, hb1⟩
  have HB1 : Hid (Below w.heap.size w w1) := st HB.out hb1
  have KB1 : Hid (∀ W, Below w1.heap.size w1 W → W.cell? ⟨w.heap.size, 0, none⟩ = some (.slice A n cap) ∧ W.cell? ⟨w.heap.size, 1, none⟩ = some (.slice B m bcap) ∧ W.cell? ⟨w.heap.size, 2, none⟩ = some (.slice C N ccap)) := fun W hW => KB.out W (hb1.trans (hW.mono hb1.size))
  clear l0 l1 l2 KB HB HM hb1
  obtain ⟨l0, l1, l2⟩ := KB1.out w1 (Below.refl _ _)
  by_cases h0 : me = 0
  · subst h0
    have HV1 : Hid (cellsTo lo hi n ty m ln vl x vk vn vd vs N = ve) := by show _ = _; rw [← HV.out, if_neg (by simp)]
    clear HV
    go_wp2_with fail
    clear l0 l1 l2
    go_loopw [4, 5, 6, 20] (fun _ _ _ i wr => ∃ k : Nat, k ≤ N ∧ i = .int .i64 k ∧ Hid (cellsTo lo hi n ty m ln vl x vk vn vd vs k = 0) ∧ Hid (Below w1.heap.size w1 wr)) (fun _ _ _ i _ => N - (intOf i).toNat)
    case atStart => exact ⟨0, Nat.zero_le _, rfl, rfl, Below.refl _ _⟩
    case round =>
      obtain ⟨k, hk, rfl, HK, HBr⟩ := hrel
      have HBw : Hid (Below w.heap.size w wr) := st HB1.out HBr.out
      by_cases hlt : k < N
      · obtain ⟨bc, oc, rfl, hbc, hcc⟩ := (HC.out.below HBw.out) (by omega)
        obtain ⟨P, pc, Q, qc, x0, x1, x2, x3, x4⟩ := hcc k hlt
        have hnw := heap_alloc_new wr (.cells #[.slice P (ln k) pc, .slice Q (vl k) qc] 38)
        have HBb : Hid (Below wr.heap.size wr (wr.alloc (.cells #[.slice P (ln k) pc, .slice Q (vl k) qc] 38))) := (Below.refl _ _).alloc (Nat.le_refl _) _
        have hzb : (wr.alloc (.cells #[.slice P (ln k) pc, .slice Q (vl k) qc] 38)).heap.size = wr.heap.size + 1 := by simp
        have HCk : Hid (Calls Tryz.prog 36 #[.slice A n cap, .slice B m bcap, CelV P (ln k) pc Q (vl k) qc] (wr.alloc (.cells #[.slice P (ln k) pc, .slice Q (vl k) qc] 38)) fun e w' => e = .returned (.int .i64 (cellE lo hi n ty m (x k) (ln k) (vk k) (vn k) (vd k) (vs k) (vl k))) ∧ Below (wr.alloc (.cells #[.slice P (ln k) pc, .slice Q (vl k) qc] 38)).heap.size (wr.alloc (.cells #[.slice P (ln k) pc, .slice Q (vl k) qc] 38)) w') :=
          HCe.out _ P (ln k) pc Q (vl k) qc (x k) (vk k) (vn k) (vd k) (vs k) (st HBw.out HBb.out) (x2.below HBb.out) (x3.below HBb.out) x4
        have KW : Hid (∀ W, Below (wr.alloc (.cells #[.slice P (ln k) pc, .slice Q (vl k) qc] 38)).heap.size (wr.alloc (.cells #[.slice P (ln k) pc, .slice Q (vl k) qc] 38)) W → (W.cell? ⟨wr.heap.size, 0, none⟩ = some (.slice P (ln k) pc) ∧ W.cell? ⟨wr.heap.size, 1, none⟩ = some (.slice Q (vl k) qc)) ∧ W.cell? ⟨w.heap.size, 0, none⟩ = some (.slice A n cap) ∧ W.cell? ⟨w.heap.size, 1, none⟩ = some (.slice B m bcap) ∧ W.cell? ⟨w.heap.size, 2, none⟩ = some (.slice (some ⟨bc, oc, none⟩) N ccap)) := fun W hW => by
          have h := (hW.block _ (by omega)).trans hnw
          refine ⟨⟨?_, ?_⟩, KB1.out W (st HBr.out (st HBb.out hW))⟩ <;> (rw [cell_of_row _ _ _ _ _ _ h]; rfl)
        obtain ⟨⟨m0, m1⟩, l0, l1, l2⟩ := KW.out (wr.alloc (.cells #[.slice P (ln k) pc, .slice Q (vl k) qc] 38)) (Below.refl _ _)
        clear hnw
        go_wp2_with fail
        generalize (wr.alloc (.cells #[.slice P (ln k) pc, .slice Q (vl k) qc] 38)) = wb at *
        refine HCk.out.mono ?_
        rintro e w2 ⟨rfl, hb2⟩
        have HB2 : Hid (Below w.heap.size w w2) := st HBw.out (st HBb.out hb2)
        have HB12 : Hid (Below w1.heap.size w1 w2) := st HBr.out (st HBb.out hb2)
        have HS : Hid (cellsTo lo hi n ty m ln vl x vk vn vd vs (k + 1) = cellsE lo hi n ty m ln vl x vk vn vd vs k) := by show _ = _; rw [cellsTo, if_pos HK.out]
        have HEr : Hid (cellsE lo hi n ty m ln vl x vk vn vd vs k ≠ 0 → ve = cellsE lo hi n ty m ln vl x vk vn vd vs k) := fun h => by
          rw [← HV1.out, cellsTo_le (k := k + 1) (by rw [HS.out]; exact h) (by omega), HS.out]
        have HD : Hid (cellsE lo hi n ty m ln vl x vk vn vd vs k = if cellE lo hi n ty m (x k) (ln k) (vk k) (vn k) (vd k) (vs k) (vl k) ≠ 0 then cellE lo hi n ty m (x k) (ln k) (vk k) (vn k) (vd k) (vs k) (vl k) else if k = 0 then 0 else ordE (cmpS (ln (k - 1)) (ln k) (x (k - 1)) (x k))) := rfl
        generalize cellE lo hi n ty m (x k) (ln k) (vk k) (vn k) (vd k) (vs k) (vl k) = ce at *
        have KW2 : Hid (∀ W, Below w2.heap.size w2 W → (W.cell? ⟨wr.heap.size, 0, none⟩ = some (.slice P (ln k) pc) ∧ W.cell? ⟨wr.heap.size, 1, none⟩ = some (.slice Q (vl k) qc)) ∧ W.cell? ⟨w.heap.size, 0, none⟩ = some (.slice A n cap) ∧ W.cell? ⟨w.heap.size, 1, none⟩ = some (.slice B m bcap) ∧ W.cell? ⟨w.heap.size, 2, none⟩ = some (.slice (some ⟨bc, oc, none⟩) N ccap)) := fun W hW => KW.out W (st hb2 hW)
        clear m0 m1 l0 l1 l2 KW HCk x0 x1
        by_cases hce : ce = 0
        · subst hce
          by_cases hk0 : k = 0
          · subst hk0
            have HSZ : Hid (cellsTo lo hi n ty m ln vl x vk vn vd vs (0 + 1) = 0) := by show _ = _; rw [HS.out, HD.out]; rfl
            clear HS HEr HD
            go_wp2
            exact ⟨⟨1, by omega, rfl, HSZ, HB12⟩, by simp [intOf]; omega⟩
          · obtain ⟨p, rfl⟩ : ∃ p, k = p + 1 := ⟨k - 1, by omega⟩
            have hk1 : (((p + 1 : Nat) : Int) == 0) = false := by rw [beq_eq_false_iff_ne]; omega
            go_wp2_with fail
            obtain ⟨P', pc', Q', qc', z0, z1, z2, z3, z4⟩ := hcc p (by omega)
            have HPx : Hid (∀ W, Below w2.heap.size w2 W → W.cell? ⟨bc, oc + p * 2, none⟩ = some (.slice P' (ln p) pc')) := fun W hW => (((st HBb.out (st hb2 hW))).cell (p := ⟨bc, oc + p * 2, none⟩) hbc).trans z0
            have HCp : Hid (∀ W, Below w2.heap.size w2 W → Calls Tryz.prog 40 #[.slice P' (ln p) pc', .slice P (ln (p + 1)) pc] W fun e w' => e = .returned (.int .i64 (cmpS (ln p) (ln (p + 1)) (x p) (x (p + 1)))) ∧ w' = W) := fun W hW => HCm.out W P' P (ln p) pc' (ln (p + 1)) pc (x p) (x (p + 1)) (z2.below (st HBb.out (st hb2 hW))) (x2.below (st HBb.out (st hb2 hW))) (by omega) (by omega)
            have HD2 : Hid (cellsE lo hi n ty m ln vl x vk vn vd vs (p + 1) = ordE (cmpS (ln p) (ln (p + 1)) (x p) (x (p + 1)))) := by show _ = _; rw [HD.out, if_neg (by simp), if_neg (by omega)]; rfl
            clear HD z0 z1 z2 z3 x2 x3
            generalize cmpS (ln p) (ln (p + 1)) (x p) (x (p + 1)) = cz at *
            have hwp : IntKind.i64.wrap ((p : Int) + 1 - 1) = p := by rw [show (p : Int) + 1 - 1 = p by omega]; exact w64 (by omega) (by omega)
            have KS : Hid (∀ W, Below w2.heap.size w2 W → W.cell? ⟨bc, oc + p * 2, none⟩ = some (.slice P' (ln p) pc') ∧ W.cell? ⟨wr.heap.size, 0, none⟩ = some (.slice P (ln (p + 1)) pc) ∧ W.cell? ⟨w.heap.size, 2, none⟩ = some (.slice (some ⟨bc, oc, none⟩) N ccap)) := fun W hW => ⟨HPx.out W hW, (KW2.out W hW).1.1, (KW2.out W hW).2.2.2⟩
            have B0d : Below w2.heap.size w2 w2.drew := Below.drew (Below.refl _ _)
            have hwp2 : IntKind.i64.wrap (p : Int) = p := w64 (by omega) (by omega)
            have hp0 : (0 : Int) ≤ (p : Int) := by omega
            have hpN : (p : Int) < (N : Int) := by omega
            have hpn : p < N := by omega
            by_cases hz0 : cz = 0
            · subst hz0
              have HE : Hid (ve = 5) := by show _ = _; rw [HEr.out (by rw [HD2.out]; decide), HD2.out]; rfl
              clear HS HEr HD2
              go_region_held3 (fun W => W.cell? ⟨bc, oc + p * 2, none⟩ = some (.slice P' (ln p) pc') ∧ W.cell? ⟨wr.heap.size, 0, none⟩ = some (.slice P (ln (p + 1)) pc) ∧ W.cell? ⟨w.heap.size, 2, none⟩ = some (.slice (some ⟨bc, oc, none⟩) N ccap))
                (first | exact KS.out _ B0d | exact KS.out _ (Below.refl _ _))
                (first
                  | (go_at_call 40; refine (HCp.out _ B0d).mono ?_; rintro e w3 ⟨rfl, rfl⟩))
              all_goals
                go_wp2
                go_ret
                exact ⟨by rw [HE.out]; rfl, st HB2.out B0d⟩
            · by_cases hz1 : cz = 1
              · subst hz1
                have HE : Hid (ve = 2) := by show _ = _; rw [HEr.out (by rw [HD2.out]; decide), HD2.out]; rfl
                clear HS HEr HD2
                go_region_held3 (fun W => W.cell? ⟨bc, oc + p * 2, none⟩ = some (.slice P' (ln p) pc') ∧ W.cell? ⟨wr.heap.size, 0, none⟩ = some (.slice P (ln (p + 1)) pc) ∧ W.cell? ⟨w.heap.size, 2, none⟩ = some (.slice (some ⟨bc, oc, none⟩) N ccap))
                  (first | exact KS.out _ B0d | exact KS.out _ (Below.refl _ _))
                  (first
                    | (go_at_call 40; refine (HCp.out _ B0d).mono ?_; rintro e w3 ⟨rfl, rfl⟩))
                all_goals
                  go_wp2
                  go_ret
                  exact ⟨by rw [HE.out]; rfl, st HB2.out B0d⟩
              · have HSZ : Hid (cellsTo lo hi n ty m ln vl x vk vn vd vs (p + 1 + 1) = 0) := by show _ = _; rw [HS.out, HD2.out, ordE, if_neg hz0, if_neg hz1]
                have e0 : (cz == 0) = false := by rw [beq_eq_false_iff_ne]; exact hz0
                have e1 : (cz == 1) = false := by rw [beq_eq_false_iff_ne]; exact hz1
                clear HS HEr HD2 hz0 hz1
                go_region_held3 (fun W => W.cell? ⟨bc, oc + p * 2, none⟩ = some (.slice P' (ln p) pc') ∧ W.cell? ⟨wr.heap.size, 0, none⟩ = some (.slice P (ln (p + 1)) pc) ∧ W.cell? ⟨w.heap.size, 2, none⟩ = some (.slice (some ⟨bc, oc, none⟩) N ccap))
                  (first | exact KS.out _ B0d | exact KS.out _ (Below.refl _ _))
                  (first
                    | (go_at_call 40; refine (HCp.out _ B0d).mono ?_; rintro e w3 ⟨rfl, rfl⟩))
                all_goals
                  go_wp2
                  exact ⟨⟨p + 1 + 1, by omega, by go_num, HSZ, st HB12.out B0d⟩, by simp [intOf]; omega⟩
        · have h1 : (ce != 0) = true := by rw [bne_iff_ne]; exact hce
          have HE : Hid (ve = ce) := by show _ = _; rw [HEr.out (by rw [HD.out, if_pos hce]; exact hce), HD.out, if_pos hce]
          clear hce HS HEr HD
          go_wp2
          go_ret
          exact ⟨by rw [HE.out]; rfl, HB2.out⟩
      · obtain rfl : k = N := by omega
        go_wp2
        go_ret
        exact ⟨by rw [← HV1.out, HK.out]; rfl, HBw.out⟩
  · have h1 : (me != 0) = true := by rw [bne_iff_ne]; exact h0
    have HE : Hid (ve = me) := by show _ = _; rw [← HV.out, if_pos h0]
    clear h0 HV
    go_wp2
    go_ret
    exact ⟨by rw [HE.out]; rfl, HB1.out⟩
end Go.Proofs.YtogmbehomilalaaGreatDoor
end

/- The string of an array. -/
section
namespace Go.Proofs.YtogmbehomilalaaGreatDoor
open Go Go.RowKit Go.Deep

def upT (hi : Int) : List UInt8 := if hi = 1073741825 then [42] else Lib.itoa hi
set_option maxHeartbeats 2000000 in
theorem s_printUpper (hi : Int) (h0 : -9223372036854775808 ≤ hi) (h1 : hi ≤ 9223372036854775807) (w : World) (htab : Tab w) :
    Calls Tryz.prog 65 #[.int .i64 hi] w fun e w' => e = .returned (.string ⟨(upT hi).toArray⟩) ∧ Below w.heap.size w w' := by
  have HI := Lib.hid (i_toa hi h0 h1 w htab)
  unfold upT
  by_cases h : hi = 1073741825
  · rw [if_pos h]
    subst h
    clear HI htab
    go_enter Tryz.func65, Tryz.ntmps65
    go_wp2
    go_ret
    exact ⟨rfl, Below.refl _ _⟩
  · rw [if_neg h]
    have h2 : (hi == 1073741825) = false := by rw [beq_eq_false_iff_ne]; exact h
    clear h h0 h1 htab
    go_enter Tryz.func65, Tryz.ntmps65
    go_wp2_with (go_at_call 64; refine HI.out.mono ?_; rintro e w1 ⟨rfl, hb1⟩)
    go_ret
    exact ⟨rfl, hb1⟩
def tyN (t : Nat) : ByteArray := if t = 1 then ⟨#[98, 111, 111, 108]⟩ else if t = 2 then ⟨#[105, 110, 116]⟩ else if t = 3 then ⟨#[114, 97, 116]⟩ else ⟨#[116, 101, 120, 116]⟩
/-- The names of the types, as the program keeps them. -/
def TyTab (w : World) : Prop := ∀ t : Nat, 1 ≤ t → t ≤ 4 → w.cell? ⟨0, t, none⟩ = some (.string (tyN t))
def dimT (nm : ByteArray) (lo hi : Int) : List UInt8 := [100, 105, 109, 32] ++ nm.data.toList ++ [32] ++ Lib.itoa lo ++ [58] ++ upT hi ++ [10]
def dimsT (nm : Nat → ByteArray) (lo hi : Nat → Int) : Nat → List UInt8
  | 0 => []
  | k + 1 => dimsT nm lo hi k ++ dimT (nm k) (lo k) (hi k)
def attrT (nm : ByteArray) (t : Int) : List UInt8 := [97, 116, 116, 114, 32] ++ nm.data.toList ++ [32] ++ (tyN t.toNat).data.toList ++ [10]
def attrsT (nm : Nat → ByteArray) (ty : Nat → Int) : Nat → List UInt8
  | 0 => []
  | k + 1 => attrsT nm ty k ++ attrT (nm k) (ty k)
def rowsT (ln vl : Nat → Nat) (x vk vn vd : Nat → Nat → Int) (vs : Nat → Nat → ByteArray) : Nat → List UInt8
  | 0 => []
  | k + 1 => rowsT ln vl x vk vn vd vs k ++ cellT (x k) (ln k) (vk k) (vn k) (vd k) (vs k) (vl k)
theorem upT_len {hi : Int} (h0 : -9223372036854775808 ≤ hi) (h1 : hi ≤ 9223372036854775807) : (upT hi).length ≤ 21 := by
  unfold upT
  split
  · decide
  · exact Lib.itoa_length_le hi h0 h1
theorem dimsT_len {nm : Nat → ByteArray} {lo hi : Nat → Int} {n : Nat} (h : ∀ k, k < n → (nm k).size ≤ 1000 ∧ (-9223372036854775808 ≤ lo k ∧ lo k ≤ 9223372036854775807) ∧ -9223372036854775808 ≤ hi k ∧ hi k ≤ 9223372036854775807) : ∀ k, k ≤ n → (dimsT nm lo hi k).length ≤ 1100 * k := by
  intro k
  induction k with
  | zero => intro _; exact Nat.le_refl _
  | succ k ih =>
    intro hk
    have h1 := ih (by omega)
    obtain ⟨a1, ⟨a2, a3⟩, a4, a5⟩ := h k (by omega)
    have h2 := Lib.itoa_length_le (lo k) a2 a3
    have h3 := upT_len a4 a5
    have h4 : (nm k).data.toList.length = (nm k).size := by simp
    rw [dimsT, List.length_append, dimT]
    simp only [List.length_append, List.length_cons, List.length_nil, h4]
    omega
theorem tyN_len (t : Nat) : (tyN t).data.toList.length ≤ 4 := by
  unfold tyN
  split
  · decide
  · split
    · decide
    · split <;> decide
theorem attrsT_len {nm : Nat → ByteArray} {ty : Nat → Int} {n : Nat} (h : ∀ k, k < n → (nm k).size ≤ 1000) : ∀ k, k ≤ n → (attrsT nm ty k).length ≤ 1100 * k := by
  intro k
  induction k with
  | zero => intro _; exact Nat.le_refl _
  | succ k ih =>
    intro hk
    have h1 := ih (by omega)
    have h2 := h k (by omega)
    have h3 := tyN_len (ty k).toNat
    have h4 : (nm k).data.toList.length = (nm k).size := by simp
    rw [attrsT, List.length_append, attrT]
    simp only [List.length_append, List.length_cons, List.length_nil, h4]
    omega
theorem rowsT_len {ln vl : Nat → Nat} {x vk vn vd : Nat → Nat → Int} {vs : Nat → Nat → ByteArray} {N : Nat} (h : ∀ k, k < N → (atT (x k) (ln k)).length ≤ 1000 ∧ (valsT (vk k) (vn k) (vd k) (vs k) (vl k)).length ≤ 10000) : ∀ k, k ≤ N → (rowsT ln vl x vk vn vd vs k).length ≤ 11001 * k := by
  intro k
  induction k with
  | zero => intro _; exact Nat.le_refl _
  | succ k ih =>
    intro hk
    have h1 := ih (by omega)
    obtain ⟨h2, h3⟩ := h k (by omega)
    rw [rowsT, List.length_append, cellT]
    simp only [List.length_append, List.length_cons, List.length_nil]
    omega
/-- Two strings joined. -/
theorem joined (a b : ByteArray) (n : Nat) (h : a.size + b.size = n) (hn : n ≤ 9223372036854775807) : ∃ c : ByteArray, c.size = n ∧ c.data.toList = a.data.toList ++ b.data.toList ∧ ∀ W, (Op.stringOp .add a b).run Tryz.prog W = .ok (.string c) W :=
  ⟨a ++ b, by rw [ByteArray.size_append, h], by simp [ByteArray.data_append], fun W => run_string_add_sum W a b (by omega)⟩
end Go.Proofs.YtogmbehomilalaaGreatDoor
end

/- Print, of an array without an error. -/
section
namespace Go.Proofs.YtogmbehomilalaaGreatDoor
open Go Go.RowKit Go.Deep

set_option maxRecDepth 100000 in
set_option maxHeartbeats 8000000 in
theorem s_Print (w : World) (A B C : Option Addr) (n cap m bcap N ccap : Nat) (nm : Nat → ByteArray) (lo hi : Nat → Int) (an : Nat → ByteArray) (ty : Nat → Int) (ln vl : Nat → Nat) (x vk vn vd : Nat → Nat → Int) (vs : Nat → Nat → ByteArray) (ml : Int)
    (hd : DimsAt w A n nm lo hi) (ha : AttrsAt w B m an ty) (hc : CellsAt w C N ln vl x vk vn vd vs) (hn : n ≤ 1000) (hm : m ≤ 1000) (hN : N ≤ 10000) (htab : Tab w) (htt : TyTab w) (hml : w.cell? ⟨6, 0, none⟩ = some (.int .i64 ml))
    (hdr : ∀ k, k < n → (nm k).size ≤ 1000 ∧ (-9223372036854775808 ≤ lo k ∧ lo k ≤ 9223372036854775807) ∧ -9223372036854775808 ≤ hi k ∧ hi k ≤ 9223372036854775807)
    (har : ∀ k, k < m → (an k).size ≤ 1000 ∧ 1 ≤ ty k ∧ ty k ≤ 4)
    (hcr : ∀ k, k < N → ln k ≤ 10 ∧ vl k ≤ 9 ∧ (∀ j, j < ln k → -9223372036854775808 ≤ x k j ∧ x k j ≤ 9223372036854775807) ∧ ∀ j, j < vl k → (prnV (vk k j) (vn k j) (vd k j) (vs k j)).size ≤ 1000)
    (hck : checkE nm lo hi n an ty m N ln vl x vk vn vd vs = 0) :
    Calls Tryz.prog 26 #[ArrV A n cap B m bcap C N ccap] w fun e w' => e = .returned (.tuple #[.string ⟨(dimsT nm lo hi n ++ attrsT an ty m ++ rowsT ln vl x vk vn vd vs N).toArray⟩, .int .i64 0]) ∧ Below w.heap.size w w' := by
  have KB := Lib.hid (arr_box w (.slice A n cap) (.slice B m bcap) (.slice C N ccap) 29)
  have HB : Hid (Below w.heap.size w (w.alloc (.cells #[.slice A n cap, .slice B m bcap, .slice C N ccap] 29))) := (Below.refl _ _).alloc (Nat.le_refl _) _
  have hz0 : (w.alloc (.cells #[.slice A n cap, .slice B m bcap, .slice C N ccap] 29)).heap.size = w.heap.size + 1 := by simp
  have HCK : Hid (∀ W, Below w.heap.size w W → Calls Tryz.prog 28 #[ArrV A n cap B m bcap C N ccap] W fun e w' => e = .returned (.int .i64 0) ∧ Below W.heap.size W w') := fun W hW => by
    rw [← hck]
    exact s_Check W A B C n cap m bcap N ccap nm lo hi an ty ln vl x vk vn vd vs (hd.below hW) (ha.below hW) (hc.below hW) hn hm (by omega)
  have hml0 : 6 < w.heap.size := cell_lt' hml
  have htt0 : 0 < w.heap.size := cell_lt' (htt 1 (by omega) (by omega))
  have HML : Hid (∀ W, Below w.heap.size w W → W.cell? ⟨6, 0, none⟩ = some (.int .i64 ml)) := fun W hW => (hW.cell (p := ⟨6, 0, none⟩) hml0).trans hml
  have HTT : Hid (∀ W, Below w.heap.size w W → TyTab W) := fun W hW t h1 h2 => (hW.cell (p := ⟨0, t, none⟩) htt0).trans (htt t h1 h2)
  have HT : Hid (∀ W, Below w.heap.size w W → Tab W) := fun W hW => htab.below hW
  have HD := Lib.hid hd
  have HA := Lib.hid ha
  have HC := Lib.hid hc
  have HDR := Lib.hid hdr
  have HAR := Lib.hid har
  have HCR := Lib.hid hcr
  have HDL := Lib.hid (dimsT_len hdr)
  have HAL := Lib.hid (attrsT_len (ty := ty) fun k hk => (har k hk).1)
  have HRL := Lib.hid (rowsT_len (ln := ln) (vl := vl) (x := x) (vk := vk) (vn := vn) (vd := vd) (vs := vs) fun k hk => by
    obtain ⟨h1, h2, h3, h4⟩ := hcr k hk
    have a1 := atT_len h3 _ (Nat.le_refl _)
    have a2 := valsT_len h4 _ (Nat.le_refl _)
    exact ⟨by omega, by omega⟩)
  clear hd ha hc htab htt hml hdr har hcr hck
  go_enter Tryz.func26, Tryz.ntmps26
  go_wp2_with fail
  generalize w.alloc (.cells #[.slice A n cap, .slice B m bcap, .slice C N ccap] 29) = W0 at *
  obtain ⟨l0, l1, l2⟩ := KB.out W0 (Below.refl _ _)
  go_wp2_with fail
  refine (HCK.out _ HB.out).mono ?_
  rintro e w1 ⟨rfl, hb1⟩
  have HB1 : Hid (Below w.heap.size w w1) := st HB.out hb1
  have hz1 : w.heap.size < w1.heap.size := by have := hb1.size; omega
  have KB1 : Hid (∀ W, Below w1.heap.size w1 W → W.cell? ⟨w.heap.size, 0, none⟩ = some (.slice A n cap) ∧ W.cell? ⟨w.heap.size, 1, none⟩ = some (.slice B m bcap) ∧ W.cell? ⟨w.heap.size, 2, none⟩ = some (.slice C N ccap)) := fun W hW => KB.out W (hb1.trans (hW.mono hb1.size))
  clear l0 l1 l2 KB HB hb1 HCK
  obtain ⟨l0, l1, l2⟩ := KB1.out (w1.alloc (.cells #[.pointer none, .slice none 0 0] 113)) ((Below.refl _ _).alloc (Nat.le_refl _) _)
  have HI : Hid (IsB w1.heap.size w1.heap.size [] (w1.alloc (.cells #[.pointer none, .slice none 0 0] 113))) := Lib.fresh_isBuilder _ _ _
  have HBa : Hid (Below w1.heap.size w1 (w1.alloc (.cells #[.pointer none, .slice none 0 0] 113))) := (Below.refl _ _).alloc (Nat.le_refl _) _
  have hza : (w1.alloc (.cells #[.pointer none, .slice none 0 0] 113)).heap.size = w1.heap.size + 1 := by simp
  go_wp2_with fail
  generalize w1.alloc (.cells #[.pointer none, .slice none 0 0] 113) = wB at *
  generalize hb : w1.heap.size = b at *
  have HW0 : Hid (Wrote b b [] wB wB) := ⟨HI.out, Below.refl _ _, KeepB.refl _⟩
  have HDn : Hid (∀ W, Below b wB W → Below w.heap.size w W) := fun W hW => HB1.out.trans ((HBa.out.trans hW).mono (by omega))
  have KW : Hid (∀ W, Below b wB W → W.cell? ⟨w.heap.size, 0, none⟩ = some (.slice A n cap) ∧ W.cell? ⟨w.heap.size, 1, none⟩ = some (.slice B m bcap) ∧ W.cell? ⟨w.heap.size, 2, none⟩ = some (.slice C N ccap)) := fun W hW => KB1.out W (HBa.out.trans hW)
  clear l0 l1 l2 KB1 HBa
  go_loopw [6, 17] (fun _ i wr => ∃ k : Nat, k ≤ n ∧ i = .int .i64 k ∧ Hid (Wrote b b (dimsT nm lo hi k) wB wr)) (fun _ i _ => n - (intOf i).toNat)
  case atStart => exact ⟨0, Nat.zero_le _, rfl, HW0.out⟩
  case round =>
    obtain ⟨k, hk, rfl, HW⟩ := hrel
    obtain ⟨l0, l1, l2⟩ := KW.out wr HW.out.2.1
    have hsz := HW.out.2.1.size
    by_cases hlt : k < n
    · obtain ⟨bd, od, rfl, _, hcd⟩ := (HD.out.below (HDn.out wr HW.out.2.1)) (by omega)
      obtain ⟨x0, x1, x2⟩ := hcd k hlt
      clear hcd
      obtain ⟨r1, ⟨r2, r3⟩, r4, r5⟩ := HDR.out k hlt
      have hdl := HDL.out k (by omega)
      have hil := Lib.itoa_length_le (lo k) r2 r3
      have hul := upT_len r4 r5
      have HTo : Hid (∀ W, Below b wB W → Calls Tryz.prog 64 #[.int .i64 (lo k)] W fun e w' => e = .returned (.string ⟨(Lib.itoa (lo k)).toArray⟩) ∧ Below W.heap.size W w') := fun W hW => i_toa (lo k) r2 r3 W (HT.out W (HDn.out W hW))
      have HUp : Hid (∀ W, Below b wB W → Calls Tryz.prog 65 #[.int .i64 (hi k)] W fun e w' => e = .returned (.string ⟨(upT (hi k)).toArray⟩) ∧ Below W.heap.size W w') := fun W hW => s_printUpper (hi k) r4 r5 W (HT.out W (HDn.out W hW))
      have HS : Hid (dimsT nm lo hi (k + 1) = dimsT nm lo hi k ++ ([100, 105, 109, 32] ++ (nm k).data.toList ++ [32] ++ Lib.itoa (lo k) ++ [58] ++ upT (hi k) ++ [10])) := rfl
      clear r2 r3 r4 r5
      obtain ⟨c1, z1, q1, j1⟩ := joined ⟨#[100, 105, 109, 32]⟩ (nm k) _ rfl (by show 4 + _ ≤ _; omega)
      obtain ⟨c2, z2, q2, j2⟩ := joined c1 ⟨#[32]⟩ _ rfl (by rw [z1]; show 4 + _ + 1 ≤ _; omega)
      obtain ⟨c3, z3, q3, j3⟩ := joined c2 ⟨(Lib.itoa (lo k)).toArray⟩ _ rfl (by rw [z2, z1]; show 4 + _ + 1 + (Lib.itoa (lo k)).toArray.size ≤ _; rw [List.size_toArray]; omega)
      obtain ⟨c4, z4, q4, j4⟩ := joined c3 ⟨#[58]⟩ _ rfl (by rw [z3, z2, z1]; show 4 + _ + 1 + (Lib.itoa (lo k)).toArray.size + 1 ≤ _; rw [List.size_toArray]; omega)
      obtain ⟨c5, z5, q5, j5⟩ := joined c4 ⟨(upT (hi k)).toArray⟩ _ rfl (by rw [z4, z3, z2, z1]; show 4 + _ + 1 + (Lib.itoa (lo k)).toArray.size + 1 + (upT (hi k)).toArray.size ≤ _; rw [List.size_toArray, List.size_toArray]; omega)
      obtain ⟨c6, z6, q6, j6⟩ := joined c5 ⟨#[10]⟩ _ rfl (by rw [z5, z4, z3, z2, z1]; show 4 + _ + 1 + (Lib.itoa (lo k)).toArray.size + 1 + (upT (hi k)).toArray.size + 1 ≤ _; rw [List.size_toArray, List.size_toArray]; omega)
      have hz6 : c6.size ≤ 10000 := by rw [z6, z5, z4, z3, z2, z1]; show 4 + _ + 1 + (Lib.itoa (lo k)).toArray.size + 1 + (upT (hi k)).toArray.size + 1 ≤ _; rw [List.size_toArray, List.size_toArray]; omega
      have HC6 : Hid (c6.data.toList = [100, 105, 109, 32] ++ (nm k).data.toList ++ [32] ++ Lib.itoa (lo k) ++ [58] ++ upT (hi k) ++ [10]) := by show _ = _; rw [q6, q5, q4, q3, q2, q1]
      clear z1 z2 z3 z4 z5 z6 q1 q2 q3 q4 q5 q6
      generalize Lib.itoa (lo k) = tl at *
      generalize upT (hi k) = tu at *
      generalize nm k = s9 at *
      generalize lo k = l9 at *
      generalize hi k = h9 at *
      have hba : Below wr.heap.size wr (wr.alloc (.cells #[.string s9, .int .i64 l9, .int .i64 h9] 57)) := (Below.refl _ _).alloc (Nat.le_refl _) _
      have hnw := heap_alloc_new wr (.cells #[.string s9, .int .i64 l9, .int .i64 h9] 57)
      go_wp2_with fail
      generalize wr.alloc (.cells #[.string s9, .int .i64 l9, .int .i64 h9] 57) = wa at *
      have KD : Hid (∀ W, KeepB wa W → W.cell? ⟨wr.heap.size, 0, none⟩ = some (.string s9) ∧ W.cell? ⟨wr.heap.size, 1, none⟩ = some (.int .i64 l9) ∧ W.cell? ⟨wr.heap.size, 2, none⟩ = some (.int .i64 h9)) := fun W hW =>
        ⟨(hW.cell (i := 0) hnw (by decide) (by decide)).trans rfl, (hW.cell (i := 1) hnw (by decide) (by decide)).trans rfl, (hW.cell (i := 2) hnw (by decide) (by decide)).trans rfl⟩
      have HWd : Hid (Wrote b b (dimsT nm lo hi k) wB wa.drew) := (HW.out.grow hba (by omega)).grow (Below.drew (Below.refl _ _)) (by have := hba.size; omega)
      have hzr : b ≤ wa.drew.heap.size := by have := hba.size; show b ≤ wa.heap.size; omega
      have K0 : KeepB wa wa.drew := KeepB.below (Below.drew (Below.refl _ _))
      clear x0 x1 x2 hnw hba HW l0 l1 l2
      go_region_held3 (fun W => W.cell? ⟨wr.heap.size, 0, none⟩ = some (.string s9) ∧ W.cell? ⟨wr.heap.size, 1, none⟩ = some (.int .i64 l9) ∧ W.cell? ⟨wr.heap.size, 2, none⟩ = some (.int .i64 h9))
        (first | exact KD.out _ (K0.trans ((KeepB.below hb2).trans ((KeepB.below hb3).trans hw4.2.2))) | exact KD.out _ (K0.trans ((KeepB.below hb2).trans (KeepB.below hb3))) | exact KD.out _ (K0.trans (KeepB.below hb2)) | exact KD.out _ K0 | exact KD.out _ (KeepB.refl _))
        (first
          | (go_at_call 64; refine (HTo.out _ HWd.out.2.1).mono ?_; rintro e w2 ⟨rfl, hb2⟩; have HW2 := Lib.hid (HWd.out.grow hb2 hzr); have hz2 : b ≤ w2.heap.size := Nat.le_trans hzr hb2.size)
          | (go_at_call 65; refine (HUp.out _ HW2.out.2.1).mono ?_; rintro e w3 ⟨rfl, hb3⟩; have HW3 := Lib.hid (HW2.out.grow hb3 hz2); have hz3 : b ≤ w3.heap.size := Nat.le_trans hz2 hb3.size)
          | (go_at_call 63; refine (w_string b b _ c6 w3 HW3.out.1 (by omega) hz3).mono ?_; rintro e w4 ⟨rfl, hw4⟩))
      all_goals
        have HN : Hid (Wrote b b (dimsT nm lo hi (k + 1)) wB w4) := by show Wrote _ _ _ _ _; rw [HS.out, ← HC6.out]; exact HW3.out.then hw4
        go_wp2
        exact ⟨⟨k + 1, by omega, by go_num, HN⟩, by simp [intOf]; omega⟩
    · obtain rfl : k = n := by omega
      have hdl := HDL.out k (Nat.le_refl _)
      go_wp2_with fail
      clear l0 l1 l2
      go_loopw [8, 40] (fun _ i wr => ∃ j : Nat, j ≤ m ∧ i = .int .i64 j ∧ Hid (Wrote b b (dimsT nm lo hi k ++ attrsT an ty j) wB wr)) (fun _ i _ => m - (intOf i).toNat)
      case atStart => exact ⟨0, Nat.zero_le _, rfl, by show Wrote b b (_ ++ []) wB wr; rw [List.append_nil]; exact HW.out⟩
      case round =>
        clear HW hsz
        obtain ⟨j, hj, rfl, HW⟩ := hrel
        obtain ⟨l0, l1, l2⟩ := KW.out wr HW.out.2.1
        have hsz := HW.out.2.1.size
        by_cases hlt : j < m
        · obtain ⟨ba, oa, rfl, _, hca⟩ := (HA.out.below (HDn.out wr HW.out.2.1)) (by omega)
          obtain ⟨x0, x1⟩ := hca j hlt
          clear hca
          obtain ⟨r1, r2, r3⟩ := HAR.out j hlt
          have hal := HAL.out j (by omega)
          obtain ⟨tn, htn⟩ : ∃ tn : Nat, ty j = tn := ⟨(ty j).toNat, by omega⟩
          have HS : Hid (dimsT nm lo hi k ++ attrsT an ty (j + 1) = dimsT nm lo hi k ++ attrsT an ty j ++ ([97, 116, 116, 114, 32] ++ (an j).data.toList ++ [32] ++ (tyN tn).data.toList ++ [10])) := by show _ = _; rw [attrsT, attrT, htn]; simp only [List.append_assoc]; rfl
          have HTy : Hid (∀ W, Below b wB W → W.cell? ⟨0, tn, none⟩ = some (.string (tyN tn))) := fun W hW => HTT.out W (HDn.out W hW) tn (by omega) (by omega)
          have htl := tyN_len tn
          have htl2 : (tyN tn).data.toList.length = (tyN tn).size := by simp
          rw [htn] at x1
          generalize an j = s9 at *
          generalize tyN tn = ts at *
          obtain ⟨c1, z1, q1, j1⟩ := joined ⟨#[97, 116, 116, 114, 32]⟩ s9 _ rfl (by show 5 + _ ≤ _; omega)
          obtain ⟨c2, z2, q2, j2⟩ := joined c1 ⟨#[32]⟩ _ rfl (by rw [z1]; show 5 + _ + 1 ≤ _; omega)
          obtain ⟨c3, z3, q3, j3⟩ := joined c2 ts _ rfl (by rw [z2, z1]; show 5 + _ + 1 + _ ≤ _; omega)
          obtain ⟨c4, z4, q4, j4⟩ := joined c3 ⟨#[10]⟩ _ rfl (by rw [z3, z2, z1]; show 5 + _ + 1 + _ + 1 ≤ _; omega)
          have hz4 : c4.size ≤ 10000 := by rw [z4, z3, z2, z1]; show 5 + _ + 1 + _ + 1 ≤ _; omega
          have HC4 : Hid (c4.data.toList = [97, 116, 116, 114, 32] ++ s9.data.toList ++ [32] ++ ts.data.toList ++ [10]) := by show _ = _; rw [q4, q3, q2, q1]
          have htn0 : (0 : Int) ≤ (tn : Int) := by omega
          have htn5 : (tn : Int) < 5 := by omega
          have htn6 : tn < 5 := by omega
          clear z1 z2 z3 z4 q1 q2 q3 q4 r2 r3 htl htl2
          have hba : Below wr.heap.size wr (wr.alloc (.cells #[.string s9, .int .i64 tn] 59)) := (Below.refl _ _).alloc (Nat.le_refl _) _
          have hnw := heap_alloc_new wr (.cells #[.string s9, .int .i64 tn] 59)
          go_wp2_with fail
          generalize wr.alloc (.cells #[.string s9, .int .i64 tn] 59) = wa at *
          have KD : Hid (∀ W, KeepB wa W → W.cell? ⟨wr.heap.size, 0, none⟩ = some (.string s9) ∧ W.cell? ⟨wr.heap.size, 1, none⟩ = some (.int .i64 tn)) := fun W hW =>
            ⟨(hW.cell (i := 0) hnw (by decide) (by decide)).trans rfl, (hW.cell (i := 1) hnw (by decide) (by decide)).trans rfl⟩
          have HWd : Hid (Wrote b b (dimsT nm lo hi k ++ attrsT an ty j) wB wa.drew) := (HW.out.grow hba (by omega)).grow (Below.drew (Below.refl _ _)) (by have := hba.size; omega)
          have hzr : b ≤ wa.drew.heap.size := by have := hba.size; show b ≤ wa.heap.size; omega
          have K0 : KeepB wa wa.drew := KeepB.below (Below.drew (Below.refl _ _))
          have hT0 := HTy.out wa ((HW.out.grow hba (by omega)).2.1)
          clear x0 x1 hnw hba HW l0 l1 l2
          go_region_held3 (fun W => W.cell? ⟨0, tn, none⟩ = some (.string ts) ∧ W.cell? ⟨wr.heap.size, 0, none⟩ = some (.string s9) ∧ W.cell? ⟨wr.heap.size, 1, none⟩ = some (.int .i64 tn))
            (first | exact ⟨HTy.out _ (HWd.out.then hw4).2.1, KD.out _ (K0.trans hw4.2.2)⟩ | exact ⟨HTy.out _ HWd.out.2.1, KD.out _ K0⟩ | exact ⟨hT0, KD.out _ (KeepB.refl _)⟩)
            (first
              | (go_at_call 63; refine (w_string b b _ c4 wa.drew HWd.out.1 (by rw [List.length_append]; omega) hzr).mono ?_; rintro e w4 ⟨rfl, hw4⟩))
          all_goals
            have HN : Hid (Wrote b b (dimsT nm lo hi k ++ attrsT an ty (j + 1)) wB w4) := by show Wrote _ _ _ _ _; rw [HS.out, ← HC4.out]; exact HWd.out.then hw4
            go_wp2
            exact ⟨⟨j + 1, by omega, by go_num, HN⟩, by simp [intOf]; omega⟩
        · obtain rfl : j = m := by omega
          have hal := HAL.out j (Nat.le_refl _)
          go_wp2_with fail
          clear l0 l1 l2
          go_loopw [10, 59] (fun _ i wr => ∃ t : Nat, t ≤ N ∧ i = .int .i64 t ∧ Hid (Wrote b b (dimsT nm lo hi k ++ attrsT an ty j ++ rowsT ln vl x vk vn vd vs t) wB wr)) (fun _ i _ => N - (intOf i).toNat)
          case atStart => exact ⟨0, Nat.zero_le _, rfl, by show Wrote b b (_ ++ []) wB wr; rw [List.append_nil]; exact HW.out⟩
          case round =>
            clear HW hsz
            obtain ⟨t, ht, rfl, HW⟩ := hrel
            obtain ⟨l0, l1, l2⟩ := KW.out wr HW.out.2.1
            have hsz := HW.out.2.1.size
            by_cases hlt : t < N
            · obtain ⟨bc, oc, rfl, hbc, hcc⟩ := HC.out (by omega)
              obtain ⟨P, pc, Q, qc, y0, y1, y2, y3, y4⟩ := hcc t hlt
              have x0 := ((HDn.out wr HW.out.2.1).cell (p := ⟨bc, oc + t * 2, none⟩) hbc).trans y0
              have x1 := ((HDn.out wr HW.out.2.1).cell (p := ⟨bc, oc + t * 2 + 1, none⟩) hbc).trans y1
              obtain ⟨r1, r2, r3, r4⟩ := HCR.out t hlt
              have hrl := HRL.out t (by omega)
              have hba : Below wr.heap.size wr (wr.alloc (.cells #[.slice P (ln t) pc, .slice Q (vl t) qc] 38)) := (Below.refl _ _).alloc (Nat.le_refl _) _
              have HWa : Hid (Wrote b b (dimsT nm lo hi k ++ attrsT an ty j ++ rowsT ln vl x vk vn vd vs t) wB (wr.alloc (.cells #[.slice P (ln t) pc, .slice Q (vl t) qc] 38))) := HW.out.grow hba (by omega)
              have hza2 := hba.size
              have HS : Hid (dimsT nm lo hi k ++ attrsT an ty j ++ rowsT ln vl x vk vn vd vs (t + 1) = dimsT nm lo hi k ++ attrsT an ty j ++ rowsT ln vl x vk vn vd vs t ++ cellT (x t) (ln t) (vk t) (vn t) (vd t) (vs t) (vl t)) := by show _ = _; rw [rowsT]; simp only [List.append_assoc]
              have hDa : ∀ W, Below b (wr.alloc (.cells #[.slice P (ln t) pc, .slice Q (vl t) qc] 38)) W → Below w.heap.size w W := fun W hW => HDn.out W (HWa.out.2.1.trans hW)
              have HPc := Lib.hid (s_printCell (wr.alloc (.cells #[.slice P (ln t) pc, .slice Q (vl t) qc] 38)) b b _ P Q (ln t) pc (vl t) qc (x t) (vk t) (vn t) (vd t) (vs t) ml HWa.out.1 (by omega) (fun W hW => y2.below (hDa W hW)) (fun W hW => y3.below (hDa W hW)) (fun W hW => HT.out W (hDa W hW)) (fun W hW => HML.out W (hDa W hW)) (by rw [List.length_append, List.length_append]; omega) (by omega) (by omega) r3 r4)
              clear y0 y1 y2 y3 hcc r3 r4 hDa
              go_wp2_with fail
              refine HPc.out.mono ?_
              rintro e w4 ⟨rfl, hw4⟩
              have HN : Hid (Wrote b b (dimsT nm lo hi k ++ attrsT an ty j ++ rowsT ln vl x vk vn vd vs (t + 1)) wB w4) := by show Wrote _ _ _ _ _; rw [HS.out]; exact HWa.out.then hw4
              clear hw4 HPc
              go_wp2
              exact ⟨⟨t + 1, by omega, by go_num, HN⟩, by simp [intOf]; omega⟩
            · obtain rfl : t = N := by omega
              have HSt := Lib.hid (Tryz.Builder_String_any b b _ wr HW.out.1 (by omega))
              go_wp2_with fail
              refine HSt.out.mono ?_
              rintro e w4 ⟨rfl, hb4⟩
              go_wp2
              go_ret2
              exact ⟨by rw [List.append_assoc]; rfl, HDn.out _ (HW.out.2.1.trans hb4)⟩
end Go.Proofs.YtogmbehomilalaaGreatDoor
end

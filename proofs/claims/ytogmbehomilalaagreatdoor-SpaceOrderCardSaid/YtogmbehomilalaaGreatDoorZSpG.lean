/- The error of layouts. -/
import Derived.Test.YtogmbehomilalaaGreatDoorZSpE
import Derived.StillTailTactics

/- The error of layouts. -/
section
namespace Go.Proofs.YtogmbehomilalaaGreatDoor
open Go Go.RowKit Go.Deep

abbrev LayV (S : Option Addr) (s sc : Nat) (O : Option Addr) (o oc : Nat) (ord tile form codec : Int) : Value := .agg #[.slice S s sc, .slice O o oc, .int .i64 ord, .int .i64 tile, .int .i64 form, .int .i64 codec]
def ordB (o t : Int) : Bool := if o = 1 ∨ o = 2 then t == 0 else if o = 3 then decide (1 ≤ t) && decide (t ≤ 64) else false
set_option maxRecDepth 100000 in
set_option maxHeartbeats 2000000 in
theorem s_validOrder (S O : Option Addr) (s sc o oc : Nat) (ord tile form codec : Int) (w : World) :
    Calls Tryz.prog 87 #[LayV S s sc O o oc ord tile form codec] w fun e w' => e = .returned (.bool (ordB ord tile)) ∧ Below w.heap.size w w' := by
  have HB : Hid (∀ x, Below w.heap.size w (w.alloc x)) := fun x => (Below.refl _ _).alloc (Nat.le_refl _) _
  by_cases h1 : ord = 1
  · subst h1
    have e1 : ordB 1 tile = (tile == 0) := rfl
    rw [e1]
    go_enter Tryz.func87, Tryz.ntmps87
    go_wp2
    go_ret
    exact ⟨rfl, HB.out _⟩
  · by_cases h2 : ord = 2
    · subst h2
      have e1 : ordB 2 tile = (tile == 0) := rfl
      rw [e1]
      go_enter Tryz.func87, Tryz.ntmps87
      go_wp2
      go_ret
      exact ⟨rfl, HB.out _⟩
    · by_cases h3 : ord = 3
      · subst h3
        have e1 : ordB 3 tile = (decide (1 ≤ tile) && decide (tile ≤ 64)) := rfl
        rw [e1]
        by_cases g1 : 1 ≤ tile
        · rw [decide_eq_true g1, Bool.true_and]
          go_enter Tryz.func87, Tryz.ntmps87
          go_wp2
          go_ret
          exact ⟨rfl, HB.out _⟩
        · rw [decide_eq_false g1, Bool.false_and]
          go_enter Tryz.func87, Tryz.ntmps87
          go_wp2
          go_ret
          exact ⟨rfl, HB.out _⟩
      · have e1 : ordB ord tile = false := by simp [ordB, h1, h2, h3]
        rw [e1]
        have g1 : (ord == 1) = false := by rw [beq_eq_false_iff_ne]; exact h1
        have g2 : (ord == 2) = false := by rw [beq_eq_false_iff_ne]; exact h2
        have g3 : (ord == 3) = false := by rw [beq_eq_false_iff_ne]; exact h3
        clear h1 h2 h3 e1
        go_enter Tryz.func87, Tryz.ntmps87
        go_wp2
        go_ret
        exact ⟨rfl, HB.out _⟩

theorem lay_box (w : World) (S O : Option Addr) (s sc o oc : Nat) (ord tile form codec : Int) (W : World) (h : Below (w.alloc (.cells #[.slice S s sc, .slice O o oc, .int .i64 ord, .int .i64 tile, .int .i64 form, .int .i64 codec] 43)).heap.size (w.alloc (.cells #[.slice S s sc, .slice O o oc, .int .i64 ord, .int .i64 tile, .int .i64 form, .int .i64 codec] 43)) W) :
    W.cell? ⟨w.heap.size, 0, none⟩ = some (.slice S s sc) ∧ W.cell? ⟨w.heap.size, 1, none⟩ = some (.slice O o oc) ∧ W.cell? ⟨w.heap.size, 2, none⟩ = some (.int .i64 ord) ∧ W.cell? ⟨w.heap.size, 3, none⟩ = some (.int .i64 tile) ∧ W.cell? ⟨w.heap.size, 4, none⟩ = some (.int .i64 form) ∧ W.cell? ⟨w.heap.size, 5, none⟩ = some (.int .i64 codec) := by
  have hnw := heap_alloc_new w (Obj.cells #[.slice S s sc, .slice O o oc, .int .i64 ord, .int .i64 tile, .int .i64 form, .int .i64 codec] 43)
  have hb := (h.block w.heap.size (by simp)).trans hnw
  refine ⟨?_, ?_, ?_, ?_, ?_, ?_⟩ <;> (rw [cell_of_row _ _ _ _ _ _ hb]; rfl)
/-- Are the first k sides and overlaps within their bounds? -/
def layTo (sd ov : Nat → Int) : Nat → Bool
  | 0 => true
  | k + 1 => layTo sd ov k && decide (1 ≤ sd k ∧ sd k ≤ 64 ∧ 0 ≤ ov k ∧ ov k ≤ 16 ∧ ov k ≤ sd k)
theorem layTo_le {sd ov : Nat → Int} {k n : Nat} (h : layTo sd ov k = false) (hn : k ≤ n) : layTo sd ov n = false := by
  induction n with
  | zero => obtain rfl : k = 0 := by omega
            exact h
  | succ n ih =>
    by_cases e : k = n + 1
    · rw [← e]; exact h
    · rw [layTo, ih (by omega)]; rfl
theorem layTo_ok {sd ov : Nat → Int} {n : Nat} (h : layTo sd ov n = true) : ∀ k, k < n → 1 ≤ sd k ∧ sd k ≤ 64 ∧ 0 ≤ ov k ∧ ov k ≤ 16 ∧ ov k ≤ sd k := by
  induction n with
  | zero => exact fun k hk => absurd hk (by omega)
  | succ n ih =>
    rw [layTo, Bool.and_eq_true, decide_eq_true_eq] at h
    intro k hk
    by_cases e : k = n
    · rw [e]; exact h.2
    · exact ih h.1 k (by omega)
/-- The volume of a chunk with its overlap. -/
def lvolZ (sd ov : Nat → Int) : Nat → Int
  | 0 => 1
  | k + 1 => lvolZ sd ov k * (sd k + 2 * ov k)
theorem lvolZ_bound {sd ov : Nat → Int} {k : Nat} (h : layTo sd ov k = true) : 1 ≤ lvolZ sd ov k ∧ lvolZ sd ov k ≤ 96 ^ k := by
  induction k with
  | zero => exact ⟨by unfold lvolZ; decide, by unfold lvolZ; decide⟩
  | succ k ih =>
    have h1 := layTo_ok h k (by omega)
    rw [layTo, Bool.and_eq_true] at h
    have h2 := ih h.1
    rw [lvolZ, Int.pow_succ]
    have h3 := Int.mul_le_mul h2.2 (by omega : sd k + 2 * ov k ≤ 96) (by omega) (by have := h2.1; omega)
    have h4 := Int.mul_le_mul h2.1 (by omega : 1 ≤ sd k + 2 * ov k) (by omega) (by have := h2.1; omega)
    omega
def argE (b : Bool) : Int := bif b then 0 else 2
noncomputable def layE (nm : Nat → ByteArray) (lo hi : Nat → Int) (n : Nat) (sd ov : Nat → Int) (s o : Nat) (ord tile form codec : Int) : Int :=
  if dimsZ nm lo hi n ≠ 0 then dimsZ nm lo hi n else if s ≠ n ∨ o ≠ n then 13 else if layTo sd ov n = false then 3 else if 4096 < lvolZ sd ov n then 9 else argE (ordB ord tile && (decide (1 ≤ form ∧ form ≤ 3) && decide (1 ≤ codec ∧ codec ≤ 3)))

set_option maxRecDepth 100000 in
set_option maxHeartbeats 4000000 in
theorem s_Layout (w : World) (A S O : Option Addr) (n cap s sc o oc : Nat) (nm : Nat → ByteArray) (lo hi sd ov : Nat → Int) (ord tile form codec : Int) (hd : DimsAt w A n nm lo hi) (hs : IntsAt w S s sd) (ho : IntsAt w O o ov) (hs1 : s ≤ 1000) (ho1 : o ≤ 1000) (hn1 : n ≤ 1000) :
    Calls Tryz.prog 101 #[.slice A n cap, LayV S s sc O o oc ord tile form codec] w fun e w' => e = .returned (.int .i64 (layE nm lo hi n sd ov s o ord tile form codec)) ∧ Below w.heap.size w w' := by
  have hmm := @run_makeMap Tryz.prog
  have KB := Lib.hid (lay_box w S O s sc o oc ord tile form codec)
  have HB : Hid (Below w.heap.size w (w.alloc (.cells #[.slice S s sc, .slice O o oc, .int .i64 ord, .int .i64 tile, .int .i64 form, .int .i64 codec] 43))) := (Below.refl _ _).alloc (Nat.le_refl _) _
  have HC := Lib.hid (s_dims (w.alloc (.cells #[.slice S s sc, .slice O o oc, .int .i64 ord, .int .i64 tile, .int .i64 form, .int .i64 codec] 43)) A n cap nm lo hi (hd.below HB.out))
  have HO := Lib.hid (fun W => s_validOrder S O s sc o oc ord tile form codec W)
  have HD := Lib.hid hd
  have HSI := Lib.hid hs
  have HOI := Lib.hid ho
  obtain ⟨ve, hve⟩ : ∃ ve, layE nm lo hi n sd ov s o ord tile form codec = ve := ⟨_, rfl⟩
  rw [hve]
  have HV := Lib.hid hve
  clear hd hs ho hve
  by_cases h0 : dimsZ nm lo hi n = 0
  · have HE : Hid (ve = if s ≠ n ∨ o ≠ n then 13 else if layTo sd ov n = false then 3 else if 4096 < lvolZ sd ov n then 9 else argE (ordB ord tile && (decide (1 ≤ form ∧ form ≤ 3) && decide (1 ≤ codec ∧ codec ≤ 3)))) := by show _ = _; rw [← HV.out, layE, if_neg (by rw [h0]; simp)]
    have h4 : n ≤ 4 := (dimsZ_ok h0).2.1
    rw [h0] at HC
    have HZ : Hid ((w.alloc (.cells #[.slice S s sc, .slice O o oc, .int .i64 ord, .int .i64 tile, .int .i64 form, .int .i64 codec] 43)).heap.size = w.heap.size + 1) := by show _ = _; simp
    rw [HZ.out] at HC
    clear h0
    go_enter Tryz.func101, Tryz.ntmps101
    go_wp2_with fail
    generalize w.alloc (.cells #[.slice S s sc, .slice O o oc, .int .i64 ord, .int .i64 tile, .int .i64 form, .int .i64 codec] 43) = W0 at *
    refine HC.out.mono ?_
    rintro e w1 ⟨rfl, hb1, hz1, _⟩
    have HB1 : Hid (Below W0.heap.size W0 w1) := by show Below _ _ _; rw [HZ.out]; exact hb1
    clear hb1 HC
    obtain ⟨l0, l1, l2, l3, l4, l5⟩ := KB.out w1 HB1.out
    by_cases h1 : s = n
    · by_cases h2 : o = n
      · obtain rfl : n = s := h1.symm
        obtain rfl : n = o := h2.symm
        have HE2 : Hid (ve = if layTo sd ov n = false then 3 else if 4096 < lvolZ sd ov n then 9 else argE (ordB ord tile && (decide (1 ≤ form ∧ form ≤ 3) && decide (1 ≤ codec ∧ codec ≤ 3)))) := by show _ = _; rw [HE.out, if_neg (by omega)]
        go_wp2
        go_loopw [6, 7, 8, 9, 35] (fun v _ _ _ i wr => ∃ k : Nat, k ≤ n ∧ i = .int .i64 k ∧ v = .int .i64 (lvolZ sd ov k) ∧ Hid (layTo sd ov k = true ∧ Below W0.heap.size W0 wr)) (fun _ _ _ _ i _ => n - (intOf i).toNat)
        case atStart => exact ⟨0, Nat.zero_le _, rfl, rfl, rfl, HB1.out⟩
        case round =>
          obtain ⟨k, hk, rfl, rfl, HK⟩ := hrel
          have HBw := Lib.hid HK.out.2
          have HW : Hid (Below w.heap.size w wr) := st HB.out HBw.out
          obtain ⟨m0, m1, m2, m3, m4, m5⟩ := KB.out wr HBw.out
          by_cases hlt : k < n
          · obtain ⟨bs, os, rfl, _, hcs⟩ := (HSI.out.below HW.out) (by omega)
            have x0 := hcs k hlt
            obtain ⟨bo, oo, rfl, _, hco⟩ := (HOI.out.below HW.out) (by omega)
            have y0 := hco k hlt
            clear hcs hco
            have HS : Hid (layTo sd ov (k + 1) = decide (1 ≤ sd k ∧ sd k ≤ 64 ∧ 0 ≤ ov k ∧ ov k ≤ 16 ∧ ov k ≤ sd k)) := by show _ = _; rw [layTo, HK.out.1]; rfl
            have HF : Hid (decide (1 ≤ sd k ∧ sd k ≤ 64 ∧ 0 ≤ ov k ∧ ov k ≤ 16 ∧ ov k ≤ sd k) = false → layTo sd ov n = false) := fun h => layTo_le (k := k + 1) (by rw [HS.out, h]) (by omega)
            have HP : Hid (lvolZ sd ov (k + 1) = lvolZ sd ov k * (sd k + 2 * ov k)) := rfl
            have HPB : Hid (decide (1 ≤ sd k ∧ sd k ≤ 64 ∧ 0 ≤ ov k ∧ ov k ≤ 16 ∧ ov k ≤ sd k) = true → 1 ≤ lvolZ sd ov k * (sd k + 2 * ov k) ∧ lvolZ sd ov k * (sd k + 2 * ov k) ≤ 100000000) := fun h => by
              have h1 := lvolZ_bound (k := k + 1) (by rw [HS.out, h])
              rw [HP.out] at h1
              have h2 : k = 0 ∨ k = 1 ∨ k = 2 ∨ k = 3 := by omega
              rcases h2 with rfl | rfl | rfl | rfl <;> omega
            obtain ⟨P, hP⟩ : ∃ P, lvolZ sd ov k = P := ⟨_, rfl⟩
            rw [hP] at HP HPB ⊢
            clear hP
            generalize sd k = x at *
            generalize ov k = y at *
            by_cases g1 : x < 1
            · have HR : Hid (layTo sd ov n = false) := HF.out (decide_eq_false (by omega))
              have HVE : Hid (ve = 3) := by show _ = _; rw [HE2.out, if_pos HR.out]
              go_wp2
              go_ret
              exact ⟨by rw [HVE.out]; rfl, st HB.out HBw.out⟩
            · by_cases g2 : x > 64
              · have HR : Hid (layTo sd ov n = false) := HF.out (decide_eq_false (by omega))
                have HVE : Hid (ve = 3) := by show _ = _; rw [HE2.out, if_pos HR.out]
                go_wp2
                go_ret
                exact ⟨by rw [HVE.out]; rfl, st HB.out HBw.out⟩
              · by_cases g3 : y < 0
                · have HR : Hid (layTo sd ov n = false) := HF.out (decide_eq_false (by omega))
                  have HVE : Hid (ve = 3) := by show _ = _; rw [HE2.out, if_pos HR.out]
                  go_wp2
                  go_ret
                  exact ⟨by rw [HVE.out]; rfl, st HB.out HBw.out⟩
                · by_cases g4 : 16 ≤ x
                  · by_cases g5 : y > 16
                    · have HR : Hid (layTo sd ov n = false) := HF.out (decide_eq_false (by omega))
                      have HVE : Hid (ve = 3) := by show _ = _; rw [HE2.out, if_pos HR.out]
                      go_wp2
                      go_ret
                      exact ⟨by rw [HVE.out]; rfl, st HB.out HBw.out⟩
                    · have HT : Hid (decide (1 ≤ x ∧ x ≤ 64 ∧ 0 ≤ y ∧ y ≤ 16 ∧ y ≤ x) = true) := decide_eq_true (by omega)
                      have hMB := HPB.out HT.out
                      obtain ⟨M, hM⟩ : ∃ M, P * (x + 2 * y) = M := ⟨_, rfl⟩
                      rw [hM] at hMB HP
                      have hMw : wrap64 (P * (x + 2 * y)) = M := by rw [hM]; unfold wrap64; omega
                      clear hM HPB HF
                      have HS2 : Hid (layTo sd ov (k + 1) = true) := by show _ = _; rw [HS.out, HT.out]
                      go_wp2
                      go_roundw
                      case rel => exact ⟨k + 1, by omega, by go_num, by rw [HP.out, hMw], HS2.out, HBw.out⟩
                      case measure => simp [intOf]; omega
                  · by_cases g5 : y > x
                    · have HR : Hid (layTo sd ov n = false) := HF.out (decide_eq_false (by omega))
                      have HVE : Hid (ve = 3) := by show _ = _; rw [HE2.out, if_pos HR.out]
                      go_wp2
                      go_ret
                      exact ⟨by rw [HVE.out]; rfl, st HB.out HBw.out⟩
                    · have HT : Hid (decide (1 ≤ x ∧ x ≤ 64 ∧ 0 ≤ y ∧ y ≤ 16 ∧ y ≤ x) = true) := decide_eq_true (by omega)
                      have hMB := HPB.out HT.out
                      obtain ⟨M, hM⟩ : ∃ M, P * (x + 2 * y) = M := ⟨_, rfl⟩
                      rw [hM] at hMB HP
                      have hMw : wrap64 (P * (x + 2 * y)) = M := by rw [hM]; unfold wrap64; omega
                      clear hM HPB HF
                      have HS2 : Hid (layTo sd ov (k + 1) = true) := by show _ = _; rw [HS.out, HT.out]
                      go_wp2
                      go_roundw
                      case rel => exact ⟨k + 1, by omega, by go_num, by rw [HP.out, hMw], HS2.out, HBw.out⟩
                      case measure => simp [intOf]; omega
          · obtain rfl : k = n := by omega
            have HLT := Lib.hid HK.out.1
            have HPB : Hid (1 ≤ lvolZ sd ov k ∧ lvolZ sd ov k ≤ 100000000) := by
              have h1 := lvolZ_bound HK.out.1
              have h2 : k = 0 ∨ k = 1 ∨ k = 2 ∨ k = 3 ∨ k = 4 := by omega
              show _ ∧ _
              rcases h2 with rfl | rfl | rfl | rfl | rfl <;> omega
            have HE3 : Hid (ve = if 4096 < lvolZ sd ov k then 9 else argE (ordB ord tile && (decide (1 ≤ form ∧ form ≤ 3) && decide (1 ≤ codec ∧ codec ≤ 3)))) := by show _ = _; rw [HE2.out, if_neg (by rw [HLT.out]; decide)]
            generalize lvolZ sd ov k = P at *
            by_cases g1 : 4096 < P
            · have HVE : Hid (ve = 9) := by show _ = _; rw [HE3.out, if_pos g1]
              go_wp2
              go_ret
              exact ⟨by rw [HVE.out]; rfl, HW.out⟩
            · have HE4 : Hid (ve = argE (ordB ord tile && (decide (1 ≤ form ∧ form ≤ 3) && decide (1 ≤ codec ∧ codec ≤ 3)))) := by show _ = _; rw [HE3.out, if_neg g1]
              have hf : form < 1 ∨ (1 ≤ form ∧ form ≤ 3) ∨ (1 ≤ form ∧ 3 < form) := by omega
              have hc : codec < 1 ∨ (1 ≤ codec ∧ codec ≤ 3) ∨ (1 ≤ codec ∧ 3 < codec) := by omega
              rcases hf with f1 | ⟨f1, f2⟩ | ⟨f1, f2⟩ <;> rcases hc with c1 | ⟨c1, c2⟩ | ⟨c1, c2⟩
              all_goals
                first
                | (have HFm : Hid (decide (1 ≤ form ∧ form ≤ 3) = true) := decide_eq_true (by omega))
                | (have HFm : Hid (decide (1 ≤ form ∧ form ≤ 3) = false) := decide_eq_false (by omega))
                first
                | (have HCm : Hid (decide (1 ≤ codec ∧ codec ≤ 3) = true) := decide_eq_true (by omega))
                | (have HCm : Hid (decide (1 ≤ codec ∧ codec ≤ 3) = false) := decide_eq_false (by omega))
                first
                | (have d1 : decide (form ≤ 3) = true := decide_eq_true f2)
                | (have d1 : decide (form ≤ 3) = false := decide_eq_false (by omega))
                | skip
                first
                | (have d2 : decide (codec ≤ 3) = true := decide_eq_true c2)
                | (have d2 : decide (codec ≤ 3) = false := decide_eq_false (by omega))
                | skip
                go_wp2_with fail
                refine (HO.out _).mono ?_
                rintro e w2 ⟨rfl, hb2⟩
                have HB2 := Lib.hid (st HW.out hb2)
                have HBb := Lib.hid (st HBw.out hb2)
                clear hb2
                obtain ⟨p0, p1, p2, p3, p4, p5⟩ := KB.out w2 HBb.out
                generalize hO : ordB ord tile = OB
                have HOv := Lib.hid hO
                clear hO
                cases OB
                all_goals
                  go_wp2
                  go_ret
                  exact ⟨by rw [HE4.out, HOv.out, HFm.out, HCm.out]; rfl, HB2.out⟩
      · have HVE : Hid (ve = 13) := by show _ = _; rw [HE.out, if_pos (.inr h2)]
        obtain rfl : n = s := h1.symm
        have g2 : ((o : Int) != (n : Int)) = true := by rw [bne_iff_ne]; omega
        clear h2
        go_wp2
        go_ret
        exact ⟨by rw [HVE.out]; rfl, st HB.out HB1.out⟩
    · have HVE : Hid (ve = 13) := by show _ = _; rw [HE.out, if_pos (.inl h1)]
      have g2 : ((s : Int) != (n : Int)) = true := by rw [bne_iff_ne]; omega
      clear h1
      go_wp2
      go_ret
      exact ⟨by rw [HVE.out]; rfl, st HB.out HB1.out⟩
  · have HE : Hid (ve = dimsZ nm lo hi n) := by show _ = _; rw [← HV.out, layE, if_pos h0]
    have HZ : Hid ((w.alloc (.cells #[.slice S s sc, .slice O o oc, .int .i64 ord, .int .i64 tile, .int .i64 form, .int .i64 codec] 43)).heap.size = w.heap.size + 1) := by show _ = _; simp
    rw [HZ.out] at HC
    generalize dimsZ nm lo hi n = E at *
    have h1 : (E != 0) = true := by rw [bne_iff_ne]; exact h0
    clear h0
    go_enter Tryz.func101, Tryz.ntmps101
    go_wp2_with fail
    generalize w.alloc (.cells #[.slice S s sc, .slice O o oc, .int .i64 ord, .int .i64 tile, .int .i64 form, .int .i64 codec] 43) = W0 at *
    refine HC.out.mono ?_
    rintro e w1 ⟨rfl, hb1, hz1, _⟩
    have HB1 : Hid (Below W0.heap.size W0 w1) := by show Below _ _ _; rw [HZ.out]; exact hb1
    clear hb1 HC
    go_wp2
    go_ret
    exact ⟨by rw [HE.out]; rfl, st HB.out HB1.out⟩
end Go.Proofs.YtogmbehomilalaaGreatDoor
end

/- The error of coordinates under a layout; the chunk of coordinates. -/
section
namespace Go.Proofs.YtogmbehomilalaaGreatDoor
open Go Go.RowKit Go.Deep

theorem info_int : (Tryz.prog.info? 3).map (fun i => (i.zero, i.size, i.bytes)) = some (some (.int .i64 0), 1, 8) := by kernel_rfl
def updZ (f : Nat → Int) (k : Nat) (v : Int) (j : Nat) : Int := if j = k then v else f j
theorem set_int {w : World} {b t n : Nat} {f : Nat → Int} (h : w.rowIs b t n fun j => .int .i64 (f j)) (i : Nat) (v : Int) (u : Value) (hu : u = .int .i64 v) : (w.setCell ⟨b, i, none⟩ u).rowIs b t n fun j => .int .i64 (updZ f i v j) := by
  subst hu
  refine (h.set i _).congr fun j _ => ?_
  unfold updZ
  by_cases e : j = i
  · simp only [if_pos e]
  · simp only [if_neg e]
theorem ints_row {w : World} {b t n : Nat} {f : Nat → Int} (h : w.rowIs b t n fun j => .int .i64 (f j)) : IntsAt w (some ⟨b, 0, none⟩) n f := fun _ =>
  ⟨b, 0, rfl, h.lt, fun k hk => by rw [Nat.zero_add, h.cell hk]⟩
theorem lay_zero {nm : Nat → ByteArray} {lo hi sd ov : Nat → Int} {n s o : Nat} {ord tile form codec : Int} (h : layE nm lo hi n sd ov s o ord tile form codec = 0) : dimsZ nm lo hi n = 0 ∧ s = n ∧ o = n ∧ layTo sd ov n = true := by
  unfold layE at h
  by_cases h0 : dimsZ nm lo hi n = 0
  · rw [if_neg (by rw [h0]; simp)] at h
    by_cases h1 : s ≠ n ∨ o ≠ n
    · rw [if_pos h1] at h; exact absurd h (by decide)
    · rw [if_neg h1] at h
      by_cases h2 : layTo sd ov n = false
      · rw [if_pos h2] at h; exact absurd h (by decide)
      · exact ⟨h0, by omega, by omega, by simpa using h2⟩
  · rw [if_pos h0] at h; exact absurd h h0
noncomputable def atE (nm : Nat → ByteArray) (lo hi : Nat → Int) (n : Nat) (sd ov : Nat → Int) (s o : Nat) (ord tile form codec : Int) (xs : Nat → Int) (m : Nat) : Int :=
  if layE nm lo hi n sd ov s o ord tile form codec ≠ 0 then layE nm lo hi n sd ov s o ord tile form codec else placeEr lo hi xs n m

set_option maxRecDepth 100000 in
set_option maxHeartbeats 4000000 in
theorem s_atError (w : World) (A S O X : Option Addr) (n cap s sc o oc m mc : Nat) (nm : Nat → ByteArray) (lo hi sd ov xs : Nat → Int) (ord tile form codec : Int) (hd : DimsAt w A n nm lo hi) (hs : IntsAt w S s sd) (ho : IntsAt w O o ov) (hx : IntsAt w X m xs) (hs1 : s ≤ 1000) (ho1 : o ≤ 1000) (hn1 : n ≤ 1000) (hm1 : m ≤ 1000) :
    Calls Tryz.prog 58 #[.slice A n cap, LayV S s sc O o oc ord tile form codec, .slice X m mc] w fun e w' => e = .returned (.int .i64 (atE nm lo hi n sd ov s o ord tile form codec xs m)) ∧ Below w.heap.size w w' := by
  have KB := Lib.hid (lay_box w S O s sc o oc ord tile form codec)
  have HB : Hid (Below w.heap.size w (w.alloc (.cells #[.slice S s sc, .slice O o oc, .int .i64 ord, .int .i64 tile, .int .i64 form, .int .i64 codec] 43))) := (Below.refl _ _).alloc (Nat.le_refl _) _
  have HL := Lib.hid (s_Layout (w.alloc (.cells #[.slice S s sc, .slice O o oc, .int .i64 ord, .int .i64 tile, .int .i64 form, .int .i64 codec] 43)) A S O n cap s sc o oc nm lo hi sd ov ord tile form codec (hd.below HB.out) (hs.below HB.out) (ho.below HB.out) hs1 ho1 hn1)
  have HP : Hid (∀ W, Below w.heap.size w W → Calls Tryz.prog 76 #[.slice A n cap, .slice X m mc] W fun e w' => e = .returned (.int .i64 (placeEr lo hi xs n m)) ∧ Below W.heap.size W w') := fun W hW => s_placeError W A X n cap m mc nm lo hi xs (hd.below hW) (hx.below hW) hn1 hm1
  obtain ⟨ve, hve⟩ : ∃ ve, atE nm lo hi n sd ov s o ord tile form codec xs m = ve := ⟨_, rfl⟩
  rw [hve]
  have HV := Lib.hid hve
  clear hd hs ho hx hve
  go_enter Tryz.func58, Tryz.ntmps58
  go_wp2_with fail
  generalize w.alloc (.cells #[.slice S s sc, .slice O o oc, .int .i64 ord, .int .i64 tile, .int .i64 form, .int .i64 codec] 43) = W0 at *
  obtain ⟨l0, l1, l2, l3, l4, l5⟩ := KB.out W0 (Below.refl _ _)
  go_wp2_with fail
  refine HL.out.mono ?_
  rintro e w1 ⟨rfl, hb1⟩
  have HB1 : Hid (Below w.heap.size w w1) := st HB.out hb1
  clear hb1 HL l0 l1 l2 l3 l4 l5
  by_cases h0 : layE nm lo hi n sd ov s o ord tile form codec = 0
  · have HE : Hid (ve = placeEr lo hi xs n m) := by show _ = _; rw [← HV.out, atE, if_neg (by rw [h0]; simp)]
    rw [h0]
    clear h0
    go_wp2_with fail
    refine (HP.out _ HB1.out).mono ?_
    rintro e w2 ⟨rfl, hb2⟩
    go_wp2
    go_ret
    exact ⟨by rw [HE.out]; rfl, st HB1.out hb2⟩
  · have HE : Hid (ve = layE nm lo hi n sd ov s o ord tile form codec) := by show _ = _; rw [← HV.out, atE, if_pos h0]
    generalize layE nm lo hi n sd ov s o ord tile form codec = E at *
    have h1 : (E != 0) = true := by rw [bne_iff_ne]; exact h0
    clear h0
    go_wp2
    go_ret
    exact ⟨by rw [HE.out]; rfl, HB1.out⟩

/-- The number of the chunk along a dimension. -/
def chZ (lo sd xs : Nat → Int) (k : Nat) : Int := (xs k - lo k) / sd k
theorem inTo_ok {lo hi xs : Nat → Int} {n : Nat} (h : inTo lo hi xs n = true) : ∀ k, k < n → lo k ≤ xs k ∧ xs k ≤ lastZ (hi k) := by
  induction n with
  | zero => exact fun k hk => absurd hk (by omega)
  | succ n ih =>
    rw [inTo, Bool.and_eq_true, Bool.and_eq_true, decide_eq_true_eq, decide_eq_true_eq] at h
    intro k hk
    by_cases e : k = n
    · rw [e]; exact h.2
    · exact ih h.1 k (by omega)
theorem lastZ_le (hi : Int) : lastZ hi ≤ 1073741824 := by unfold lastZ; split <;> omega
theorem at_zero {nm : Nat → ByteArray} {lo hi sd ov : Nat → Int} {n s o : Nat} {ord tile form codec : Int} {xs : Nat → Int} {m : Nat} (h : atE nm lo hi n sd ov s o ord tile form codec xs m = 0) :
    layE nm lo hi n sd ov s o ord tile form codec = 0 ∧ n = m ∧ inTo lo hi xs n = true := by
  unfold atE at h
  by_cases h0 : layE nm lo hi n sd ov s o ord tile form codec = 0
  · rw [if_neg (by rw [h0]; simp), placeEr] at h
    by_cases h1 : n = m
    · rw [if_neg (by omega)] at h
      refine ⟨h0, h1, ?_⟩
      cases h2 : inTo lo hi xs n
      · rw [h2] at h; exact absurd h (by decide)
      · rfl
    · rw [if_pos h1] at h; exact absurd h (by decide)
  · rw [if_pos h0] at h; exact absurd h h0
/-- What holds of coordinates under a layout without an error. -/
theorem at_facts {nm : Nat → ByteArray} {lo hi sd ov : Nat → Int} {n s o : Nat} {ord tile form codec : Int} {xs : Nat → Int} {m : Nat} (h : atE nm lo hi n sd ov s o ord tile form codec xs m = 0) :
    s = n ∧ o = n ∧ m = n ∧ 1 ≤ n ∧ n ≤ 4 ∧ ∀ k, k < n → -1073741824 ≤ lo k ∧ lo k ≤ xs k ∧ xs k ≤ lastZ (hi k) ∧ lastZ (hi k) ≤ 1073741824 ∧ lo k ≤ hi k ∧ 1 ≤ sd k ∧ sd k ≤ 64 ∧ 0 ≤ ov k ∧ ov k ≤ 16 ∧ ov k ≤ sd k := by
  obtain ⟨h1, h2, h3⟩ := at_zero h
  obtain ⟨h4, h5, h6, h7⟩ := lay_zero h1
  obtain ⟨a1, a2, a3⟩ := dimsZ_ok h4
  refine ⟨h5, h6, h2.symm, a1, a2, fun k hk => ?_⟩
  have b1 := a3 k hk
  have b2 := inTo_ok h3 k hk
  have b3 := layTo_ok h7 k hk
  have b4 := lastZ_le (hi k)
  omega

set_option maxRecDepth 100000 in
set_option maxHeartbeats 4000000 in
theorem s_Chunk (w : World) (A S O X : Option Addr) (n cap s sc o oc m mc : Nat) (nm : Nat → ByteArray) (lo hi sd ov xs : Nat → Int) (ord tile form codec : Int) (hd : DimsAt w A n nm lo hi) (hs : IntsAt w S s sd) (ho : IntsAt w O o ov) (hx : IntsAt w X m xs) (hs1 : s ≤ 1000) (ho1 : o ≤ 1000) (hn1 : n ≤ 1000) (hm1 : m ≤ 1000)
    (he : atE nm lo hi n sd ov s o ord tile form codec xs m = 0) :
    Calls Tryz.prog 21 #[.slice A n cap, LayV S s sc O o oc ord tile form codec, .slice X m mc] w fun e w' => ∃ b, e = .returned (.tuple #[.slice (some ⟨b, 0, none⟩) n n, .int .i64 0]) ∧ w.heap.size ≤ b ∧ w'.rowIs b 3 n (fun k => .int .i64 (chZ lo sd xs k)) ∧ Below w.heap.size w w' := by
  have KB := Lib.hid (lay_box w S O s sc o oc ord tile form codec)
  have HB : Hid (Below w.heap.size w (w.alloc (.cells #[.slice S s sc, .slice O o oc, .int .i64 ord, .int .i64 tile, .int .i64 form, .int .i64 codec] 43))) := (Below.refl _ _).alloc (Nat.le_refl _) _
  have HA := Lib.hid (s_atError (w.alloc (.cells #[.slice S s sc, .slice O o oc, .int .i64 ord, .int .i64 tile, .int .i64 form, .int .i64 codec] 43)) A S O X n cap s sc o oc m mc nm lo hi sd ov xs ord tile form codec (hd.below HB.out) (hs.below HB.out) (ho.below HB.out) (hx.below HB.out) hs1 ho1 hn1 hm1)
  have HF := Lib.hid (at_facts he)
  rw [he] at HA
  obtain ⟨rfl, rfl, rfl, _, hn4, _⟩ := HF.out
  have HD := Lib.hid hd
  have HS := Lib.hid hs
  have HX := Lib.hid hx
  clear hd hs ho hx he
  have hmk := fun W => run_make_row' (P := Tryz.prog) 35 3 (.int .i64 0) 8 Tryz.underlying35 info_int rfl .i64 .i64 m (by omega) (by omega) W
  go_enter Tryz.func21, Tryz.ntmps21
  go_wp2_with fail
  generalize w.alloc (.cells #[.slice S m sc, .slice O m oc, .int .i64 ord, .int .i64 tile, .int .i64 form, .int .i64 codec] 43) = W0 at *
  obtain ⟨l0, l1, l2, l3, l4, l5⟩ := KB.out W0 (Below.refl _ _)
  go_wp2_with fail
  refine HA.out.mono ?_
  rintro e w1 ⟨rfl, hb1⟩
  have HB1 : Hid (Below w.heap.size w w1) := st HB.out hb1
  have HB01 : Hid (Below W0.heap.size W0 w1) := hb1
  clear hb1 HA l0 l1 l2 l3 l4 l5
  obtain ⟨l0, l1, l2, l3, l4, l5⟩ := KB.out w1 HB01.out
  have hz1 := HB1.out.size
  have hkb := fun W h => KB.out W (HB01.out.trans (h : Below W0.heap.size w1 W))
  have hz01 := HB01.out.size
  have HK2 := Lib.hid hkb
  clear hkb
  have l0' : (w1.alloc (.cells (madeCells #[.int .i64 0] m) 3)).cell? ⟨w.heap.size, 0, none⟩ = some (.slice S m sc) := (HK2.out _ ((Below.refl _ _).alloc hz01 _)).1
  go_wp2
  clear hmk l0 l1 l2 l3 l4 l5 l0'
  go_loopw [10, 11, 25] (fun _ _ i wr => ∃ (k : Nat) (f : Nat → Int), k ≤ m ∧ i = .int .i64 k ∧ wr.rowIs w1.heap.size 3 m (fun j => .int .i64 (f j)) ∧ Hid (∀ j, j < k → f j = chZ lo sd xs j) ∧ Hid (Below w.heap.size w wr)) (fun _ _ i _ => m - (intOf i).toNat)
  case atStart => exact ⟨0, fun _ => 0, Nat.zero_le _, rfl, World.rowIs_made _ _ _ _, fun j hj => absurd hj (by omega), HB1.out.alloc hz1 _⟩
  case round =>
    obtain ⟨k, f, hk, rfl, hrow, HV, HBw⟩ := hrel
    have hsz : w1.heap.size < wr.heap.size := hrow.lt
    by_cases hlt : k < m
    · obtain ⟨bd, o, rfl, _, hc⟩ := (HD.out.below HBw.out) (by omega)
      obtain ⟨c0, c1, c2⟩ := hc k hlt
      clear hc
      obtain ⟨bs, os, rfl, _, hcs⟩ := (HS.out.below HBw.out) (by omega)
      have x0 := hcs k hlt
      obtain ⟨bx, ox, rfl, _, hcx⟩ := (HX.out.below HBw.out) (by omega)
      have y0 := hcx k hlt
      clear hcs hcx
      have hS := hrow.cell (i := k) (by omega)
      have hZ := hrow.frozen k
      have hf := HF.out.2.2.2.2.2 k hlt
      have HC : Hid (chZ lo sd xs k = (xs k - lo k) / sd k) := rfl
      generalize lastZ (hi k) = hl at *
      generalize nm k = s0 at *
      generalize lo k = l0 at *
      generalize hi k = h0 at *
      generalize xs k = z at *
      generalize sd k = q at *
      have hq0 : (q == 0) = false := by rw [beq_eq_false_iff_ne]; omega
      have hq1 : ¬ q = 0 := by omega
      go_wp2_with fail
      go_still_tail 15, (by kernel_rfl)
      change wpList _ _ _ _ _ wr.drew
      have hrow2 : wr.drew.rowIs w1.heap.size 3 m fun j => .int .i64 (f j) := hrow
      have hS2 := hrow2.cell (i := k) (by omega)
      have hZ2 := hrow2.frozen k
      have HBd : Hid (Below w.heap.size w wr.drew) := Below.drew HBw.out
      clear hrow hS hZ
      generalize hw2 : wr.drew = w2 at *
      go_wp2
      go_roundw
      case rel => exact ⟨k + 1, updZ f k ((z - l0) / q), by omega, by go_num, set_int hrow2 k _ _ rfl, fun j hj => by
        by_cases e : j = k
        · rw [updZ, if_pos e, e, HC.out]
        · rw [updZ, if_neg e]; exact HV.out j (by omega), HBd.out.setCell hz1 _⟩
      case measure => simp [intOf]; omega
    · obtain rfl : k = m := by omega
      have HR : Hid (wr.rowIs w1.heap.size 3 k (fun j => .int .i64 (chZ lo sd xs j))) := hrow.congr fun j hj => by rw [HV.out j hj]
      go_wp2
      go_ret2
      exact ⟨_, rfl, hz1, HR.out, HBw.out⟩
end Go.Proofs.YtogmbehomilalaaGreatDoor
end

/- The reference's layout. -/
import Derived.Test.YthmnmologmmeaaaGreatDoorZRfLa
import Derived.BigQuiet
import Derived.Test.YthmnmologmmeaaaGreatDoorZCmpS
import Derived.Test.YthmnmologmmeaaaGreatDoorZSpH
import Derived.Test.YthmnmologmmeaaaGreatDoorZSpG
import Derived.Test.YthmnmologmmeaaaGreatDoorZChF
import Derived.Test.YthmnmologmmeaaaGreatDoorZBldK
import Derived.Maps.AppendAt
import Derived.Test.YthmnmologmmeaaaGreatDoorZSpI

/- The reference's layout. -/
section
namespace Go.Proofs.YthmnmologmmeaaaGreatDoor
open Go Go.RowKit Go.Deep

theorem arg_ok {ob : Bool} {form codec : Int} (h : ob = true) (hf : 1 ≤ form ∧ form ≤ 3) (hc : 1 ≤ codec ∧ codec ≤ 3) : (0 : Int) = argE (ob && (decide (1 ≤ form ∧ form ≤ 3) && decide (1 ≤ codec ∧ codec ≤ 3))) := by
  rw [h, decide_eq_true hf, decide_eq_true hc]; rfl
theorem arg_no1 {ob : Bool} {form codec : Int} (h : ¬ ob = true) : (2 : Int) = argE (ob && (decide (1 ≤ form ∧ form ≤ 3) && decide (1 ≤ codec ∧ codec ≤ 3))) := by
  cases ob
  · rfl
  · exact absurd rfl h
theorem arg_no2 {ob : Bool} {form codec : Int} (hf : ¬ (1 ≤ form ∧ form ≤ 3)) : (2 : Int) = argE (ob && (decide (1 ≤ form ∧ form ≤ 3) && decide (1 ≤ codec ∧ codec ≤ 3))) := by
  rw [decide_eq_false hf, Bool.false_and, Bool.and_false]; rfl
theorem arg_no3 {ob : Bool} {form codec : Int} (hc : ¬ (1 ≤ codec ∧ codec ≤ 3)) : (2 : Int) = argE (ob && (decide (1 ≤ form ∧ form ≤ 3) && decide (1 ≤ codec ∧ codec ≤ 3))) := by
  rw [decide_eq_false hc, Bool.and_false, Bool.and_false]; rfl
set_option maxRecDepth 100000 in
set_option maxHeartbeats 8000000 in
theorem r_Layout (w : World) (A S O : Option Addr) (n cap s sc o oc : Nat) (nm : Nat → ByteArray) (lo hi sd ov : Nat → Int) (ord tile form codec : Int) (hd : DimsAt w A n nm lo hi) (hs : IntsAt w S s sd) (ho : IntsAt w O o ov) (hns : ∀ k, k < n → (nm k).size ≤ 9223372036854775807) (hn1 : n ≤ 1000) (hs1 : s ≤ 1000) (ho1 : o ≤ 1000) :
    Calls Tryz.prog 19 #[.slice A n cap, LayV S s sc O o oc ord tile form codec] w fun e w' => e = .returned (.int .i64 (layE nm lo hi n sd ov s o ord tile form codec)) ∧ Below w.heap.size w w' := by
  have KB := Lib.hid (lay_box w S O s sc o oc ord tile form codec)
  have HB := Lib.hid (lay_row w S O s sc o oc ord tile form codec)
  have HDm : Hid (∀ W, Below w.heap.size w W → Calls Tryz.prog 63 #[.slice A n cap] W fun e w' => e = .returned (.int .i64 (dimsZ nm lo hi n)) ∧ Below W.heap.size W w') := fun W hW => r_Dims W A n cap nm lo hi (hd.below hW) hns hn1
  have HOr := Lib.hid (fun W => r_order S O s sc o oc ord tile form codec W)
  have HS := Lib.hid hs
  have HO := Lib.hid ho
  have HNn : Hid (dimsZ nm lo hi n = 0 → n ≤ 4) := fun h => (dimsZ_ok h).2.1
  obtain ⟨ve, hve⟩ : ∃ ve, layE nm lo hi n sd ov s o ord tile form codec = ve := ⟨_, rfl⟩
  rw [hve]
  have HV := Lib.hid hve
  clear hd hs ho hns hve
  unfold layE at HV
  generalize dimsZ nm lo hi n = dz at *
  generalize ordB ord tile = ob at *
  go_enter Tryz.func19, Tryz.ntmps19
  go_wp2_with fail
  generalize w.alloc (.cells #[.slice S s sc, .slice O o oc, .int .i64 ord, .int .i64 tile, .int .i64 form, .int .i64 codec] 54) = Wa at *
  refine (HDm.out Wa HB.out).mono ?_
  rintro e w1 ⟨rfl, hb1⟩
  have HC1 : Hid (Below Wa.heap.size Wa w1) := hb1
  have HB1 : Hid (Below w.heap.size w w1) := st HB.out hb1
  clear hb1 HDm
  by_cases h0 : dz = 0
  · have hn4 := HNn.out h0
    have HV2 : Hid ((if s ≠ n ∨ o ≠ n then 13 else if layTo sd ov n = false then 3 else if 4096 < lvolZ sd ov n then 9 else argE (ob && (decide (1 ≤ form ∧ form ≤ 3) && decide (1 ≤ codec ∧ codec ≤ 3)))) = ve) := by have := HV.out; rw [if_neg (by rw [h0]; simp)] at this; exact this
    subst h0
    clear HV HNn
    obtain ⟨l0, l1, l2, l3, l4, l5⟩ := KB.out w1 HC1.out
    by_cases hsn : s = n
    · by_cases hon : o = n
      · subst hsn
        subst hon
        have HV3 : Hid ((if layTo sd ov o = false then 3 else if 4096 < lvolZ sd ov o then 9 else argE (ob && (decide (1 ≤ form ∧ form ≤ 3) && decide (1 ≤ codec ∧ codec ≤ 3)))) = ve) := by have := HV2.out; rw [if_neg (by simp)] at this; exact this
        clear HV2
        go_wp2_with fail
        go_loopw [6] (fun i wr => ∃ k : Nat, k ≤ o ∧ i = .int .i64 k ∧ Hid (layTo sd ov k = true) ∧ Hid (Below w1.heap.size w1 wr)) (fun i _ => o - (intOf i).toNat)
        case atStart => exact ⟨0, Nat.zero_le _, rfl, rfl, (Below.refl _ _)⟩
        case round =>
          obtain ⟨k, hk, rfl, HL, HBr⟩ := hrel
          have HVr : Hid (Below w.heap.size w wr) := st HB1.out HBr.out
          have HCr : Hid (Below Wa.heap.size Wa wr) := st HC1.out HBr.out
          obtain ⟨l0, l1, l2, l3, l4, l5⟩ := KB.out wr HCr.out
          by_cases hlt : k < o
          · obtain ⟨bs, os, rfl, hbs, hcs⟩ := (HS.out.below HVr.out) (by omega)
            obtain ⟨bo, oo, rfl, hbo, hco⟩ := (HO.out.below HVr.out) (by omega)
            have x0 := hcs k hlt
            have y0 := hco k hlt
            clear hcs hco
            by_cases hg : 1 ≤ sd k ∧ sd k ≤ 64 ∧ 0 ≤ ov k ∧ ov k ≤ 16 ∧ ov k ≤ sd k
            · have HL2 : Hid (layTo sd ov (k + 1) = true) := by show _ = _; rw [layTo, HL.out, decide_eq_true hg]; rfl
              obtain ⟨q1, q2, q3, q4, q5⟩ := hg
              have a1 : ¬ sd k < 1 := by omega
              have a2 : ¬ sd k > 64 := by omega
              have a3 : ¬ ov k < 0 := by omega
              have a4 : ¬ ov k > 16 := by omega
              have a5 : ¬ ov k > sd k := by omega
              go_wp2_with fail
              go_quiet (fail)
              all_goals
                go_wp2
                go_roundw
                case rel => exact ⟨k + 1, by omega, by go_num, HL2.out, drewB HBr.out _⟩
                case measure => simp [intOf]; omega
            · have HR : Hid (ve = 3) := by
                show _ = _
                have h9 : layTo sd ov o = false := layTo_le (k := k + 1) (by rw [layTo, HL.out, decide_eq_false hg]; rfl) (by omega)
                rw [← HV3.out, if_pos h9]
              have hc : sd k < 1 ∨ (¬ sd k < 1 ∧ sd k > 64) ∨ (¬ sd k < 1 ∧ ¬ sd k > 64 ∧ ov k < 0) ∨ (¬ sd k < 1 ∧ ¬ sd k > 64 ∧ ¬ ov k < 0 ∧ ov k > 16) ∨ (¬ sd k < 1 ∧ ¬ sd k > 64 ∧ ¬ ov k < 0 ∧ ¬ ov k > 16 ∧ ov k > sd k) := by omega
              clear hg HL HV3
              generalize sd k = x at *
              generalize ov k = y at *
              rcases hc with c1 | ⟨c1, c2⟩ | ⟨c1, c2, c3⟩ | ⟨c1, c2, c3, c4⟩ | ⟨c1, c2, c3, c4, c5⟩
              · skip
                go_wp2_with fail
                go_quiet (fail)
                go_wp2
                go_ret
                exact ⟨congrArg Ending.returned (congrArg (Value.int .i64) HR.out.symm), drewB HVr.out _⟩
              · skip
                have d1 : decide (x < 1) = false := decide_eq_false c1
                have d2 : 64 < x := c2
                clear c1 c2
                go_wp2_with fail
                go_quiet (fail)
                go_wp2
                go_ret
                exact ⟨congrArg Ending.returned (congrArg (Value.int .i64) HR.out.symm), drewB HVr.out _⟩
              · skip
                have d1 : decide (x < 1) = false := decide_eq_false c1
                have d2 : decide (64 < x) = false := decide_eq_false c2
                clear c1 c2
                go_wp2_with fail
                go_quiet (fail)
                go_wp2
                go_ret
                exact ⟨congrArg Ending.returned (congrArg (Value.int .i64) HR.out.symm), drewB HVr.out _⟩
              · skip
                have d1 : decide (x < 1) = false := decide_eq_false c1
                have d2 : decide (64 < x) = false := decide_eq_false c2
                have d3 : decide (y < 0) = false := decide_eq_false c3
                have d4 : 16 < y := c4
                clear c1 c2 c3 c4
                go_wp2_with fail
                go_quiet (fail)
                go_wp2
                go_ret
                exact ⟨congrArg Ending.returned (congrArg (Value.int .i64) HR.out.symm), drewB HVr.out _⟩
              · skip
                have d1 : decide (x < 1) = false := decide_eq_false c1
                have d2 : decide (64 < x) = false := decide_eq_false c2
                have d3 : decide (y < 0) = false := decide_eq_false c3
                have d4 : decide (16 < y) = false := decide_eq_false c4
                have d5 : x < y := c5
                clear c1 c2 c3 c4 c5
                go_wp2_with fail
                go_quiet (fail)
                go_wp2
                go_ret
                exact ⟨congrArg Ending.returned (congrArg (Value.int .i64) HR.out.symm), drewB HVr.out _⟩
          · obtain rfl : k = o := by omega
            have HV4 : Hid ((if 4096 < lvolZ sd ov k then 9 else argE (ob && (decide (1 ≤ form ∧ form ≤ 3) && decide (1 ≤ codec ∧ codec ≤ 3)))) = ve) := by have := HV3.out; rw [if_neg (by rw [HL.out]; simp)] at this; exact this
            have HVb : Hid (∀ j, j ≤ k → 1 ≤ lvolZ sd ov j ∧ lvolZ sd ov j ≤ 84934656) := fun j hj => by
              have h1 : layTo sd ov j = true := by
                cases h : layTo sd ov j
                · exact absurd (layTo_le h hj) (by rw [HL.out]; decide)
                · rfl
              have h2 := lvolZ_bound h1
              have h3 : (96 : Int) ^ j ≤ 84934656 := by
                rcases (by omega : j = 0 ∨ j = 1 ∨ j = 2 ∨ j = 3 ∨ j = 4) with rfl | rfl | rfl | rfl | rfl <;> decide
              omega
            have HLk : Hid (∀ j, j < k → 1 ≤ sd j ∧ sd j ≤ 64 ∧ 0 ≤ ov j ∧ ov j ≤ 16 ∧ ov j ≤ sd j) := layTo_ok HL.out
            clear HV3 HL hlt
            obtain ⟨wo, rfl⟩ : ∃ wo, wo = wr := ⟨_, rfl⟩
            go_wp2_with fail
            clear l0 l1 l2 l3 l4 l5
            go_loopw [7, 8] (fun v i wr => ∃ j : Nat, j ≤ k ∧ i = .int .i64 j ∧ v = .int .i64 (lvolZ sd ov j) ∧ Hid (Below wo.heap.size wo wr)) (fun _ i _ => k - (intOf i).toNat)
            case atStart => exact ⟨0, Nat.zero_le _, rfl, rfl, (Below.refl _ _)⟩
            case round =>
              obtain ⟨j, hj, rfl, rfl, HB9⟩ := hrel
              have HV9 : Hid (Below w.heap.size w wr) := st HVr.out HB9.out
              obtain ⟨l0, l1, l2, l3, l4, l5⟩ := KB.out wr (st HCr.out HB9.out)
              by_cases hlt : j < k
              · obtain ⟨bs, os, rfl, hbs, hcs⟩ := (HS.out.below HV9.out) (by omega)
                obtain ⟨bo, oo, rfl, hbo, hco⟩ := (HO.out.below HV9.out) (by omega)
                have x0 := hcs j hlt
                have y0 := hco j hlt
                clear hcs hco
                have hq := HLk.out j hlt
                have h1 := HVb.out j hj
                have h2 := HVb.out (j + 1) hlt
                have HSt : Hid (lvolZ sd ov (j + 1) = lvolZ sd ov j * (sd j + 2 * ov j)) := rfl
                have HQ := Lib.hid (And.intro hq (And.intro h1 h2))
                clear hq h1 h2
                generalize hV1 : lvolZ sd ov (j + 1) = V1 at *
                have HV1 := Lib.hid hV1
                clear hV1
                generalize lvolZ sd ov j = V0 at *
                generalize sd j = x at *
                generalize ov j = y at *
                have hy2 : -9223372036854775808 ≤ 2 * y ∧ 2 * y ≤ 9223372036854775807 := by have := HQ.out; omega
                have hxy : -9223372036854775808 ≤ x + 2 * y ∧ x + 2 * y ≤ 9223372036854775807 := by have := HQ.out; omega
                have hvv : -9223372036854775808 ≤ V0 * (x + 2 * y) ∧ V0 * (x + 2 * y) ≤ 9223372036854775807 := by have := HQ.out; have := HSt.out; omega
                go_wp2_with fail
                go_quiet (fail)
                go_wp2
                go_roundw
                case rel => exact ⟨j + 1, by omega, by go_num, by rw [HV1.out, HSt.out], drewB HB9.out _⟩
                case measure => simp [intOf]; omega
              · obtain rfl : j = k := by omega
                by_cases hv : 4096 < lvolZ sd ov j
                · have HR : Hid (ve = 9) := by show _ = _; rw [← HV4.out, if_pos hv]
                  generalize lvolZ sd ov j = V at *
                  go_wp2_with fail
                  go_wp2
                  go_ret
                  exact ⟨congrArg Ending.returned (congrArg (Value.int .i64) HR.out.symm), HV9.out⟩
                · have HV5 : Hid (argE (ob && (decide (1 ≤ form ∧ form ≤ 3) && decide (1 ≤ codec ∧ codec ≤ 3))) = ve) := by have := HV4.out; rw [if_neg hv] at this; exact this
                  clear HV4 HVb HLk
                  generalize lvolZ sd ov j = V at *
                  go_wp2_with (go_at_call 64; refine (HOr.out _).mono ?_; rintro e w9 ⟨rfl, hb9⟩; have HV9' : Hid (Below w.heap.size w w9) := st HV9.out hb9; have HC9 : Hid (Below Wa.heap.size Wa w9) := st (st HCr.out HB9.out) hb9; clear l0 l1 l2 l3 l4 l5; obtain ⟨l0, l1, l2, l3, l4, l5⟩ := KB.out w9 HC9.out)
                  all_goals
                    go_ret
                    refine ⟨congrArg Ending.returned (congrArg (Value.int .i64) ?_), HV9'.out⟩
                    rw [← HV5.out]
                    clear HV5 HOr KB HO HS l0 l1 l2 l3 l4 l5
                    first
                      | exact arg_ok (by assumption) (by omega) (by omega)
                      | exact arg_no1 (by assumption)
                      | exact arg_no2 (by omega)
                      | exact arg_no3 (by omega)
      · have HR : Hid (ve = 13) := by show _ = _; rw [← HV2.out, if_pos (.inr hon)]
        have g1 : ((o : Int) != (n : Int)) = true := by rw [bne_iff_ne]; omega
        go_wp2
        go_ret
        exact ⟨congrArg Ending.returned (congrArg (Value.int .i64) HR.out.symm), HB1.out⟩
    · have HR : Hid (ve = 13) := by show _ = _; rw [← HV2.out, if_pos (.inl hsn)]
      have g1 : ((s : Int) != (n : Int)) = true := by rw [bne_iff_ne]; omega
      go_wp2
      all_goals
        go_ret
        exact ⟨congrArg Ending.returned (congrArg (Value.int .i64) HR.out.symm), HB1.out⟩
  · have HR : Hid (ve = dz) := by show _ = _; rw [← HV.out, if_pos h0]
    have g1 : (dz != 0) = true := by rw [bne_iff_ne]; exact h0
    go_wp2
    go_ret
    exact ⟨congrArg Ending.returned (congrArg (Value.int .i64) HR.out.symm), HB1.out⟩
end Go.Proofs.YthmnmologmmeaaaGreatDoor
end

/- The reference's Of. -/
section
namespace Go.Proofs.YthmnmologmmeaaaGreatDoor
open Go Go.RowKit Go.Deep

def ofB (lo hi xs : Nat → Int) (n m : Nat) : Bool := n == m && inTo lo hi xs n
set_option maxRecDepth 100000 in
set_option maxHeartbeats 4000000 in
theorem r_Of (w : World) (A X : Option Addr) (n cap m cap' : Nat) (nm : Nat → ByteArray) (lo hi xs : Nat → Int) (hd : DimsAt w A n nm lo hi) (hx : IntsAt w X m xs) (hn : n ≤ 1000) (hm : m ≤ 1000) :
    Calls Tryz.prog 66 #[.slice A n cap, .slice X m cap'] w fun e w' => e = .returned (.bool (ofB lo hi xs n m)) ∧ Below w.heap.size w w' := by
  by_cases hnm : n = m
  · subst hnm
    have e1 : ofB lo hi xs n n = inTo lo hi xs n := by rw [ofB, beq_self_eq_true, Bool.true_and]
    rw [e1]
    clear e1
    have HD := Lib.hid hd
    have HX := Lib.hid hx
    have HL := Lib.hid r_Last
    clear hd hx
    go_enter Tryz.func66, Tryz.ntmps66
    go_wp2
    go_loopw [5] (fun i wr => ∃ k : Nat, k ≤ n ∧ i = .int .i64 k ∧ Hid (inTo lo hi xs k = true ∧ Below w.heap.size w wr)) (fun i _ => n - (intOf i).toNat)
    case atStart => exact ⟨0, Nat.zero_le _, rfl, rfl, Below.refl _ _⟩
    case round =>
      obtain ⟨k, hk, rfl, HK⟩ := hrel
      by_cases hlt : k < n
      · obtain ⟨bd, o, rfl, hbd, hc⟩ := (HD.out.below HK.out.2) (by omega)
        obtain ⟨c0, c1, c2⟩ := hc k hlt
        clear hc
        obtain ⟨bx, ox, rfl, hbx, hcx⟩ := (HX.out.below HK.out.2) (by omega)
        have x0 := hcx k hlt
        clear hcx
        have HS : Hid (inTo lo hi xs (k + 1) = (decide (lo k ≤ xs k) && decide (xs k ≤ lastZ (hi k)))) := by show _ = _; rw [inTo, HK.out.1]; rfl
        have HF : Hid ((decide (lo k ≤ xs k) && decide (xs k ≤ lastZ (hi k))) = false → inTo lo hi xs n = false) := fun h => inTo_le (k := k + 1) (by rw [HS.out, h]) (by omega)
        have HB := Lib.hid HK.out.2
        have HCC : Hid (∀ W, Below wr.heap.size wr W → W.cell? ⟨bx, ox + k, none⟩ = some (.int .i64 (xs k)) ∧ W.cell? ⟨bd, o + k * 3, none⟩ = some (.string (nm k)) ∧ W.cell? ⟨bd, o + k * 3 + 1, none⟩ = some (.int .i64 (lo k)) ∧ W.cell? ⟨bd, o + k * 3 + 2, none⟩ = some (.int .i64 (hi k))) := fun W hW =>
          ⟨(hW.cell (p := ⟨bx, ox + k, none⟩) hbx).trans x0, (hW.cell (p := ⟨bd, o + k * 3, none⟩) hbd).trans c0, (hW.cell (p := ⟨bd, o + k * 3 + 1, none⟩) hbd).trans c1, (hW.cell (p := ⟨bd, o + k * 3 + 2, none⟩) hbd).trans c2⟩
        have HLk := Lib.hid (fun W => HL.out (nm k) (lo k) (hi k) W)
        generalize nm k = s at *
        generalize lo k = l0 at *
        generalize hi k = h0 at *
        generalize xs k = z at *
        generalize lastZ h0 = L at *
        by_cases g1 : z < l0
        · have HR : Hid (inTo lo hi xs n = false) := HF.out (by rw [decide_eq_false (by omega)]; rfl)
          go_wp2
          go_quiet (fail)
          go_wp2
          go_ret
          exact ⟨by rw [HR.out]; rfl, drewB HB.out _⟩
        · have r1 : decide (z < l0) = ltC z l0 := rfl
          have a1 : ltC z l0 = false := decide_eq_false g1
          have r2 : decide (L < z) = ltC L z := rfl
          have B0d : Below wr.heap.size wr wr.drew := Below.drew (Below.refl _ _)
          by_cases g2 : L < z
          · have HR : Hid (inTo lo hi xs n = false) := HF.out (by rw [decide_eq_false (by omega : ¬ z ≤ L), Bool.and_false])
            have a2 : ltC L z = true := decide_eq_true g2
            go_wp2_with fail
            go_region_held3 (fun W => W.cell? ⟨bx, ox + k, none⟩ = some (.int .i64 z) ∧ W.cell? ⟨bd, o + k * 3, none⟩ = some (.string s) ∧ W.cell? ⟨bd, o + k * 3 + 1, none⟩ = some (.int .i64 l0) ∧ W.cell? ⟨bd, o + k * 3 + 2, none⟩ = some (.int .i64 h0))
              (first | exact HCC.out _ B1 | exact HCC.out _ B0d | exact HCC.out _ (Below.refl _ _))
              (first
                | (go_at_call 73; refine (HLk.out _).mono ?_; rintro e w1 ⟨rfl, hb1⟩; have B1 : Below wr.heap.size wr w1 := st B0d hb1))
            all_goals
              have HB1 : Hid (Below w.heap.size w w1) := st HB.out B1
              go_wp2
              go_ret
              exact ⟨by rw [HR.out]; rfl, HB1.out⟩
          · have HR : Hid (inTo lo hi xs (k + 1) = true) := by show _ = _; rw [HS.out, decide_eq_true (by omega : l0 ≤ z), decide_eq_true (by omega : z ≤ L)]; rfl
            have a2 : ltC L z = false := decide_eq_false g2
            go_wp2_with fail
            go_region_held3 (fun W => W.cell? ⟨bx, ox + k, none⟩ = some (.int .i64 z) ∧ W.cell? ⟨bd, o + k * 3, none⟩ = some (.string s) ∧ W.cell? ⟨bd, o + k * 3 + 1, none⟩ = some (.int .i64 l0) ∧ W.cell? ⟨bd, o + k * 3 + 2, none⟩ = some (.int .i64 h0))
              (first | exact HCC.out _ B1 | exact HCC.out _ B0d | exact HCC.out _ (Below.refl _ _))
              (first
                | (go_at_call 73; refine (HLk.out _).mono ?_; rintro e w1 ⟨rfl, hb1⟩; have B1 : Below wr.heap.size wr w1 := st B0d hb1))
            all_goals
              have HB1 : Hid (Below w.heap.size w w1) := st HB.out B1
              go_wp2
              go_roundw
              case rel => exact ⟨k + 1, by omega, by go_num, HR.out, HB1.out⟩
              case measure => simp [intOf]; omega
      · obtain rfl : k = n := by omega
        go_wp2
        go_ret
        exact ⟨by rw [HK.out.1]; rfl, HK.out.2⟩
  · have e1 : ofB lo hi xs n m = false := by rw [ofB, beq_false_of_ne hnm, Bool.false_and]
    have h1 : ((m : Int) != (n : Int)) = true := by rw [bne_iff_ne]; omega
    rw [e1]
    clear e1 hnm
    go_enter Tryz.func66, Tryz.ntmps66
    go_wp2
    go_ret
    exact ⟨rfl, Below.refl _ _⟩
end Go.Proofs.YthmnmologmmeaaaGreatDoor
end

/- The reference's Chunk. -/
section
namespace Go.Proofs.YthmnmologmmeaaaGreatDoor
open Go Go.RowKit Go.Deep

set_option maxRecDepth 100000 in
set_option maxHeartbeats 8000000 in
theorem r_Chunk_bad (w : World) (A S O X : Option Addr) (n cap s sc o oc m mc : Nat) (nm : Nat → ByteArray) (lo hi sd ov xs : Nat → Int) (ord tile form codec : Int) (hd : DimsAt w A n nm lo hi) (hs : IntsAt w S s sd) (ho : IntsAt w O o ov) (hx : IntsAt w X m xs) (hns : ∀ k, k < n → (nm k).size ≤ 9223372036854775807) (hs1 : s ≤ 1000) (ho1 : o ≤ 1000) (hn1 : n ≤ 1000) (hm1 : m ≤ 1000)
    (he : atE nm lo hi n sd ov s o ord tile form codec xs m ≠ 0) :
    Calls Tryz.prog 21 #[.slice A n cap, LayV S s sc O o oc ord tile form codec, .slice X m mc] w fun e w' => e = .returned (.tuple #[.slice none 0 0, .int .i64 (atE nm lo hi n sd ov s o ord tile form codec xs m)]) ∧ Below w.heap.size w w' := by
  have KB := Lib.hid (lay_box w S O s sc o oc ord tile form codec)
  have HB := Lib.hid (lay_row w S O s sc o oc ord tile form codec)
  have HL : Hid (∀ W, Below w.heap.size w W → Calls Tryz.prog 19 #[.slice A n cap, LayV S s sc O o oc ord tile form codec] W fun e w' => e = .returned (.int .i64 (layE nm lo hi n sd ov s o ord tile form codec)) ∧ Below W.heap.size W w') := fun W hW => r_Layout W A S O n cap s sc o oc nm lo hi sd ov ord tile form codec (hd.below hW) (hs.below hW) (ho.below hW) hns hn1 hs1 ho1
  have HP : Hid (∀ W, Below w.heap.size w W → Calls Tryz.prog 66 #[.slice A n cap, .slice X m mc] W fun e w' => e = .returned (.bool (ofB lo hi xs n m)) ∧ Below W.heap.size W w') := fun W hW => r_Of W A X n cap m mc nm lo hi xs (hd.below hW) (hx.below hW) hn1 hm1
  obtain ⟨ve, hve⟩ : ∃ ve, atE nm lo hi n sd ov s o ord tile form codec xs m = ve := ⟨_, rfl⟩
  rw [hve] at he ⊢
  have HV := Lib.hid hve
  have HE := Lib.hid he
  clear hd hs ho hx hve hns he
  unfold atE at HV
  generalize layE nm lo hi n sd ov s o ord tile form codec = E at *
  go_enter Tryz.func21, Tryz.ntmps21
  go_wp2_with fail
  generalize w.alloc (.cells #[.slice S s sc, .slice O o oc, .int .i64 ord, .int .i64 tile, .int .i64 form, .int .i64 codec] 54) = W0 at *
  obtain ⟨l0, l1, l2, l3, l4, l5⟩ := KB.out W0 (Below.refl _ _)
  go_wp2_with fail
  refine (HL.out _ HB.out).mono ?_
  rintro e w1 ⟨rfl, hb1⟩
  have HB1 : Hid (Below w.heap.size w w1) := st HB.out hb1
  clear hb1 HL l0 l1 l2 l3 l4 l5 KB
  by_cases h0 : E = 0
  · have HV2 : Hid (placeEr lo hi xs n m = ve) := by have := HV.out; rwa [if_neg (by rw [h0]; simp)] at this
    subst h0
    clear HV
    by_cases hmn : m = n
    · subst hmn
      have HF : Hid (ve = 3 ∧ ofB lo hi xs m m = false) := by
        have h1 := HV2.out
        have h2 := HE.out
        unfold placeEr at h1
        unfold ofB
        rw [beq_self_eq_true, Bool.true_and]
        cases hi' : inTo lo hi xs m
        · simp [hi'] at h1
          exact ⟨h1.symm, rfl⟩
        · simp [hi'] at h1
          exact absurd h1.symm h2
      clear HV2 HE
      rw [HF.out.2] at HP
      go_wp2_with (go_at_call 66; refine (HP.out _ HB1.out).mono ?_; rintro e w2 ⟨rfl, hb2⟩; have HB2 : Hid (Below w.heap.size w w2) := st HB1.out hb2)
      go_ret2
      exact ⟨by rw [HF.out.1]; rfl, HB2.out⟩
    · have HR : Hid (ve = 13) := by
        have h1 := HV2.out
        unfold placeEr at h1
        simp [Ne.symm hmn] at h1
        exact h1.symm
      have g1 : ((m : Int) != (n : Int)) = true := by rw [bne_iff_ne]; omega
      go_wp2_with fail
      go_ret2
      exact ⟨by rw [HR.out]; rfl, HB1.out⟩
  · have HR : Hid (ve = E) := by show _ = _; rw [← HV.out, if_pos h0]
    have g1 : (E != 0) = true := by rw [bne_iff_ne]; exact h0
    go_wp2
    go_ret2
    exact ⟨by rw [HR.out]; rfl, HB1.out⟩
end Go.Proofs.YthmnmologmmeaaaGreatDoor
end

/- The reference's Core in error of the layout or of the length. -/
section
namespace Go.Proofs.YthmnmologmmeaaaGreatDoor
open Go Go.RowKit Go.Deep

set_option maxRecDepth 100000 in
set_option maxHeartbeats 4000000 in
theorem r_Core_lay (w : World) (A S O X : Option Addr) (n cap s sc o oc m mc : Nat) (nm : Nat → ByteArray) (lo hi sd ov c : Nat → Int) (ord tile form codec : Int) (hd : DimsAt w A n nm lo hi) (hs : IntsAt w S s sd) (ho : IntsAt w O o ov) (_hx : IntsAt w X m c) (hns : ∀ k, k < n → (nm k).size ≤ 9223372036854775807) (hs1 : s ≤ 1000) (ho1 : o ≤ 1000) (hn1 : n ≤ 1000) (_hm1 : m ≤ 1000)
    (h0 : layE nm lo hi n sd ov s o ord tile form codec ≠ 0) :
    Calls Tryz.prog 27 #[.slice A n cap, LayV S s sc O o oc ord tile form codec, .slice X m mc] w fun e w' => e = .returned (.tuple #[BoxV none none 0 0 0 0, .int .i64 (layE nm lo hi n sd ov s o ord tile form codec)]) ∧ Below w.heap.size w w' := by
  have KB := Lib.hid (lay_box w S O s sc o oc ord tile form codec)
  have HB : Hid (Below w.heap.size w (w.alloc (.cells #[.slice S s sc, .slice O o oc, .int .i64 ord, .int .i64 tile, .int .i64 form, .int .i64 codec] 54))) := (Below.refl _ _).alloc (Nat.le_refl _) _
  have HL := Lib.hid (fun W h1 h2 h3 => r_Layout W A S O n cap s sc o oc nm lo hi sd ov ord tile form codec h1 h2 h3 hns hn1 hs1 ho1)
  obtain ⟨E, hE⟩ : ∃ E, layE nm lo hi n sd ov s o ord tile form codec = E := ⟨_, rfl⟩
  rw [hE] at h0 HL ⊢
  clear hE
  have HD := Lib.hid hd
  have HS := Lib.hid hs
  have HO := Lib.hid ho
  clear hd hs ho hns
  go_enter Tryz.func27, Tryz.ntmps27
  go_wp2_with fail
  have hz0 : ((w.alloc (.cells #[.slice S s sc, .slice O o oc, .int .i64 ord, .int .i64 tile, .int .i64 form, .int .i64 codec] 54)).alloc (.cells #[.slice none 0 0, .slice none 0 0] 66)).heap.size = w.heap.size + 2 := by simp
  have KB2 : Hid (∀ W, Below (w.heap.size + 2) ((w.alloc (.cells #[.slice S s sc, .slice O o oc, .int .i64 ord, .int .i64 tile, .int .i64 form, .int .i64 codec] 54)).alloc (.cells #[.slice none 0 0, .slice none 0 0] 66)) W → W.heap[w.heap.size + 1]? = some (.cells #[.slice none 0 0, .slice none 0 0] 66 (0, 0))) := fun W hW => by
    have h9 := heap_alloc_new (w.alloc (.cells #[.slice S s sc, .slice O o oc, .int .i64 ord, .int .i64 tile, .int .i64 form, .int .i64 codec] 54)) (.cells #[.slice none 0 0, .slice none 0 0] 66)
    rw [World.size_alloc] at h9
    exact (hW.block _ (by omega)).trans h9
  have HB2 : Hid (Below w.heap.size w ((w.alloc (.cells #[.slice S s sc, .slice O o oc, .int .i64 ord, .int .i64 tile, .int .i64 form, .int .i64 codec] 54)).alloc (.cells #[.slice none 0 0, .slice none 0 0] 66))) := HB.out.alloc (by simp) _
  clear KB HB
  generalize (w.alloc (.cells #[.slice S s sc, .slice O o oc, .int .i64 ord, .int .i64 tile, .int .i64 form, .int .i64 codec] 54)).alloc (.cells #[.slice none 0 0, .slice none 0 0] 66) = W0 at *
  refine (HL.out _ (HD.out.below HB2.out) (HS.out.below HB2.out) (HO.out.below HB2.out)).mono ?_
  rintro e w1 ⟨rfl, hb1⟩
  have HB1 : Hid (Below w.heap.size w w1) := st HB2.out hb1
  have HB01 : Hid (Below (w.heap.size + 2) W0 w1) := by show Below _ _ _; rw [← hz0]; exact hb1
  have hz1 : w.heap.size + 2 ≤ w1.heap.size := by rw [← hz0]; exact hb1.size
  have HB21 := HB01
  have HBX := HB1
  have hres := KB2.out _ HB21.out
  obtain ⟨r0, r9, z0, z1⟩ := box_at hres
  clear hb1 HL
  have h1 : (E != 0) = true := by rw [bne_iff_ne]; exact h0
  clear h0
  go_wp2
  refine bodyPost_ret (v := .tuple #[BoxV none none 0 0 0 0, .int .i64 E]) (res_cell_tmp Tryz.results27 _ _ (w.heap.size + 1) 66 _ (0, 0) _ rfl (put2 hres _ _) Tryz.underlying66 rfl (by rw [info_box]; rfl)) rfl ?_
  exact ⟨rfl, (HBX.out.setCell (p := ⟨w.heap.size + 1, 0, none⟩) (by show w.heap.size ≤ w.heap.size + 1; omega) _).setCell (p := ⟨w.heap.size + 1, 1, none⟩) (by show w.heap.size ≤ w.heap.size + 1; omega) _⟩
set_option maxRecDepth 100000 in
set_option maxHeartbeats 4000000 in
theorem r_Core_len (w : World) (A S O X : Option Addr) (n cap s sc o oc m mc : Nat) (nm : Nat → ByteArray) (lo hi sd ov c : Nat → Int) (ord tile form codec : Int) (hd : DimsAt w A n nm lo hi) (hs : IntsAt w S s sd) (ho : IntsAt w O o ov) (_hx : IntsAt w X m c) (hns : ∀ k, k < n → (nm k).size ≤ 9223372036854775807) (hs1 : s ≤ 1000) (ho1 : o ≤ 1000) (hn1 : n ≤ 1000) (_hm1 : m ≤ 1000)
    (h0 : layE nm lo hi n sd ov s o ord tile form codec = 0) (hmn : m ≠ n) :
    Calls Tryz.prog 27 #[.slice A n cap, LayV S s sc O o oc ord tile form codec, .slice X m mc] w fun e w' => e = .returned (.tuple #[BoxV none none 0 0 0 0, .int .i64 13]) ∧ Below w.heap.size w w' := by
  have KB := Lib.hid (lay_box w S O s sc o oc ord tile form codec)
  have HB : Hid (Below w.heap.size w (w.alloc (.cells #[.slice S s sc, .slice O o oc, .int .i64 ord, .int .i64 tile, .int .i64 form, .int .i64 codec] 54))) := (Below.refl _ _).alloc (Nat.le_refl _) _
  have HL := Lib.hid (fun W h1 h2 h3 => r_Layout W A S O n cap s sc o oc nm lo hi sd ov ord tile form codec h1 h2 h3 hns hn1 hs1 ho1)
  rw [h0] at HL
  clear h0
  have HD := Lib.hid hd
  have HS := Lib.hid hs
  have HO := Lib.hid ho
  clear hd hs ho hns
  go_enter Tryz.func27, Tryz.ntmps27
  go_wp2_with fail
  have hz0 : ((w.alloc (.cells #[.slice S s sc, .slice O o oc, .int .i64 ord, .int .i64 tile, .int .i64 form, .int .i64 codec] 54)).alloc (.cells #[.slice none 0 0, .slice none 0 0] 66)).heap.size = w.heap.size + 2 := by simp
  have KB2 : Hid (∀ W, Below (w.heap.size + 2) ((w.alloc (.cells #[.slice S s sc, .slice O o oc, .int .i64 ord, .int .i64 tile, .int .i64 form, .int .i64 codec] 54)).alloc (.cells #[.slice none 0 0, .slice none 0 0] 66)) W → W.heap[w.heap.size + 1]? = some (.cells #[.slice none 0 0, .slice none 0 0] 66 (0, 0))) := fun W hW => by
    have h9 := heap_alloc_new (w.alloc (.cells #[.slice S s sc, .slice O o oc, .int .i64 ord, .int .i64 tile, .int .i64 form, .int .i64 codec] 54)) (.cells #[.slice none 0 0, .slice none 0 0] 66)
    rw [World.size_alloc] at h9
    exact (hW.block _ (by omega)).trans h9
  have HB2 : Hid (Below w.heap.size w ((w.alloc (.cells #[.slice S s sc, .slice O o oc, .int .i64 ord, .int .i64 tile, .int .i64 form, .int .i64 codec] 54)).alloc (.cells #[.slice none 0 0, .slice none 0 0] 66))) := HB.out.alloc (by simp) _
  clear KB HB
  generalize (w.alloc (.cells #[.slice S s sc, .slice O o oc, .int .i64 ord, .int .i64 tile, .int .i64 form, .int .i64 codec] 54)).alloc (.cells #[.slice none 0 0, .slice none 0 0] 66) = W0 at *
  refine (HL.out _ (HD.out.below HB2.out) (HS.out.below HB2.out) (HO.out.below HB2.out)).mono ?_
  rintro e w1 ⟨rfl, hb1⟩
  have HB1 : Hid (Below w.heap.size w w1) := st HB2.out hb1
  have HB01 : Hid (Below (w.heap.size + 2) W0 w1) := by show Below _ _ _; rw [← hz0]; exact hb1
  have hz1 : w.heap.size + 2 ≤ w1.heap.size := by rw [← hz0]; exact hb1.size
  have HB21 := HB01
  have HBX := HB1
  have hres := KB2.out _ HB21.out
  obtain ⟨r0, r9, z0, z1⟩ := box_at hres
  clear hb1 HL
  have g1 : ((m : Int) != (n : Int)) = true := by rw [bne_iff_ne]; omega
  go_wp2
  refine bodyPost_ret (v := .tuple #[BoxV none none 0 0 0 0, .int .i64 13]) (res_cell_tmp Tryz.results27 _ _ (w.heap.size + 1) 66 _ (0, 0) _ rfl (put2 hres _ _) Tryz.underlying66 rfl (by rw [info_box]; rfl)) rfl ?_
  exact ⟨rfl, (HBX.out.setCell (p := ⟨w.heap.size + 1, 0, none⟩) (by show w.heap.size ≤ w.heap.size + 1; omega) _).setCell (p := ⟨w.heap.size + 1, 1, none⟩) (by show w.heap.size ≤ w.heap.size + 1; omega) _⟩
end Go.Proofs.YthmnmologmmeaaaGreatDoor
end

/- A list of integers that grows by append: where it lies. -/
section
namespace Go.Proofs.YthmnmologmmeaaaGreatDoor
open Go Go.RowKit Go.Deep

/-- The slice v is the walk's own, from block B on, and holds n numbers. -/
def OwnI (w : World) (B : Nat) (v : Value) (n : Nat) (f : Nat → Int) : Prop := ∃ xs, w.ownsRow B 3 1 v n xs ∧ ∀ k, k < n → xs[k]? = some (.int .i64 (f k))
theorem OwnI.ints {w : World} {B n : Nat} {v : Value} {f : Nat → Int} (h : OwnI w B v n f) : ∃ P c, v = .slice P n c ∧ IntsAt w P n f := by
  obtain ⟨xs, ⟨hl, h1⟩, h2⟩ := h
  rcases h1 with ⟨rfl, rfl⟩ | ⟨g, cap, cur, rfl, _, hh, hcap, _, hs, ht⟩
  · exact ⟨none, 0, rfl, fun h => absurd h (by omega)⟩
  · refine ⟨_, _, rfl, fun hn => ⟨g, 0, rfl, (Array.getElem?_eq_some_iff.1 hh).1, fun k hk => ?_⟩⟩
    rw [Nat.mul_one] at ht
    have h3 : cur.toList[k]? = some (.int .i64 (f k)) := by
      rw [← List.getElem?_take_of_lt hk, ht]
      exact h2 k hk
    rw [Array.getElem?_toList] at h3
    rw [Nat.zero_add]
    simp [World.cell?, hh, h3]
theorem OwnI.nil (w : World) (B : Nat) (f : Nat → Int) : OwnI w B (.slice none 0 0) 0 f := ⟨[], ⟨rfl, .inl ⟨rfl, rfl⟩⟩, fun k hk => absurd hk (by omega)⟩
theorem OwnI.kept {w w' : World} {B n : Nat} {v : Value} {f : Nat → Int} {row : Option Nat} (h : OwnI w B v n f) (hg : w.grownBy w' row) (hne : v.ownBlock = none ∨ v.ownBlock ≠ row) : OwnI w' B v n f := by
  obtain ⟨xs, h1, h2⟩ := h
  exact ⟨xs, h1.kept hg hne, h2⟩
theorem OwnI.block {w : World} {B n : Nat} {v : Value} {f : Nat → Int} (h : OwnI w B v n f) {g : Nat} (hg : v.ownBlock = some g) : B ≤ g ∧ g < w.heap.size := by
  obtain ⟨xs, h1, _⟩ := h
  obtain ⟨a, cs, b⟩ := own_lt h1 g hg
  exact ⟨a, (Array.getElem?_eq_some_iff.1 b).1⟩
/-- One number more, behind a literal of one number: the list lies where it lay, or in a new block. -/
theorem wpList_appI {ops : Array Oper} {rest : List Oper} {o : Oper} {a : Act} {Q : Exit → Act → World → Prop} (hgd : o.guard = none) (s x : Operand)
    (ho : o.op = .call { callee := .builtin .append, args := #[s, x], argTypes := #[35, 35] })
    (W : World) (d : Int) (B : Nat) (v : Value) (n : Nat) (f : Nat → Int) (hs : a.eval s = v) (b : Nat) (hx : a.eval x = .slice (some ⟨b, 0, none⟩) 1 1) (hbW : b = W.heap.size)
    (hown : OwnI W B v n f) (hn : n ≤ 1000000) (hB : B ≤ W.heap.size)
    (h : ∀ v' w', OwnI w' B v' (n + 1) (updZ f n d) → W.grownBy w' v.ownBlock → (v'.ownBlock = v.ownBlock ∨ ∃ g, v'.ownBlock = some g ∧ W.heap.size ≤ g) → wpList Tryz.prog ops Q rest (a.put o.dst v') w') : wpList Tryz.prog ops Q (o :: rest) a (W.alloc (.cells #[.int .i64 d] 3)) := by
  subst hbW
  obtain ⟨xs, h1, h2⟩ := hown
  have h1' : (W.alloc (.cells #[.int .i64 d] 3)).ownsRow B 3 1 v n xs := h1.alloc _
  obtain ⟨i0, hi0, hz0, hz1, hz2⟩ := info_parts info_int
  have hnew : ∀ j u, [Value.int .i64 d][j]? = some u → (W.alloc (.cells #[.int .i64 d] 3)).cell? ((⟨W.heap.size, 0, none⟩ : Addr).add j) = some u := by
    intro j u hu
    have hj : j = 0 := by
      rcases j with _ | j
      · rfl
      · simp at hu
    subst hj
    have hu' : u = .int .i64 d := by simpa using hu.symm
    subst hu'
    exact (World.rowIs_alloc W #[.int .i64 d] 3 (fun _ => .int .i64 d) (fun i hi => by
      have h9 : i = 0 := by simpa using hi
      subst h9
      rfl)).cell (i := 0) (by simp)
  refine wpList_append_own_at _ hgd s x 35 ho B 3 i0 (.int .i64 0) 1 8 Tryz.underlying35 hi0 hz0 hz1 hz2 rfl Nat.zero_lt_one v n xs hs h1' ⟨W.heap.size, 0, none⟩ 1 1 [.int .i64 d] hx rfl hnew
    (fun u hu => by have h9 : u = .int .i64 d := by simpa using hu
                    subst h9; rfl) (by unfold maxLen; omega) (by omega) (by simp; omega) ?_
  intro v' w' g1 g2 _ g4
  refine h v' w' ⟨xs ++ [.int .i64 d], g1, fun k hk => ?_⟩ ((World.grownBy_alloc W _ _).trans g2) (g4.imp id fun h9 => ⟨_, h9, by simp⟩)
  have hl : xs.length = n := by rw [h1.1, Nat.mul_one]
  unfold updZ
  by_cases e : k = n
  · subst e
    rw [if_pos rfl, List.getElem?_append_right (by omega), hl, Nat.sub_self]
    rfl
  · rw [if_neg e, List.getElem?_append_left (by omega)]
    exact h2 k (by omega)
end Go.Proofs.YthmnmologmmeaaaGreatDoor
end

/- A box of two lists that grow. -/
section
namespace Go.Proofs.YthmnmologmmeaaaGreatDoor
open Go Go.RowKit Go.Deep

theorem box_gen {W : World} {r : Nat} {x y : Value} (h : W.heap[r]? = some (.cells #[x, y] 66 (0, 0))) : W.cell? ⟨r, 0, none⟩ = some x ∧ W.cell? ⟨r, 1, none⟩ = some y ∧ W.frozen? ⟨r, 0, none⟩ = false ∧ W.frozen? ⟨r, 1, none⟩ = false := by
  refine ⟨by simp [World.cell?, h], by simp [World.cell?, h], by simp [World.frozen?, h], by simp [World.frozen?, h]⟩
theorem box_set0 {W : World} {r : Nat} {x y : Value} (h : W.heap[r]? = some (.cells #[x, y] 66 (0, 0))) (v : Value) : (W.setCell ⟨r, 0, none⟩ v).heap[r]? = some (.cells #[v, y] 66 (0, 0)) := by
  simp [World.setCell, Array.getElem?_modify, h]
theorem box_set1 {W : World} {r : Nat} {x y : Value} (h : W.heap[r]? = some (.cells #[x, y] 66 (0, 0))) (v : Value) : (W.setCell ⟨r, 1, none⟩ v).heap[r]? = some (.cells #[x, v] 66 (0, 0)) := by
  simp [World.setCell, Array.getElem?_modify, h]
theorem OwnI.congr {w : World} {B n : Nat} {v : Value} {f g : Nat → Int} (h : OwnI w B v n f) (hfg : ∀ k, k < n → f k = g k) : OwnI w B v n g := by
  obtain ⟨xs, h1, h2⟩ := h
  exact ⟨xs, h1, fun k hk => by rw [← hfg k hk]; exact h2 k hk⟩
theorem OwnI.ints' {w : World} {B n c : Nat} {P : Option Addr} {f : Nat → Int} (h : OwnI w B (.slice P n c) n f) : IntsAt w P n f := by
  obtain ⟨P', c', e, h1⟩ := h.ints
  injection e with e1
  subst e1
  exact h1
theorem OwnI.ne {w : World} {B n b : Nat} {v : Value} {f : Nat → Int} (h : OwnI w B v n f) (hb : b < B) : v.ownBlock = none ∨ v.ownBlock ≠ some b := by
  cases e : v.ownBlock with
  | none => exact .inl rfl
  | some g =>
    have := (h.block e).1
    refine .inr fun e2 => ?_
    injection e2 with e2
    omega
theorem ne_sym {v u : Option Nat} (h : v = none ∨ v ≠ u) : u = none ∨ u ≠ v := by
  cases u with
  | none => exact .inl rfl
  | some a =>
    refine .inr fun e => ?_
    rcases h with h | h
    · rw [h] at e; cases e
    · exact h e.symm
theorem ne_new {w : World} {B n : Nat} {v v' u : Value} {f : Nat → Int} (hu : OwnI w B u n f) (h : v.ownBlock = none ∨ v.ownBlock ≠ u.ownBlock) (hat : v'.ownBlock = v.ownBlock ∨ ∃ g, v'.ownBlock = some g ∧ w.heap.size ≤ g) : v'.ownBlock = none ∨ v'.ownBlock ≠ u.ownBlock := by
  rcases hat with e | ⟨g, e, hg⟩
  · rw [e]; exact h
  · refine .inr fun e2 => ?_
    rw [e] at e2
    have := (hu.block e2.symm).2
    omega
theorem kept_at {w w' : World} {b : Nat} {row : Option Nat} (hg : w.grownBy w' row) (hb : b < w.heap.size) (hne : row = none ∨ row ≠ some b) : w'.heap[b]? = w.heap[b]? :=
  hg.block b hb fun e => by
    rcases hne with h | h
    · rw [h] at e; cases e
    · exact h e.symm
theorem below_own {a w w' : World} {A B n : Nat} {v : Value} {f : Nat → Int} (hb : Below A a w) (hA : A ≤ w.heap.size) (ho : OwnI w B v n f) (hAB : A ≤ B) (hg : w.grownBy w' v.ownBlock) : Below A a w' :=
  hb.grown hg hA fun g e => by have := (ho.block e).1; omega
/-- The box at ob holds two lists of the walk's own. -/
def InS2 (ob : Nat) (W : World) (x1 x2 : Value) (k1 k2 : Nat) (f g : Nat → Int) : Prop :=
  W.heap[ob]? = some (.cells #[x1, x2] 66 (0, 0)) ∧ OwnI W (ob + 1) x1 k1 f ∧ OwnI W (ob + 1) x2 k2 g ∧ (x1.ownBlock = none ∨ x1.ownBlock ≠ x2.ownBlock)
theorem InS2.app1 {W W' : World} {ob : Nat} {x1 x2 x1' : Value} {k1 k2 : Nat} {f g f' : Nat → Int} (h : InS2 ob W x1 x2 k1 k2 f g) (ho : OwnI W' (ob + 1) x1' (k1 + 1) f') (hg : W.grownBy W' x1.ownBlock) (hat : x1'.ownBlock = x1.ownBlock ∨ ∃ g, x1'.ownBlock = some g ∧ W.heap.size ≤ g) :
    W'.heap[ob]? = some (.cells #[x1, x2] 66 (0, 0)) ∧ InS2 ob (W'.setCell ⟨ob, 0, none⟩ x1') x1' x2 (k1 + 1) k2 f' g ∧ Below ob W (W'.setCell ⟨ob, 0, none⟩ x1') := by
  obtain ⟨hbx, HO1, HO2, HNe⟩ := h
  have hobl : ob < W.heap.size := (Array.getElem?_eq_some_iff.1 hbx).1
  have hbx8 := (kept_at hg hobl (HO1.ne (by omega))).trans hbx
  have ho28 := HO2.kept hg (ne_sym HNe)
  have HB8 : Below ob W W' := below_own (Below.refl _ _) (by omega) HO1 (by omega) hg
  exact ⟨hbx8, ⟨box_set0 hbx8 x1', ho.kept (grown_set W' ob 0 x1') (ho.ne (by omega)), ho28.kept (grown_set W' ob 0 x1') (ho28.ne (by omega)), ne_new HO2 HNe hat⟩, HB8.setCell (p := ⟨ob, 0, none⟩) (Nat.le_refl _) _⟩
theorem InS2.app2 {W W' : World} {ob : Nat} {x1 x2 x2' : Value} {k1 k2 : Nat} {f g g' : Nat → Int} (h : InS2 ob W x1 x2 k1 k2 f g) (ho : OwnI W' (ob + 1) x2' (k2 + 1) g') (hg : W.grownBy W' x2.ownBlock) (hat : x2'.ownBlock = x2.ownBlock ∨ ∃ g, x2'.ownBlock = some g ∧ W.heap.size ≤ g) :
    W'.heap[ob]? = some (.cells #[x1, x2] 66 (0, 0)) ∧ InS2 ob (W'.setCell ⟨ob, 1, none⟩ x2') x1 x2' k1 (k2 + 1) f g' ∧ Below ob W (W'.setCell ⟨ob, 1, none⟩ x2') := by
  obtain ⟨hbx, HO1, HO2, HNe⟩ := h
  have hobl : ob < W.heap.size := (Array.getElem?_eq_some_iff.1 hbx).1
  have hbx8 := (kept_at hg hobl (HO2.ne (by omega))).trans hbx
  have ho18 := HO1.kept hg HNe
  have HB8 : Below ob W W' := below_own (Below.refl _ _) (by omega) HO2 (by omega) hg
  exact ⟨hbx8, ⟨box_set1 hbx8 x2', ho18.kept (grown_set W' ob 1 x2') (ho18.ne (by omega)), ho.kept (grown_set W' ob 1 x2') (ho.ne (by omega)), ne_sym (ne_new HO1 (ne_sym HNe) hat)⟩, HB8.setCell (p := ⟨ob, 1, none⟩) (Nat.le_refl _) _⟩
end Go.Proofs.YthmnmologmmeaaaGreatDoor
end

/- Whether values suit an operation: any operation, any values. -/
import Derived.Test.YtnfncdalneifnaaGreatDoorZSuit
import Derived.Test.YtnfncdalneifnaaGreatDoorZDo
import Derived.Test.YtnfncdalneifnaaGreatDoorZFind
import Derived.Test.YtnfncdalneifnaaGreatDoorZRdV
import Derived.Test.YtnfncdalneifnaaGreatDoorZFit9
import Derived.Test.YtnfncdalneifnaaGreatDoorZIf
import Derived.Deep.RegionHeld3

/- Whether values suit an operation: any operation, any values. -/
section
namespace Go.Proofs.YtnfncdalneifnaaGreatDoor
open Go.RowKit Go.Deep
def n3' (n1 n2 n3 : Int) (k : Nat) : Int := if k = 0 then n1 else if k = 1 then n2 else n3
/-- One value: what is shared behind it; none: it doesn't suit. -/
def sStep (nd sh k0 : Int) : Option Int := if k0 = 0 then some sh else if nd = 2 then (if k0 = 1 then some sh else none) else if nd = 3 then (if k0 = 2 then some sh else none) else if nd = 4 then (if sh ≠ 0 ∧ k0 ≠ sh then none else some k0) else some sh
def sFold (nd kk : Nat → Int) : Nat → Option Int
  | 0 => some 0
  | k + 1 => (sFold nd kk k).bind fun sh => sStep (nd k) sh (kk k)
theorem sFold_none {nd kk : Nat → Int} {k n : Nat} (h : sFold nd kk k = none) (hn : k ≤ n) : sFold nd kk n = none := by
  induction n with
  | zero => obtain rfl : k = 0 := by omega
            exact h
  | succ n ih =>
    by_cases e : k = n + 1
    · rw [← e]; exact h
    · rw [sFold, ih (by omega)]; rfl
/-- The values of a slice. -/
def Vals (w : World) (A : Option Addr) (n : Nat) (kk nn dd : Nat → Int) (ss : Nat → ByteArray) : Prop :=
  0 < n → ∃ b o, A = some ⟨b, o, none⟩ ∧ b < w.heap.size ∧ ∀ k, k < n → ValIn w b (o + k * 4) (kk k) (nn k) (dd k) (ss k)
theorem Vals.below {w W : World} {A : Option Addr} {n : Nat} {kk nn dd : Nat → Int} {ss : Nat → ByteArray} (h : Vals w A n kk nn dd ss) (hW : Below w.heap.size w W) : Vals W A n kk nn dd ss := fun hn => by
  obtain ⟨b, o, h1, h2, h3⟩ := h hn
  exact ⟨b, o, h1, Nat.lt_of_lt_of_le h2 hW.size, fun k hk => (h3 k hk).below hW h2⟩

set_option maxRecDepth 100000 in
set_option maxHeartbeats 4000000 in
theorem c_suits (w : World) (A : Option Addr) (n cap : Nat) (c n1 n2 m3 r : Int) (l : Bool) (F : Value) (kk nn dd : Nat → Int) (ss : Nat → ByteArray) (hn : n ≤ 3) (h : Vals w A n kk nn dd ss) :
    Calls Tryz.prog 25 #[.agg #[.int .i64 c, .int .i64 n1, .int .i64 n2, .int .i64 m3, .int .i64 r, .bool l, F], .slice A n cap] w fun e w' => e = .returned (.bool (sFold (n3' n1 n2 m3) kk n).isSome) ∧ Below w.heap.size w w' := by
  go_enter Tryz.func25, Tryz.ntmps25
  go_wp2
  have hrow := heap_alloc_new w (.cells #[.int .i64 c, .int .i64 n1, .int .i64 n2, .int .i64 m3, .int .i64 r, .bool l, F] 53)
  have B0 : Below w.heap.size w (w.alloc (.cells #[.int .i64 c, .int .i64 n1, .int .i64 n2, .int .i64 m3, .int .i64 r, .bool l, F] 53)) := (Below.refl _ _).alloc (Nat.le_refl _) _
  generalize w.alloc (.cells #[.int .i64 c, .int .i64 n1, .int .i64 n2, .int .i64 m3, .int .i64 r, .bool l, F] 53) = W0 at *
  have hz0 : w.heap.size < W0.heap.size := (Array.getElem?_eq_some_iff.1 hrow).1
  have HN : Hid (∀ W, Below W0.heap.size W0 W → ∀ k, k < 3 → W.cell? ⟨w.heap.size, 1 + k, none⟩ = some (.int .i64 (n3' n1 n2 m3 k))) := fun W hW k hk => by
    rw [hW.cell (p := ⟨w.heap.size, 1 + k, none⟩) hz0]
    match k, hk with
    | 0, _ => rw [cell_of_row _ _ _ _ _ _ hrow]; rfl
    | 1, _ => rw [cell_of_row _ _ _ _ _ _ hrow]; rfl
    | 2, _ => rw [cell_of_row _ _ _ _ _ _ hrow]; rfl
  have HV : Hid (Vals W0 A n kk nn dd ss) := h.below B0
  have HB := Lib.hid B0
  clear hrow B0 h
  go_loopw [5, 10] (fun s i wr => ∃ (k : Nat) (sh : Int), k ≤ n ∧ i = .int .i64 k ∧ s = .int .i64 sh ∧ Hid (sFold (n3' n1 n2 m3) kk k = some sh) ∧ Hid (Below W0.heap.size W0 wr)) (fun _ i _ => n - (intOf i).toNat)
  case atStart => exact ⟨0, 0, Nat.zero_le _, rfl, rfl, rfl, Below.refl _ _⟩
  case round =>
    obtain ⟨k, sh, hk, rfl, rfl, HF, HW⟩ := hrel
    by_cases hlt : k < n
    · obtain ⟨b, o, rfl, _, hv⟩ := (HV.out.below HW.out) (by omega)
      obtain ⟨a0, a1, a2, a3⟩ := hv k hlt
      clear hv
      have HS : Hid (sFold (n3' n1 n2 m3) kk (k + 1) = sStep (n3' n1 n2 m3 k) sh (kk k)) := by show _ = _; rw [sFold, HF.out]; rfl
      have HX : Hid (sStep (n3' n1 n2 m3 k) sh (kk k) = none → sFold (n3' n1 n2 m3) kk n = none) := fun e => sFold_none (k := k + 1) (by rw [HS.out, e]) (by omega)
      have hnd := HN.out
      generalize hndk : n3' n1 n2 m3 k = nd at *
      have HND : Hid (∀ W, Below W0.heap.size W0 W → W.cell? ⟨w.heap.size, 1 + k, none⟩ = some (.int .i64 nd)) := fun W hW => by rw [hnd W hW k (by omega), hndk]
      clear hnd hndk
      generalize kk k = k0 at *
      generalize nn k = n0 at *
      generalize dd k = d0 at *
      generalize ss k = s0 at *
      by_cases e0 : k0 = 0
      · subst e0
        have HE : Hid (sStep nd sh 0 = some sh) := by show _ = _; simp [sStep]
        go_wp2_with fail
        refine (c_isMissing0 _ _ _ _).mono ?_
        rintro e w1 ⟨rfl, hb1⟩
        have B1 : Hid (Below W0.heap.size W0 w1) := btr (HW.out.alloc HW.out.size _) hb1
        clear hb1 a0 a1 a2 a3
        go_wp2
        go_roundw
        case rel => exact ⟨k + 1, sh, by omega, by go_num, rfl, by show _ = _; rw [HS.out, HE.out], B1⟩
        case measure => simp [intOf]; omega
      · have HM := Lib.hid (c_isMissing k0 n0 d0 s0)
        rw [show (k0 == 0) = false by rw [beq_eq_false_iff_ne]; exact e0] at HM
        have HZ : Hid (¬ k0 = 0) := e0
        clear e0
        go_wp2_with fail
        refine (HM.out _).mono ?_
        rintro e w1 ⟨rfl, hb1⟩
        have B1 : Hid (Below W0.heap.size W0 w1) := btr (HW.out.alloc HW.out.size _) hb1
        have v0 : w1.cell? ⟨wr.heap.size, 0, none⟩ = some (.int .i64 k0) := by
          rw [hb1.cell (p := ⟨wr.heap.size, 0, none⟩) (by simp), cell_of_row _ _ _ _ _ _ (heap_alloc_new wr _)]; rfl
        have v1 := HND.out w1 B1.out
        clear hb1 HND HM a0 a1 a2 a3
        have hk3 : k < 3 := by omega
        by_cases e2 : nd = 2
        · subst e2
          by_cases e1 : k0 = 1
          · subst e1
            go_wp2
            go_roundw
            case rel => exact ⟨k + 1, sh, by omega, by go_num, rfl, by show _ = _; rw [HS.out]; rfl, B1⟩
            case measure => simp [intOf]; omega
          · have e1' : (k0 != 1) = true := by rw [bne_iff_ne]; exact e1
            have HE : Hid (sFold (n3' n1 n2 m3) kk n = none) := HX.out (by have := HZ.out; simp [sStep, this, e1])
            clear e1
            go_wp2
            go_ret
            exact ⟨by rw [HE.out]; rfl, btr HB.out B1.out⟩
        · have e2' : (nd == 2) = false := by rw [beq_eq_false_iff_ne]; exact e2
          by_cases e3 : nd = 3
          · subst e3
            by_cases e1 : k0 = 2
            · subst e1
              clear e2
              go_wp2
              go_roundw
              case rel => exact ⟨k + 1, sh, by omega, by go_num, rfl, by show _ = _; rw [HS.out]; rfl, B1⟩
              case measure => simp [intOf]; omega
            · have e1' : (k0 != 2) = true := by rw [bne_iff_ne]; exact e1
              have HE : Hid (sFold (n3' n1 n2 m3) kk n = none) := HX.out (by have := HZ.out; simp [sStep, this, e1])
              clear e1 e2
              go_wp2
              go_ret
              exact ⟨by rw [HE.out]; rfl, btr HB.out B1.out⟩
          · have e3' : (nd == 3) = false := by rw [beq_eq_false_iff_ne]; exact e3
            by_cases e4 : nd = 4
            · subst e4
              by_cases e5 : sh = 0
              · subst e5
                have HE : Hid (sStep 4 0 k0 = some k0) := by show _ = _; have := HZ.out; simp [sStep, this]
                clear e2 e3
                go_wp2
                go_roundw
                case rel => exact ⟨k + 1, k0, by omega, by go_num, rfl, by show _ = _; rw [HS.out, HE.out], B1⟩
                case measure => simp [intOf]; omega
              · have e5' : (sh != 0) = true := by rw [bne_iff_ne]; exact e5
                by_cases e6 : k0 = sh
                · subst e6
                  have e6' : (k0 != k0) = false := by simp
                  have HE : Hid (sStep 4 k0 k0 = some k0) := by show _ = _; have := HZ.out; simp [sStep, this]
                  clear e2 e3 e5
                  go_wp2
                  go_roundw
                  case rel => exact ⟨k + 1, k0, by omega, by go_num, rfl, by show _ = _; rw [HS.out, HE.out], B1⟩
                  case measure => simp [intOf]; omega
                · have e6' : (k0 != sh) = true := by rw [bne_iff_ne]; exact e6
                  have HE : Hid (sFold (n3' n1 n2 m3) kk n = none) := HX.out (by have := HZ.out; simp [sStep, this, e5, e6])
                  clear e2 e3 e5 e6
                  go_wp2
                  go_ret
                  exact ⟨by rw [HE.out]; rfl, btr HB.out B1.out⟩
            · have e4' : (nd == 4) = false := by rw [beq_eq_false_iff_ne]; exact e4
              have HE : Hid (sStep nd sh k0 = some sh) := by show _ = _; have := HZ.out; simp [sStep, this, e2, e3, e4]
              clear e2 e3 e4
              go_wp2
              go_roundw
              case rel => exact ⟨k + 1, sh, by omega, by go_num, rfl, by show _ = _; rw [HS.out, HE.out], B1⟩
              case measure => simp [intOf]; omega
    · obtain rfl : k = n := by omega
      go_wp2
      go_ret
      exact ⟨by rw [HF.out]; rfl, btr HB.out HW.out⟩
end Go.Proofs.YtnfncdalneifnaaGreatDoor
end

/- Operations done on any values. -/
section
namespace Go.Proofs.YtnfncdalneifnaaGreatDoor
open Go.RowKit Go.Deep

set_option maxRecDepth 100000 in
set_option maxHeartbeats 4000000 in
theorem d_badG (w : World) (op : Int) (A : Option Addr) (n cap : Nat) (c n1 n2 m3 r : Int) (l : Bool) (F : Nat) (kk nn dd : Nat → Int) (ss : Nat → ByteArray) (hn : n ≤ 3) (h : Vals w A n kk nn dd ss)
    (HF0 : ∀ W, Calls Tryz.prog 23 #[.int .i64 op, .int .i64 n] W fun e w' => e = .returned (.tuple #[.agg (o7 c n1 n2 m3 r l F).toArray, .bool true]) ∧ Below W.heap.size W w')
    (j : Nat) (hj : j < n) (hval : ∀ k, k < j → ∀ W, Calls Tryz.prog 24 #[V (kk k) (nn k) (dd k) (ss k)] W fun e w' => e = .returned (.bool true) ∧ Below W.heap.size W w') (hbad : ∀ W, Calls Tryz.prog 24 #[V (kk j) (nn j) (dd j) (ss j)] W fun e w' => e = .returned (.bool false) ∧ Below W.heap.size W w') :
    Calls Tryz.prog 5 #[.int .i64 op, .slice A n cap] w fun e w' => e = .returned (.tuple #[V 0 0 0 noS, .int .i64 2]) ∧ Below w.heap.size w w' := by
  have HF := Lib.hid HF0
  have HV0 := Lib.hid h
  have HVal := Lib.hid hval
  have HBad := Lib.hid hbad
  clear hbad
  clear HF0 h hval
  go_enter Tryz.func5, Tryz.ntmps5
  go_wp2_with fail
  have hr0 := heap_alloc_new w (.cells #[.int .i64 0, .int .i64 0, .int .i64 0, .string ⟨#[]⟩] 25)
  refine (HF.out _).mono ?_
  rintro e w1 ⟨rfl, hb1⟩
  have hr1 := (hb1.block _ (by simp)).trans hr0
  have B1 : Hid (Below w.heap.size w w1) := btr ((Below.refl _ _).alloc (Nat.le_refl _) _) hb1
  have hz1 : w.heap.size < w1.heap.size := (Array.getElem?_eq_some_iff.1 hr1).1
  have HR1 := Lib.hid hr1
  clear hr0 hb1 hr1 HF
  simp only [o7]
  go_wp2_with (first | (refine wpList_store_row 53 _ _ rfl rfl rfl w1.heap.size 53 rfl (o7 c n1 n2 m3 r l F) rfl _ (heap_alloc_new w1 _) rfl info_op (o7_one _ _ _ _ _ _ _) ?_; intro w2 hh2 hg2 hz2; have B2 : Hid (Below w.heap.size w w2) := (B1.out.alloc (by omega) _).grown hg2 (by simp; omega) (fun j hj => by injection hj with hj; omega); have HR2 := Lib.hid ((hg2.block _ (by simp; omega) (by simp; omega)).trans ((Below.heap_alloc w1 _ _ hz1).trans HR1.out)); have hl2 : w1.heap.size < w2.heap.size := (by rw [hz2]; simp); have HL2 := Lib.hid hh2; clear hz2 hg2 hh2 HR1))
  have hz2 : w.heap.size < w2.heap.size := by omega
  have K : Hid (∀ W, Below w2.heap.size w2 W → W.heap[w1.heap.size]? = some (.cells (o7 c n1 n2 m3 r l F).toArray 53 (0, 0))) := fun W hW => (hW.block _ hl2).trans HL2.out
  have KR : Hid (∀ W, Below w2.heap.size w2 W → W.heap[w.heap.size]? = some (.cells #[.int .i64 0, .int .i64 0, .int .i64 0, .string ⟨#[]⟩] 25 (0, 0))) := fun W hW => (hW.block _ hz2).trans HR2.out
  have KL : Hid (∀ W, Below w2.heap.size w2 W → Vals W A n kk nn dd ss) := fun W hW => (HV0.out.below B2.out).below hW
  clear HL2 HR2 B1 HV0
  go_loopw [24] (fun i wr => ∃ k : Nat, k ≤ j ∧ i = .int .i64 k ∧ Hid (Below w2.heap.size w2 wr)) (fun i _ => n - (intOf i).toNat)
  case atStart => exact ⟨0, Nat.zero_le _, rfl, Below.refl _ _⟩
  case round =>
    obtain ⟨k, hk, rfl, HW⟩ := hrel
    by_cases hlt : k < j
    · have hkn : k < n := by omega
      obtain ⟨b, o, rfl, _, hv⟩ := KL.out _ HW.out (by omega)
      obtain ⟨a0, a1, a2, a3⟩ := hv k (by omega)
      clear hv
      have HVk := Lib.hid (HVal.out k (by omega))
      generalize kk k = k0 at *
      generalize nn k = n0 at *
      generalize dd k = d0 at *
      generalize ss k = s0 at *
      go_wp2_with fail
      refine (HVk.out _).mono ?_
      rintro e w3 ⟨rfl, hb3⟩
      have B3 : Hid (Below w2.heap.size w2 w3) := btr (HW.out.alloc HW.out.size _) hb3
      clear hb3 a0 a1 a2 a3
      go_wp2
      go_roundw
      case rel => exact ⟨k + 1, by omega, by go_num, B3⟩
      case measure => simp [intOf]; omega
    · obtain rfl : k = j := by omega
      obtain ⟨b, o, rfl, _, hv⟩ := KL.out _ HW.out (by omega)
      obtain ⟨a0, a1, a2, a3⟩ := hv k (by omega)
      clear hv
      generalize kk k = k0 at *
      generalize nn k = n0 at *
      generalize dd k = d0 at *
      generalize ss k = s0 at *
      go_wp2_with fail
      refine (HBad.out _).mono ?_
      rintro e w3 ⟨rfl, hb3⟩
      have B3 : Below w2.heap.size w2 w3 := btr (HW.out.alloc HW.out.size _) hb3
      clear hb3 a0 a1 a2 a3
      have hr6 := KR.out _ B3
      go_wp2_with (refine wpList_store_row 25 _ _ rfl rfl rfl w.heap.size 25 rfl [.int .i64 0, .int .i64 0, .int .i64 0, .string noS] rfl _ hr6 rfl info_val (val_one _ _ _ _) ?_; intro wz hhz hgz hzz; have HBz : Hid (Below w.heap.size w wz) := (btr B2.out B3).grown hgz (btr B2.out B3).size (fun j hj => by injection hj with hj; omega); clear hzz hgz hr6)
      exact bodyPost_ret (v := .tuple #[V 0 0 0 noS, .int .i64 2]) (results_cell_tmp Tryz.results5 _ _ w.heap.size 25 _ (0, 0) _ rfl hhz Tryz.underlying25 rfl (by rw [info_val]; rfl)) rfl ⟨rfl, HBz.out⟩

set_option maxRecDepth 100000 in
set_option maxHeartbeats 4000000 in
theorem d_typeG (w : World) (op : Int) (A : Option Addr) (n cap : Nat) (c n1 n2 m3 r : Int) (l : Bool) (F : Nat) (kk nn dd : Nat → Int) (ss : Nat → ByteArray) (hn : n ≤ 3) (h : Vals w A n kk nn dd ss)
    (HF0 : ∀ W, Calls Tryz.prog 23 #[.int .i64 op, .int .i64 n] W fun e w' => e = .returned (.tuple #[.agg (o7 c n1 n2 m3 r l F).toArray, .bool true]) ∧ Below W.heap.size W w')
    (hval : ∀ k, k < n → ∀ W, Calls Tryz.prog 24 #[V (kk k) (nn k) (dd k) (ss k)] W fun e w' => e = .returned (.bool true) ∧ Below W.heap.size W w') (hs : sFold (n3' n1 n2 m3) kk n = none) :
    Calls Tryz.prog 5 #[.int .i64 op, .slice A n cap] w fun e w' => e = .returned (.tuple #[V 0 0 0 noS, .int .i64 12]) ∧ Below w.heap.size w w' := by
  have HF := Lib.hid HF0
  have HV0 := Lib.hid h
  have HVal := Lib.hid hval
  have HSf := Lib.hid hs
  clear hs
  clear HF0 h hval
  go_enter Tryz.func5, Tryz.ntmps5
  go_wp2_with fail
  have hr0 := heap_alloc_new w (.cells #[.int .i64 0, .int .i64 0, .int .i64 0, .string ⟨#[]⟩] 25)
  refine (HF.out _).mono ?_
  rintro e w1 ⟨rfl, hb1⟩
  have hr1 := (hb1.block _ (by simp)).trans hr0
  have B1 : Hid (Below w.heap.size w w1) := btr ((Below.refl _ _).alloc (Nat.le_refl _) _) hb1
  have hz1 : w.heap.size < w1.heap.size := (Array.getElem?_eq_some_iff.1 hr1).1
  have HR1 := Lib.hid hr1
  clear hr0 hb1 hr1 HF
  simp only [o7]
  go_wp2_with (first | (refine wpList_store_row 53 _ _ rfl rfl rfl w1.heap.size 53 rfl (o7 c n1 n2 m3 r l F) rfl _ (heap_alloc_new w1 _) rfl info_op (o7_one _ _ _ _ _ _ _) ?_; intro w2 hh2 hg2 hz2; have B2 : Hid (Below w.heap.size w w2) := (B1.out.alloc (by omega) _).grown hg2 (by simp; omega) (fun j hj => by injection hj with hj; omega); have HR2 := Lib.hid ((hg2.block _ (by simp; omega) (by simp; omega)).trans ((Below.heap_alloc w1 _ _ hz1).trans HR1.out)); have hl2 : w1.heap.size < w2.heap.size := (by rw [hz2]; simp); have HL2 := Lib.hid hh2; clear hz2 hg2 hh2 HR1))
  have hz2 : w.heap.size < w2.heap.size := by omega
  have K : Hid (∀ W, Below w2.heap.size w2 W → W.heap[w1.heap.size]? = some (.cells (o7 c n1 n2 m3 r l F).toArray 53 (0, 0))) := fun W hW => (hW.block _ hl2).trans HL2.out
  have KR : Hid (∀ W, Below w2.heap.size w2 W → W.heap[w.heap.size]? = some (.cells #[.int .i64 0, .int .i64 0, .int .i64 0, .string ⟨#[]⟩] 25 (0, 0))) := fun W hW => (hW.block _ hz2).trans HR2.out
  have KL : Hid (∀ W, Below w2.heap.size w2 W → Vals W A n kk nn dd ss) := fun W hW => (HV0.out.below B2.out).below hW
  clear HL2 HR2 B1 HV0
  go_loopw [24] (fun i wr => ∃ k : Nat, k ≤ n ∧ i = .int .i64 k ∧ Hid (Below w2.heap.size w2 wr)) (fun i _ => n - (intOf i).toNat)
  case atStart => exact ⟨0, Nat.zero_le _, rfl, Below.refl _ _⟩
  case round =>
    obtain ⟨k, hk, rfl, HW⟩ := hrel
    by_cases hlt : k < n
    · obtain ⟨b, o, rfl, _, hv⟩ := KL.out _ HW.out (by omega)
      obtain ⟨a0, a1, a2, a3⟩ := hv k (by omega)
      clear hv
      have HVk := Lib.hid (HVal.out k (by omega))
      generalize kk k = k0 at *
      generalize nn k = n0 at *
      generalize dd k = d0 at *
      generalize ss k = s0 at *
      go_wp2_with fail
      refine (HVk.out _).mono ?_
      rintro e w3 ⟨rfl, hb3⟩
      have B3 : Hid (Below w2.heap.size w2 w3) := btr (HW.out.alloc HW.out.size _) hb3
      clear hb3 a0 a1 a2 a3
      go_wp2
      go_roundw
      case rel => exact ⟨k + 1, by omega, by go_num, B3⟩
      case measure => simp [intOf]; omega
    · obtain rfl : k = n := by omega
      have hk4 := K.out _ HW.out
      have o0 : wr.cell? ⟨w1.heap.size, 0, none⟩ = some (.int .i64 c) := by rw [cell_of_row _ _ _ _ _ _ hk4]; rfl
      have o1 : wr.cell? ⟨w1.heap.size, 1, none⟩ = some (.int .i64 n1) := by rw [cell_of_row _ _ _ _ _ _ hk4]; rfl
      have o2 : wr.cell? ⟨w1.heap.size, 2, none⟩ = some (.int .i64 n2) := by rw [cell_of_row _ _ _ _ _ _ hk4]; rfl
      have o3 : wr.cell? ⟨w1.heap.size, 3, none⟩ = some (.int .i64 m3) := by rw [cell_of_row _ _ _ _ _ _ hk4]; rfl
      have o4 : wr.cell? ⟨w1.heap.size, 4, none⟩ = some (.int .i64 r) := by rw [cell_of_row _ _ _ _ _ _ hk4]; rfl
      have o5 : wr.cell? ⟨w1.heap.size, 5, none⟩ = some (.bool l) := by rw [cell_of_row _ _ _ _ _ _ hk4]; rfl
      have o6 : wr.cell? ⟨w1.heap.size, 6, none⟩ = some (.func (.func F) #[] #[]) := by rw [cell_of_row _ _ _ _ _ _ hk4]; rfl
      clear hk4
      have HSh := Lib.hid (c_suits wr A k cap c n1 n2 m3 r l (.func (.func F) #[] #[]) kk nn dd ss hn (KL.out _ HW.out))
      rw [HSf.out] at HSh
      simp only [Option.isSome] at HSh
      go_wp2_with fail
      refine HSh.out.mono ?_
      rintro e w5 ⟨rfl, hb5⟩
      have B5 : Below w2.heap.size w2 w5 := btr HW.out hb5
      clear hb5 HSh o0 o1 o2 o3 o4 o5 o6
      have hr6 := KR.out _ B5
      go_wp2_with (refine wpList_store_row 25 _ _ rfl rfl rfl w.heap.size 25 rfl [.int .i64 0, .int .i64 0, .int .i64 0, .string noS] rfl _ hr6 rfl info_val (val_one _ _ _ _) ?_; intro wz hhz hgz hzz; have HBz : Hid (Below w.heap.size w wz) := (btr B2.out B5).grown hgz (btr B2.out B5).size (fun j hj => by injection hj with hj; omega); clear hzz hgz hr6)
      exact bodyPost_ret (v := .tuple #[V 0 0 0 noS, .int .i64 12]) (results_cell_tmp Tryz.results5 _ _ w.heap.size 25 _ (0, 0) _ rfl hhz Tryz.underlying25 rfl (by rw [info_val]; rfl)) rfl ⟨rfl, HBz.out⟩

set_option maxRecDepth 100000 in
set_option maxHeartbeats 4000000 in
theorem d_missG (w : World) (op : Int) (A : Option Addr) (n cap : Nat) (c n1 n2 m3 r : Int) (F : Nat) (kk nn dd : Nat → Int) (ss : Nat → ByteArray) (hn : n ≤ 3) (h : Vals w A n kk nn dd ss)
    (HF0 : ∀ W, Calls Tryz.prog 23 #[.int .i64 op, .int .i64 n] W fun e w' => e = .returned (.tuple #[.agg (o7 c n1 n2 m3 r false F).toArray, .bool true]) ∧ Below W.heap.size W w')
    (hval : ∀ k, k < n → ∀ W, Calls Tryz.prog 24 #[V (kk k) (nn k) (dd k) (ss k)] W fun e w' => e = .returned (.bool true) ∧ Below W.heap.size W w') (sh : Int) (hs : sFold (n3' n1 n2 m3) kk n = some sh) (j : Nat) (hj : j < n) (hno : ∀ k, k < j → kk k ≠ 0) (hmi : kk j = 0) :
    Calls Tryz.prog 5 #[.int .i64 op, .slice A n cap] w fun e w' => e = .returned (.tuple #[V 0 (nn j) (dd j) (ss j), .int .i64 0]) ∧ Below w.heap.size w w' := by
  have HF := Lib.hid HF0
  have HV0 := Lib.hid h
  have HVal := Lib.hid hval
  have HSf := Lib.hid hs
  clear hs
  have HNo := Lib.hid hno
  have HMi := Lib.hid hmi
  clear hno hmi
  clear HF0 h hval
  go_enter Tryz.func5, Tryz.ntmps5
  go_wp2_with fail
  have hr0 := heap_alloc_new w (.cells #[.int .i64 0, .int .i64 0, .int .i64 0, .string ⟨#[]⟩] 25)
  refine (HF.out _).mono ?_
  rintro e w1 ⟨rfl, hb1⟩
  have hr1 := (hb1.block _ (by simp)).trans hr0
  have B1 : Hid (Below w.heap.size w w1) := btr ((Below.refl _ _).alloc (Nat.le_refl _) _) hb1
  have hz1 : w.heap.size < w1.heap.size := (Array.getElem?_eq_some_iff.1 hr1).1
  have HR1 := Lib.hid hr1
  clear hr0 hb1 hr1 HF
  simp only [o7]
  go_wp2_with (first | (refine wpList_store_row 53 _ _ rfl rfl rfl w1.heap.size 53 rfl (o7 c n1 n2 m3 r false F) rfl _ (heap_alloc_new w1 _) rfl info_op (o7_one _ _ _ _ _ _ _) ?_; intro w2 hh2 hg2 hz2; have B2 : Hid (Below w.heap.size w w2) := (B1.out.alloc (by omega) _).grown hg2 (by simp; omega) (fun j hj => by injection hj with hj; omega); have HR2 := Lib.hid ((hg2.block _ (by simp; omega) (by simp; omega)).trans ((Below.heap_alloc w1 _ _ hz1).trans HR1.out)); have hl2 : w1.heap.size < w2.heap.size := (by rw [hz2]; simp); have HL2 := Lib.hid hh2; clear hz2 hg2 hh2 HR1))
  have hz2 : w.heap.size < w2.heap.size := by omega
  have K : Hid (∀ W, Below w2.heap.size w2 W → W.heap[w1.heap.size]? = some (.cells (o7 c n1 n2 m3 r false F).toArray 53 (0, 0))) := fun W hW => (hW.block _ hl2).trans HL2.out
  have KR : Hid (∀ W, Below w2.heap.size w2 W → W.heap[w.heap.size]? = some (.cells #[.int .i64 0, .int .i64 0, .int .i64 0, .string ⟨#[]⟩] 25 (0, 0))) := fun W hW => (hW.block _ hz2).trans HR2.out
  have KL : Hid (∀ W, Below w2.heap.size w2 W → Vals W A n kk nn dd ss) := fun W hW => (HV0.out.below B2.out).below hW
  clear HL2 HR2 B1 HV0
  go_loopw [24] (fun i wr => ∃ k : Nat, k ≤ n ∧ i = .int .i64 k ∧ Hid (Below w2.heap.size w2 wr)) (fun i _ => n - (intOf i).toNat)
  case atStart => exact ⟨0, Nat.zero_le _, rfl, Below.refl _ _⟩
  case round =>
    obtain ⟨k, hk, rfl, HW⟩ := hrel
    by_cases hlt : k < n
    · obtain ⟨b, o, rfl, _, hv⟩ := KL.out _ HW.out (by omega)
      obtain ⟨a0, a1, a2, a3⟩ := hv k (by omega)
      clear hv
      have HVk := Lib.hid (HVal.out k (by omega))
      generalize kk k = k0 at *
      generalize nn k = n0 at *
      generalize dd k = d0 at *
      generalize ss k = s0 at *
      go_wp2_with fail
      refine (HVk.out _).mono ?_
      rintro e w3 ⟨rfl, hb3⟩
      have B3 : Hid (Below w2.heap.size w2 w3) := btr (HW.out.alloc HW.out.size _) hb3
      clear hb3 a0 a1 a2 a3
      go_wp2
      go_roundw
      case rel => exact ⟨k + 1, by omega, by go_num, B3⟩
      case measure => simp [intOf]; omega
    · obtain rfl : k = n := by omega
      have hk4 := K.out _ HW.out
      have o0 : wr.cell? ⟨w1.heap.size, 0, none⟩ = some (.int .i64 c) := by rw [cell_of_row _ _ _ _ _ _ hk4]; rfl
      have o1 : wr.cell? ⟨w1.heap.size, 1, none⟩ = some (.int .i64 n1) := by rw [cell_of_row _ _ _ _ _ _ hk4]; rfl
      have o2 : wr.cell? ⟨w1.heap.size, 2, none⟩ = some (.int .i64 n2) := by rw [cell_of_row _ _ _ _ _ _ hk4]; rfl
      have o3 : wr.cell? ⟨w1.heap.size, 3, none⟩ = some (.int .i64 m3) := by rw [cell_of_row _ _ _ _ _ _ hk4]; rfl
      have o4 : wr.cell? ⟨w1.heap.size, 4, none⟩ = some (.int .i64 r) := by rw [cell_of_row _ _ _ _ _ _ hk4]; rfl
      have o5 : wr.cell? ⟨w1.heap.size, 5, none⟩ = some (.bool false) := by rw [cell_of_row _ _ _ _ _ _ hk4]; rfl
      have o6 : wr.cell? ⟨w1.heap.size, 6, none⟩ = some (.func (.func F) #[] #[]) := by rw [cell_of_row _ _ _ _ _ _ hk4]; rfl
      clear hk4
      have HSh := Lib.hid (c_suits wr A k cap c n1 n2 m3 r false (.func (.func F) #[] #[]) kk nn dd ss hn (KL.out _ HW.out))
      rw [HSf.out] at HSh
      simp only [Option.isSome] at HSh
      go_wp2_with fail
      refine HSh.out.mono ?_
      rintro e w5 ⟨rfl, hb5⟩
      have B5 : Below w2.heap.size w2 w5 := btr HW.out hb5
      clear hb5 HSh o0 o1 o2 o3 o4 o5 o6
      have hk5 := K.out _ B5
      have p5 : w5.cell? ⟨w1.heap.size, 5, none⟩ = some (.bool false) := by rw [cell_of_row _ _ _ _ _ _ hk5]; rfl
      clear hk5
      have HB5 := Lib.hid B5
      clear B5
      go_wp2
      go_loopw [43] (fun i wr' => ∃ i' : Nat, i' ≤ j ∧ i = .int .i64 i' ∧ Hid (Below w2.heap.size w2 wr')) (fun i _ => k - (intOf i).toNat)
      case atStart => exact ⟨0, Nat.zero_le _, rfl, HB5⟩
      case round =>
        obtain ⟨i', hi', rfl, HWW⟩ := hrel
        have hin : i' < k := by omega
        obtain ⟨b, o, rfl, _, hv⟩ := KL.out _ HWW.out (by omega)
        obtain ⟨a0, a1, a2, a3⟩ := hv i' hin
        clear hv
        by_cases hlt' : i' < j
        · have HM := Lib.hid (c_isMissing (kk i') (nn i') (dd i') (ss i'))
          rw [show (kk i' == 0) = false by rw [beq_eq_false_iff_ne]; exact HNo.out i' hlt'] at HM
          generalize kk i' = k0 at *
          generalize nn i' = n0 at *
          generalize dd i' = d0 at *
          generalize ss i' = s0 at *
          go_wp2_with fail
          refine (HM.out _).mono ?_
          rintro e w6 ⟨rfl, hb6⟩
          have B6 : Hid (Below w2.heap.size w2 w6) := btr (HWW.out.alloc HWW.out.size _) hb6
          clear hb6 a0 a1 a2 a3
          go_wp2
          go_roundw
          case rel => exact ⟨i' + 1, by omega, by go_num, B6⟩
          case measure => simp [intOf]; omega
        · obtain rfl : i' = j := by omega
          rw [HMi.out] at a0
          have hrv := heap_alloc_new wr (.cells #[.int .i64 0, .int .i64 (nn i'), .int .i64 (dd i'), .string (ss i')] 25)
          go_wp2_with fail
          refine (c_isMissing0 _ _ _ _).mono ?_
          rintro e w6 ⟨rfl, hb6⟩
          have hv6 := (hb6.block _ (by simp)).trans hrv
          have v0 : w6.cell? ⟨wr.heap.size, 0, none⟩ = some (.int .i64 0) := by rw [cell_of_row _ _ _ _ _ _ hv6]; rfl
          have v1 : w6.cell? ⟨wr.heap.size, 1, none⟩ = some (.int .i64 (nn i')) := by rw [cell_of_row _ _ _ _ _ _ hv6]; rfl
          have v2 : w6.cell? ⟨wr.heap.size, 2, none⟩ = some (.int .i64 (dd i')) := by rw [cell_of_row _ _ _ _ _ _ hv6]; rfl
          have v3 : w6.cell? ⟨wr.heap.size, 3, none⟩ = some (.string (ss i')) := by rw [cell_of_row _ _ _ _ _ _ hv6]; rfl
          have B6 : Below w2.heap.size w2 w6 := btr (HWW.out.alloc HWW.out.size _) hb6
          clear hb6 a0 a1 a2 a3 hrv hv6
          have hr6 := KR.out _ B6
          go_wp2_with (refine wpList_store_row 25 _ _ rfl rfl rfl w.heap.size 25 rfl [.int .i64 0, .int .i64 (nn i'), .int .i64 (dd i'), .string (ss i')] rfl _ hr6 rfl info_val (val_one _ _ _ _) ?_; intro wz hhz hgz hzz; have HBz : Hid (Below w.heap.size w wz) := (btr B2.out B6).grown hgz (btr B2.out B6).size (fun j hj => by injection hj with hj; omega); clear hzz hgz hr6)
          exact bodyPost_ret (v := .tuple #[V 0 (nn i') (dd i') (ss i'), .int .i64 0]) (results_cell_tmp Tryz.results5 _ _ w.heap.size 25 _ (0, 0) _ rfl hhz Tryz.underlying25 rfl (by rw [info_val]; rfl)) rfl ⟨rfl, HBz.out⟩

set_option maxRecDepth 100000 in
set_option maxHeartbeats 4000000 in
theorem d_runG (w : World) (op : Int) (A : Option Addr) (n cap : Nat) (c n1 n2 m3 r : Int) (l : Bool) (F : Nat) (kk nn dd : Nat → Int) (ss : Nat → ByteArray) (hn : n ≤ 3) (h : Vals w A n kk nn dd ss)
    (HF0 : ∀ W, Calls Tryz.prog 23 #[.int .i64 op, .int .i64 n] W fun e w' => e = .returned (.tuple #[.agg (o7 c n1 n2 m3 r l F).toArray, .bool true]) ∧ Below W.heap.size W w')
    (hval : ∀ k, k < n → ∀ W, Calls Tryz.prog 24 #[V (kk k) (nn k) (dd k) (ss k)] W fun e w' => e = .returned (.bool true) ∧ Below W.heap.size W w') (sh : Int) (hs : sFold (n3' n1 n2 m3) kk n = some sh) (hno : l = true ∨ ∀ k, k < n → kk k ≠ 0) (rk rn rd : Int) (rs : ByteArray) (hF : ∀ (args : Array Value) (W : World), (callFunc F args).run Tryz.prog W = .ok (.enter F args) W) (HR : ∀ W, Below w.heap.size w W → Calls Tryz.prog F #[.slice A n cap] W fun e w' => e = .returned (V rk rn rd rs) ∧ Below W.heap.size W w') :
    Calls Tryz.prog 5 #[.int .i64 op, .slice A n cap] w fun e w' => e = .returned (.tuple #[V rk rn rd rs, .int .i64 0]) ∧ Below w.heap.size w w' := by
  have HF := Lib.hid HF0
  have HV0 := Lib.hid h
  have HVal := Lib.hid hval
  have HSf := Lib.hid hs
  clear hs
  have HRh := Lib.hid HR
  have HFn := Lib.hid hF
  have HNo := Lib.hid hno
  clear HR hF hno
  clear HF0 h hval
  go_enter Tryz.func5, Tryz.ntmps5
  go_wp2_with fail
  have hr0 := heap_alloc_new w (.cells #[.int .i64 0, .int .i64 0, .int .i64 0, .string ⟨#[]⟩] 25)
  refine (HF.out _).mono ?_
  rintro e w1 ⟨rfl, hb1⟩
  have hr1 := (hb1.block _ (by simp)).trans hr0
  have B1 : Hid (Below w.heap.size w w1) := btr ((Below.refl _ _).alloc (Nat.le_refl _) _) hb1
  have hz1 : w.heap.size < w1.heap.size := (Array.getElem?_eq_some_iff.1 hr1).1
  have HR1 := Lib.hid hr1
  clear hr0 hb1 hr1 HF
  simp only [o7]
  go_wp2_with (first | (refine wpList_store_row 53 _ _ rfl rfl rfl w1.heap.size 53 rfl (o7 c n1 n2 m3 r l F) rfl _ (heap_alloc_new w1 _) rfl info_op (o7_one _ _ _ _ _ _ _) ?_; intro w2 hh2 hg2 hz2; have B2 : Hid (Below w.heap.size w w2) := (B1.out.alloc (by omega) _).grown hg2 (by simp; omega) (fun j hj => by injection hj with hj; omega); have HR2 := Lib.hid ((hg2.block _ (by simp; omega) (by simp; omega)).trans ((Below.heap_alloc w1 _ _ hz1).trans HR1.out)); have hl2 : w1.heap.size < w2.heap.size := (by rw [hz2]; simp); have HL2 := Lib.hid hh2; clear hz2 hg2 hh2 HR1))
  have hz2 : w.heap.size < w2.heap.size := by omega
  have K : Hid (∀ W, Below w2.heap.size w2 W → W.heap[w1.heap.size]? = some (.cells (o7 c n1 n2 m3 r l F).toArray 53 (0, 0))) := fun W hW => (hW.block _ hl2).trans HL2.out
  have KR : Hid (∀ W, Below w2.heap.size w2 W → W.heap[w.heap.size]? = some (.cells #[.int .i64 0, .int .i64 0, .int .i64 0, .string ⟨#[]⟩] 25 (0, 0))) := fun W hW => (hW.block _ hz2).trans HR2.out
  have KL : Hid (∀ W, Below w2.heap.size w2 W → Vals W A n kk nn dd ss) := fun W hW => (HV0.out.below B2.out).below hW
  clear HL2 HR2 B1 HV0
  go_loopw [24] (fun i wr => ∃ k : Nat, k ≤ n ∧ i = .int .i64 k ∧ Hid (Below w2.heap.size w2 wr)) (fun i _ => n - (intOf i).toNat)
  case atStart => exact ⟨0, Nat.zero_le _, rfl, Below.refl _ _⟩
  case round =>
    obtain ⟨k, hk, rfl, HW⟩ := hrel
    by_cases hlt : k < n
    · obtain ⟨b, o, rfl, _, hv⟩ := KL.out _ HW.out (by omega)
      obtain ⟨a0, a1, a2, a3⟩ := hv k (by omega)
      clear hv
      have HVk := Lib.hid (HVal.out k (by omega))
      generalize kk k = k0 at *
      generalize nn k = n0 at *
      generalize dd k = d0 at *
      generalize ss k = s0 at *
      go_wp2_with fail
      refine (HVk.out _).mono ?_
      rintro e w3 ⟨rfl, hb3⟩
      have B3 : Hid (Below w2.heap.size w2 w3) := btr (HW.out.alloc HW.out.size _) hb3
      clear hb3 a0 a1 a2 a3
      go_wp2
      go_roundw
      case rel => exact ⟨k + 1, by omega, by go_num, B3⟩
      case measure => simp [intOf]; omega
    · obtain rfl : k = n := by omega
      have hk4 := K.out _ HW.out
      have o0 : wr.cell? ⟨w1.heap.size, 0, none⟩ = some (.int .i64 c) := by rw [cell_of_row _ _ _ _ _ _ hk4]; rfl
      have o1 : wr.cell? ⟨w1.heap.size, 1, none⟩ = some (.int .i64 n1) := by rw [cell_of_row _ _ _ _ _ _ hk4]; rfl
      have o2 : wr.cell? ⟨w1.heap.size, 2, none⟩ = some (.int .i64 n2) := by rw [cell_of_row _ _ _ _ _ _ hk4]; rfl
      have o3 : wr.cell? ⟨w1.heap.size, 3, none⟩ = some (.int .i64 m3) := by rw [cell_of_row _ _ _ _ _ _ hk4]; rfl
      have o4 : wr.cell? ⟨w1.heap.size, 4, none⟩ = some (.int .i64 r) := by rw [cell_of_row _ _ _ _ _ _ hk4]; rfl
      have o5 : wr.cell? ⟨w1.heap.size, 5, none⟩ = some (.bool l) := by rw [cell_of_row _ _ _ _ _ _ hk4]; rfl
      have o6 : wr.cell? ⟨w1.heap.size, 6, none⟩ = some (.func (.func F) #[] #[]) := by rw [cell_of_row _ _ _ _ _ _ hk4]; rfl
      clear hk4
      have HSh := Lib.hid (c_suits wr A k cap c n1 n2 m3 r l (.func (.func F) #[] #[]) kk nn dd ss hn (KL.out _ HW.out))
      rw [HSf.out] at HSh
      simp only [Option.isSome] at HSh
      go_wp2_with fail
      refine HSh.out.mono ?_
      rintro e w5 ⟨rfl, hb5⟩
      have B5 : Below w2.heap.size w2 w5 := btr HW.out hb5
      clear hb5 HSh o0 o1 o2 o3 o4 o5 o6
      have hk5 := K.out _ B5
      have p5 : w5.cell? ⟨w1.heap.size, 5, none⟩ = some (.bool l) := by rw [cell_of_row _ _ _ _ _ _ hk5]; rfl
      have p6 : w5.cell? ⟨w1.heap.size, 6, none⟩ = some (.func (.func F) #[] #[]) := by rw [cell_of_row _ _ _ _ _ _ hk5]; rfl
      clear hk5
      cases l with
      | true =>
        have hcf := HFn.out #[.slice A k cap] w5
        go_wp2_with fail
        refine (HRh.out _ (btr B2.out B5)).mono ?_
        rintro e w8 ⟨rfl, hb8⟩
        have B8 : Below w2.heap.size w2 w8 := btr B5 hb8
        clear hb8 HRh p5 p6 hcf
        have hr6 := KR.out _ B8
        go_wp2_with (refine wpList_store_row 25 _ _ rfl rfl rfl w.heap.size 25 rfl [.int .i64 rk, .int .i64 rn, .int .i64 rd, .string rs] rfl _ hr6 rfl info_val (val_one _ _ _ _) ?_; intro wz hhz hgz hzz; have HBz : Hid (Below w.heap.size w wz) := (btr B2.out B8).grown hgz (btr B2.out B8).size (fun j hj => by injection hj with hj; omega); clear hzz hgz hr6)
        exact bodyPost_ret (v := .tuple #[V rk rn rd rs, .int .i64 0]) (results_cell_tmp Tryz.results5 _ _ w.heap.size 25 _ (0, 0) _ rfl hhz Tryz.underlying25 rfl (by rw [info_val]; rfl)) rfl ⟨rfl, HBz.out⟩
      | false =>
        have HNo' : Hid (∀ i, i < k → kk i ≠ 0) := by rcases HNo.out with h | h
                                                      · cases h
                                                      · exact h
        clear HNo p6
        have HB5 := Lib.hid B5
        clear B5
        go_wp2
        go_loopw [43] (fun i wr' => ∃ i' : Nat, i' ≤ k ∧ i = .int .i64 i' ∧ Hid (Below w2.heap.size w2 wr')) (fun i _ => k - (intOf i).toNat)
        case atStart => exact ⟨0, Nat.zero_le _, rfl, HB5⟩
        case round =>
          obtain ⟨i', hi', rfl, HWW⟩ := hrel
          by_cases hlt' : i' < k
          · obtain ⟨b, o, rfl, _, hv⟩ := KL.out _ HWW.out (by omega)
            obtain ⟨a0, a1, a2, a3⟩ := hv i' hlt'
            clear hv
            have HM := Lib.hid (c_isMissing (kk i') (nn i') (dd i') (ss i'))
            rw [show (kk i' == 0) = false by rw [beq_eq_false_iff_ne]; exact HNo'.out i' hlt'] at HM
            generalize kk i' = k0 at *
            generalize nn i' = n0 at *
            generalize dd i' = d0 at *
            generalize ss i' = s0 at *
            go_wp2_with fail
            refine (HM.out _).mono ?_
            rintro e w6 ⟨rfl, hb6⟩
            have B6 : Hid (Below w2.heap.size w2 w6) := btr (HWW.out.alloc HWW.out.size _) hb6
            clear hb6 a0 a1 a2 a3
            go_wp2
            go_roundw
            case rel => exact ⟨i' + 1, by omega, by go_num, B6⟩
            case measure => simp [intOf]; omega
          · obtain rfl : i' = k := by omega
            have hk7 := K.out _ HWW.out
            have q6 : wr.cell? ⟨w1.heap.size, 6, none⟩ = some (.func (.func F) #[] #[]) := by rw [cell_of_row _ _ _ _ _ _ hk7]; rfl
            clear hk7
            have hcf := HFn.out #[.slice A i' cap] wr
            go_wp2_with fail
            refine (HRh.out _ (btr B2.out HWW.out)).mono ?_
            rintro e w8 ⟨rfl, hb8⟩
            have B8 : Below w2.heap.size w2 w8 := btr HWW.out hb8
            clear hb8 HRh q6 hcf
            have hr6 := KR.out _ B8
            go_wp2_with (refine wpList_store_row 25 _ _ rfl rfl rfl w.heap.size 25 rfl [.int .i64 rk, .int .i64 rn, .int .i64 rd, .string rs] rfl _ hr6 rfl info_val (val_one _ _ _ _) ?_; intro wz hhz hgz hzz; have HBz : Hid (Below w.heap.size w wz) := (btr B2.out B8).grown hgz (btr B2.out B8).size (fun j hj => by injection hj with hj; omega); clear hzz hgz hr6)
            exact bodyPost_ret (v := .tuple #[V rk rn rd rs, .int .i64 0]) (results_cell_tmp Tryz.results5 _ _ w.heap.size 25 _ (0, 0) _ rfl hhz Tryz.underlying25 rfl (by rw [info_val]; rfl)) rfl ⟨rfl, HBz.out⟩
end Go.Proofs.YtnfncdalneifnaaGreatDoor
end

/- Finding an operation by its number and its number of operands: what is none. -/
section
namespace Go.Proofs.YtnfncdalneifnaaGreatDoor
open Go.RowKit Go.Deep

/-- How many operands an operation has; 0 for what is none. -/
def opn (op : Int) : Int := if 4 ≤ op ∧ op ≤ 8 then 1 else if 9 ≤ op ∧ op ≤ 21 then 2 else if op = 22 then 3 else 0
theorem one_of (p0 : Nat) (n : Int) (h : tab.toArray[p0]? = some (.int .i64 n)) : Hid (∀ (W : World) (g : Nat), W.heap[g]? = some (.cells tab.toArray 96 (0, 0)) → W.cell? ⟨g, p0, none⟩ = some (.int .i64 n)) := fun _ _ hg => (cell_of_row _ _ _ _ _ _ hg).trans h

set_option maxRecDepth 100000 in
set_option maxHeartbeats 40000000 in
theorem f_none (w : World) (op c : Int) (hc : 0 ≤ c) (h : opn op = 0 ∨ opn op ≠ c) :
    Calls Tryz.prog 23 #[.int .i64 op, .int .i64 c] w fun e w' => e = .returned (.tuple #[.agg z7.toArray, .bool false]) ∧ Below w.heap.size w w' := by
  by_cases h1 : op < 0
  · exact f_bad w op c (.inl h1)
  by_cases h2 : 23 ≤ op
  · exact f_bad w op c (.inr (.inl ⟨by omega, h2⟩))
  by_cases h3 : c = 0
  · exact f_bad w op c (.inr (.inr ⟨by omega, by omega, h3⟩))
  have HO := Lib.hid (fun W => c_operations W)
  have hc0 : ((c : Int) == 0) = false := by rw [beq_eq_false_iff_ne]; omega
  have hk : op = 0 ∨ op = 1 ∨ op = 2 ∨ op = 3 ∨ op = 4 ∨ op = 5 ∨ op = 6 ∨ op = 7 ∨ op = 8 ∨ op = 9 ∨ op = 10 ∨ op = 11 ∨ op = 12 ∨ op = 13 ∨ op = 14 ∨ op = 15 ∨ op = 16 ∨ op = 17 ∨ op = 18 ∨ op = 19 ∨ op = 20 ∨ op = 21 ∨ op = 22 := by omega
  have hn : opn op ≠ c := by omega
  clear h1 h2 h3 hc h
  rcases hk with rfl | rfl | rfl | rfl | rfl | rfl | rfl | rfl | rfl | rfl | rfl | rfl | rfl | rfl | rfl | rfl | rfl | rfl | rfl | rfl | rfl | rfl | rfl
  have HC := one_of 0 0 (by kernel_rfl)
  have hck : ((0 : Int) != c) = true := bne_iff_ne.2 hn
  rotate_left
  have HC := one_of 7 0 (by kernel_rfl)
  have hck : ((0 : Int) != c) = true := bne_iff_ne.2 hn
  rotate_left
  have HC := one_of 14 0 (by kernel_rfl)
  have hck : ((0 : Int) != c) = true := bne_iff_ne.2 hn
  rotate_left
  have HC := one_of 21 0 (by kernel_rfl)
  have hck : ((0 : Int) != c) = true := bne_iff_ne.2 hn
  rotate_left
  have HC := one_of 28 1 (by kernel_rfl)
  have hck : ((1 : Int) != c) = true := bne_iff_ne.2 hn
  rotate_left
  have HC := one_of 35 1 (by kernel_rfl)
  have hck : ((1 : Int) != c) = true := bne_iff_ne.2 hn
  rotate_left
  have HC := one_of 42 1 (by kernel_rfl)
  have hck : ((1 : Int) != c) = true := bne_iff_ne.2 hn
  rotate_left
  have HC := one_of 49 1 (by kernel_rfl)
  have hck : ((1 : Int) != c) = true := bne_iff_ne.2 hn
  rotate_left
  have HC := one_of 56 1 (by kernel_rfl)
  have hck : ((1 : Int) != c) = true := bne_iff_ne.2 hn
  rotate_left
  have HC := one_of 63 2 (by kernel_rfl)
  have hck : ((2 : Int) != c) = true := bne_iff_ne.2 hn
  rotate_left
  have HC := one_of 70 2 (by kernel_rfl)
  have hck : ((2 : Int) != c) = true := bne_iff_ne.2 hn
  rotate_left
  have HC := one_of 77 2 (by kernel_rfl)
  have hck : ((2 : Int) != c) = true := bne_iff_ne.2 hn
  rotate_left
  have HC := one_of 84 2 (by kernel_rfl)
  have hck : ((2 : Int) != c) = true := bne_iff_ne.2 hn
  rotate_left
  have HC := one_of 91 2 (by kernel_rfl)
  have hck : ((2 : Int) != c) = true := bne_iff_ne.2 hn
  rotate_left
  have HC := one_of 98 2 (by kernel_rfl)
  have hck : ((2 : Int) != c) = true := bne_iff_ne.2 hn
  rotate_left
  have HC := one_of 105 2 (by kernel_rfl)
  have hck : ((2 : Int) != c) = true := bne_iff_ne.2 hn
  rotate_left
  have HC := one_of 112 2 (by kernel_rfl)
  have hck : ((2 : Int) != c) = true := bne_iff_ne.2 hn
  rotate_left
  have HC := one_of 119 2 (by kernel_rfl)
  have hck : ((2 : Int) != c) = true := bne_iff_ne.2 hn
  rotate_left
  have HC := one_of 126 2 (by kernel_rfl)
  have hck : ((2 : Int) != c) = true := bne_iff_ne.2 hn
  rotate_left
  have HC := one_of 133 2 (by kernel_rfl)
  have hck : ((2 : Int) != c) = true := bne_iff_ne.2 hn
  rotate_left
  have HC := one_of 140 2 (by kernel_rfl)
  have hck : ((2 : Int) != c) = true := bne_iff_ne.2 hn
  rotate_left
  have HC := one_of 147 2 (by kernel_rfl)
  have hck : ((2 : Int) != c) = true := bne_iff_ne.2 hn
  rotate_left
  have HC := one_of 154 3 (by kernel_rfl)
  have hck : ((3 : Int) != c) = true := bne_iff_ne.2 hn
  rotate_left
  all_goals
    clear hn
    go_enter Tryz.func23, Tryz.ntmps23
    go_wp2_with fail
    have hr0 := heap_alloc_new w (.cells z7.toArray 53)
    refine (HO.out _).mono ?_
    rintro e w1 ⟨rfl, hb1⟩
    have hr1 : w1.heap[w.heap.size]? = some (.cells z7.toArray 53 (0, 0)) := (hb1.block _ (by simp)).trans hr0
    have hlt : w.heap.size < w1.heap.size := (Array.getElem?_eq_some_iff.1 hr1).1
    have HB1 : Hid (Below w.heap.size w w1) := btr ((Below.refl _ _).alloc (Nat.le_refl _) _) hb1
    clear hr0 hb1
    generalize HT : tab.toArray = TT
    have HH := Lib.hid HT
    clear HT HO
    go_wp2_with (first | (refine wpList_store_row 96 _ _ rfl rfl rfl w1.heap.size 96 rfl tab (congrArg Value.agg HH.out.symm) _ (heap_alloc_new w1 _) (by kernel_rfl) info_tab tab_one ?_; intro w2 hh2 hg2 hz2; have hr2 : w2.heap[w.heap.size]? = some (.cells z7.toArray 53 (0, 0)) := (hg2.block _ (by simp; omega) (by simp; omega)).trans ((Below.heap_alloc w1 _ _ hlt).trans hr1); have HB2 : Hid (Below w.heap.size w w2) := (HB1.out.alloc (by omega) _).grown hg2 (by simp; omega) (fun k hk => by injection hk with hk; omega); clear hz2 hg2 hr1; have c0 := HC.out _ _ hh2) | (refine wpList_store_row 53 _ _ rfl rfl rfl w.heap.size 53 rfl z7 rfl _ hr2 rfl info_op z7_one ?_; intro w3 hh3 hg3 hz3; have HB3 : Hid (Below w.heap.size w w3) := HB2.out.grown hg3 (HB2.out.size) (fun k hk => by injection hk with hk; omega); clear hz3 hg3))
    refine bodyPost_ret (v := .tuple #[.agg z7.toArray, .bool false]) (results_cell_tmp Tryz.results23 _ _ w.heap.size 53 _ (0, 0) _ rfl hh3 Tryz.underlying53 rfl (by rw [info_op]; rfl)) rfl ⟨rfl, HB3.out⟩
end Go.Proofs.YtnfncdalneifnaaGreatDoor
end

/- The reference's operations: how many operands they have, and of which kinds. -/
section
namespace Go.Proofs.YtnfncdalneifnaaGreatDoor
open Go Go.RowKit Go.Deep

theorem r_operands (op : Int) (w : World) : Calls Tryz.prog 27 #[.int .i64 op] w fun e w' => e = .returned (.int .i64 (opn op)) ∧ Below w.heap.size w w' := by
  unfold opn
  by_cases h1 : 4 ≤ op ∧ op ≤ 8
  · rw [if_pos h1]
    obtain ⟨a, b⟩ := h1
    go_enter Tryz.func27, Tryz.ntmps27
    go_wp2
    go_ret
    exact ⟨rfl, Below.refl _ _⟩
  · rw [if_neg h1]
    have c1 : ¬ 4 ≤ op ∨ (4 ≤ op ∧ ¬ op ≤ 8) := by omega
    by_cases h2 : 9 ≤ op ∧ op ≤ 21
    · rw [if_pos h2]
      obtain ⟨a, b⟩ := h2
      have c2 : 4 ≤ op ∧ ¬ op ≤ 8 := by omega
      obtain ⟨c2, c3⟩ := c2
      clear c1 h1
      go_enter Tryz.func27, Tryz.ntmps27
      go_wp2
      go_ret
      exact ⟨rfl, Below.refl _ _⟩
    · rw [if_neg h2]
      by_cases h3 : op = 22
      · subst h3
        rw [if_pos rfl]
        clear c1 h1 h2
        go_enter Tryz.func27, Tryz.ntmps27
        go_wp2
        go_ret
        exact ⟨rfl, Below.refl _ _⟩
      · rw [if_neg h3]
        have h4 : (op == 22) = false := by rw [beq_eq_false_iff_ne]; exact h3
        have c4 : ¬ 4 ≤ op ∨ ((4 ≤ op ∧ ¬ op ≤ 8) ∧ 9 ≤ op ∧ ¬ op ≤ 21) := by omega
        clear h1 h2 h3 c1
        rcases c4 with a | ⟨⟨a, b⟩, c, d⟩
        · have a9 : ¬ 9 ≤ op := by omega
          go_enter Tryz.func27, Tryz.ntmps27
          go_wp2
          go_ret
          exact ⟨rfl, Below.refl _ _⟩
        · go_enter Tryz.func27, Tryz.ntmps27
          go_wp2
          go_ret
          exact ⟨rfl, Below.refl _ _⟩
set_option maxRecDepth 100000 in
set_option maxHeartbeats 2000000 in
theorem r_of (k n d : Int) (s : ByteArray) (kind : Int) (w : World) : Calls Tryz.prog 69 #[V k n d s, .int .i64 kind] w fun e w' => e = .returned (.bool (k == 0 || k == kind)) ∧ Below w.heap.size w w' := by
  obtain ⟨W, b, hW, hb, hlt, hbel, K⟩ := box_facts w k n d s
  subst hb
  have HBel := Lib.hid hbel
  obtain ⟨k0, k1, k2, k3⟩ := K.out W (Below.refl _ _)
  clear hbel
  generalize hX : (k == 0) = X at *
  generalize hY : (k == kind) = Y at *
  cases X
  · cases Y
    all_goals
      go_enter Tryz.func69, Tryz.ntmps69
      go_wp2
      go_ret
      exact ⟨rfl, HBel.out⟩
  · go_enter Tryz.func69, Tryz.ntmps69
    go_wp2
    go_ret
    exact ⟨rfl, HBel.out⟩
set_option maxRecDepth 100000 in
set_option maxHeartbeats 2000000 in
theorem r_alike (k n d : Int) (s : ByteArray) (k' n' d' : Int) (s' : ByteArray) (w : World) : Calls Tryz.prog 70 #[V k n d s, V k' n' d' s'] w fun e w' => e = .returned (.bool (k == 0 || k' == 0 || k == k')) ∧ Below w.heap.size w w' := by
  obtain ⟨W0, W1, hW0, hW1, hz0, hbel, K⟩ := vals_box w k n d s k' n' d' s'
  have HBel := Lib.hid hbel
  obtain ⟨⟨a0, a1, a2, a3⟩, ⟨a4, a5, a6, a7⟩⟩ := K.out W1 (Below.refl _ _)
  clear hbel
  generalize hX : (k == 0) = X at *
  generalize hY : (k' == 0) = Y at *
  generalize hZ : (k == k') = Z at *
  cases X
  · cases Y
    · cases Z
      all_goals
        go_enter Tryz.func70, Tryz.ntmps70
        go_wp2
        go_ret
        exact ⟨rfl, HBel.out⟩
    · go_enter Tryz.func70, Tryz.ntmps70
      go_wp2
      go_ret
      exact ⟨rfl, HBel.out⟩
  · go_enter Tryz.func70, Tryz.ntmps70
    go_wp2
    go_ret
    exact ⟨rfl, HBel.out⟩
end Go.Proofs.YtnfncdalneifnaaGreatDoor
end

/- The reference's Do: what it returns ahead of the operations. -/
section
namespace Go.Proofs.YtnfncdalneifnaaGreatDoor
open Go Go.RowKit Go.Deep

/-- What Do returns. -/
def DoIs (w : World) (op : Int) (A : Option Addr) (n cap : Nat) (k m d : Int) (s : ByteArray) (h : Int) : Prop := Calls Tryz.prog 6 #[.int .i64 op, .slice A n cap] w fun e w' => e = .returned (.tuple #[V k m d s, .int .i64 h]) ∧ Below w.heap.size w w'
/-- All are valid. -/
def AllOk (n : Nat) (kk nn dd : Nat → Int) (ss : Nat → ByteArray) : Prop := ∀ k, k < n → okB (kk k) (nn k) (dd k) (ss k) = true ∧ (ss k).size ≤ 9223372036854775807
/-- What kinds returns. -/
def KindsIs (w : World) (op : Int) (A : Option Addr) (n cap : Nat) (t : Bool) : Prop := ∀ W, Below w.heap.size w W → Calls Tryz.prog 29 #[.int .i64 op, .slice A n cap] W fun e w' => e = .returned (.bool t) ∧ Below W.heap.size W w'
def SpecIs (w : World) (op : Int) (A : Option Addr) (n cap : Nat) (k m d : Int) (s : ByteArray) (t : Bool) : Prop := ∀ W, Below w.heap.size w W → Calls Tryz.prog 30 #[.int .i64 op, .slice A n cap] W fun e w' => e = .returned (.tuple #[V k m d s, .bool t]) ∧ Below W.heap.size W w'
set_option maxRecDepth 100000 in
set_option maxHeartbeats 8000000 in
theorem R_none (w : World) (op : Int) (A : Option Addr) (n cap : Nat) (h : opn op = 0 ∨ opn op ≠ n) : DoIs w op A n cap 0 0 0 noS 2 := by
  have HO := Lib.hid (fun W => r_operands op W)
  obtain ⟨W0, hW0, hB0, hz0, KR⟩ := valz_box w
  have HB0 := Lib.hid hB0
  clear hB0
  have h2 : (opn op == 0) = true ∨ ((opn op == 0) = false ∧ (((n : Int) == opn op) = false)) := by
    by_cases e : opn op = 0
    · exact .inl (by rw [beq_iff_eq]; exact e)
    · refine .inr ⟨by rw [beq_eq_false_iff_ne]; exact e, ?_⟩
      rw [beq_eq_false_iff_ne]
      intro e2
      rcases h with h | h
      · exact e h
      · exact h e2.symm
  generalize opn op = N at *
  clear h
  unfold DoIs
  rcases h2 with h2 | ⟨h2, h3⟩
  · go_enter Tryz.func6, Tryz.ntmps6
    go_wp2_with fail
    refine (HO.out _).mono ?_
    rintro e w1 ⟨rfl, hb1⟩
    have B1 := Lib.hid hb1
    clear hb1
    have hcell := KR.out w1 B1.out
    have hBf := btr HB0.out B1.out
    go_wp2_with (refine wpList_store_row 25 _ _ rfl rfl rfl w.heap.size 25 rfl [.int .i64 0, .int .i64 0, .int .i64 0, .string noS] rfl _ hcell rfl info_val (val_one _ _ _ _) ?_; intro wz hhz hgz hzz; have HBz : Hid (Below w.heap.size w wz) := hBf.grown hgz hBf.size (fun j hj => by injection hj with hj; omega); clear hzz hgz hcell)
    exact bodyPost_ret (v := .tuple #[V 0 0 0 noS, .int .i64 2]) (results_cell_tmp Tryz.results6 _ _ w.heap.size 25 _ (0, 0) _ rfl hhz Tryz.underlying25 rfl (by rw [info_val]; rfl)) rfl ⟨rfl, HBz.out⟩
  · go_enter Tryz.func6, Tryz.ntmps6
    go_wp2_with fail
    refine (HO.out _).mono ?_
    rintro e w1 ⟨rfl, hb1⟩
    have B1 := Lib.hid hb1
    clear hb1
    go_wp2_with fail
    refine (HO.out _).mono ?_
    rintro e w2 ⟨rfl, hb2⟩
    have B2 := Lib.hid (btr B1.out hb2)
    clear hb2
    have hcell := KR.out w2 B2.out
    have hBf := btr HB0.out B2.out
    go_wp2_with (refine wpList_store_row 25 _ _ rfl rfl rfl w.heap.size 25 rfl [.int .i64 0, .int .i64 0, .int .i64 0, .string noS] rfl _ hcell rfl info_val (val_one _ _ _ _) ?_; intro wz hhz hgz hzz; have HBz : Hid (Below w.heap.size w wz) := hBf.grown hgz hBf.size (fun j hj => by injection hj with hj; omega); clear hzz hgz hcell)
    exact bodyPost_ret (v := .tuple #[V 0 0 0 noS, .int .i64 2]) (results_cell_tmp Tryz.results6 _ _ w.heap.size 25 _ (0, 0) _ rfl hhz Tryz.underlying25 rfl (by rw [info_val]; rfl)) rfl ⟨rfl, HBz.out⟩
set_option maxRecDepth 100000 in
set_option maxHeartbeats 8000000 in
theorem R_bad (w : World) (op : Int) (A : Option Addr) (n cap : Nat) (kk nn dd : Nat → Int) (ss : Nat → ByteArray) (hop : opn op = n) (_hn : n ≠ 0) (hn5 : n ≤ 5) (hv : Vals w A n kk nn dd ss) (j : Nat) (hj : j < n) (hsz : ∀ k, k < n → (ss k).size ≤ 9223372036854775807) (hok : ∀ k, k < j → okB (kk k) (nn k) (dd k) (ss k) = true) (hno : okB (kk j) (nn j) (dd j) (ss j) = false) : DoIs w op A n cap 0 0 0 noS 2 := by
  have HO : Hid (∀ W, Calls Tryz.prog 27 #[.int .i64 op] W fun e w' => e = .returned (.int .i64 (n : Int)) ∧ Below W.heap.size W w') := fun W => by rw [← hop]; exact r_operands op W
  have HV := Lib.hid (fun W (hW : Below w.heap.size w W) => hv.below hW)
  have HC : Hid (∀ k, k < j → ∀ W, Calls Tryz.prog 28 #[V (kk k) (nn k) (dd k) (ss k)] W fun e w' => e = .returned (.int .i64 0) ∧ Below W.heap.size W w') := fun k hk W => by
    have h9 := r_Check (kk k) (nn k) (dd k) (ss k) W (And.intro (hok k hk) (hsz k (by omega))).2
    rw [(And.intro (hok k hk) (hsz k (by omega))).1] at h9
    exact h9
  have HJ : Hid (∀ W, Calls Tryz.prog 28 #[V (kk j) (nn j) (dd j) (ss j)] W fun e w' => e = .returned (.int .i64 2) ∧ Below W.heap.size W w') := fun W => by
    have h9 := r_Check (kk j) (nn j) (dd j) (ss j) W (hsz j hj)
    rw [hno] at h9
    exact h9
  clear hsz hok hno
  obtain ⟨W0, hW0, hB0, hz0, KR⟩ := valz_box w
  have HB0 := Lib.hid hB0
  have e1 : ((n : Int) == 0) = false := by rw [beq_eq_false_iff_ne]; omega
  have i5 : (n : Int) ≤ 5 := by omega
  clear hB0 hop hv
  unfold DoIs
  go_enter Tryz.func6, Tryz.ntmps6
  go_wp2_with fail
  refine (HO.out _).mono ?_
  rintro e w1 ⟨rfl, hb1⟩
  have B1 := Lib.hid hb1
  clear hb1
  go_wp2_with fail
  refine (HO.out _).mono ?_
  rintro e w2 ⟨rfl, hb2⟩
  have B2 := Lib.hid (btr B1.out hb2)
  clear hb2 HO
  go_wp2
  go_loopw [6] (fun i wr => ∃ k : Nat, k ≤ j ∧ i = .int .i64 k ∧ Hid (Below W0.heap.size W0 wr)) (fun i _ => j - (intOf i).toNat)
  case atStart => exact ⟨0, Nat.zero_le _, rfl, B2.out⟩
  case round =>
    obtain ⟨k, hk, rfl, HB⟩ := hrel
    by_cases hlt : k < j
    · have hkn : k < n := by omega
      obtain ⟨b, o, rfl, hlb, hc⟩ := HV.out wr (btr HB0.out HB.out) (by omega)
      obtain ⟨c0, c1, c2, c3⟩ := hc k hkn
      have hC := HC.out k hlt
      clear hc
      generalize kk k = k0 at *
      generalize nn k = n0 at *
      generalize dd k = d0 at *
      generalize ss k = s0 at *
      go_wp2_with fail
      refine (hC wr).mono ?_
      rintro e w3 ⟨rfl, hb3⟩
      have HB3 : Hid (Below W0.heap.size W0 w3) := btr HB.out hb3
      clear hb3 c0 c1 c2 c3
      go_wp2
      exact ⟨⟨k + 1, by omega, by go_num, HB3⟩, by simp [intOf]; omega⟩
    · obtain rfl : k = j := by omega
      obtain ⟨b, o, rfl, hlb, hc⟩ := HV.out wr (btr HB0.out HB.out) (by omega)
      obtain ⟨c0, c1, c2, c3⟩ := hc k hj
      clear hc HC HV
      generalize kk k = k0 at *
      generalize nn k = n0 at *
      generalize dd k = d0 at *
      generalize ss k = s0 at *
      go_wp2_with fail
      refine (HJ.out wr).mono ?_
      rintro e w3 ⟨rfl, hb3⟩
      have B3 := Lib.hid (btr HB.out hb3)
      clear hb3 c0 c1 c2 c3
      have hcell := KR.out w3 B3.out
      have hBf := btr HB0.out B3.out
      go_wp2_with (refine wpList_store_row 25 _ _ rfl rfl rfl w.heap.size 25 rfl [.int .i64 0, .int .i64 0, .int .i64 0, .string noS] rfl _ hcell rfl info_val (val_one _ _ _ _) ?_; intro wz hhz hgz hzz; have HBz : Hid (Below w.heap.size w wz) := hBf.grown hgz hBf.size (fun j hj => by injection hj with hj; omega); clear hzz hgz hcell)
      exact bodyPost_ret (v := .tuple #[V 0 0 0 noS, .int .i64 2]) (results_cell_tmp Tryz.results6 _ _ w.heap.size 25 _ (0, 0) _ rfl hhz Tryz.underlying25 rfl (by rw [info_val]; rfl)) rfl ⟨rfl, HBz.out⟩
set_option maxRecDepth 100000 in
set_option maxHeartbeats 8000000 in
theorem R_type (w : World) (op : Int) (A : Option Addr) (n cap : Nat) (kk nn dd : Nat → Int) (ss : Nat → ByteArray) (hop : opn op = n) (hn : n ≠ 0) (hn5 : n ≤ 5) (hv : Vals w A n kk nn dd ss) (hall : AllOk n kk nn dd ss) (hK : KindsIs w op A n cap false) : DoIs w op A n cap 0 0 0 noS 12 := by
  have HO : Hid (∀ W, Calls Tryz.prog 27 #[.int .i64 op] W fun e w' => e = .returned (.int .i64 (n : Int)) ∧ Below W.heap.size W w') := fun W => by rw [← hop]; exact r_operands op W
  have HV := Lib.hid (fun W (hW : Below w.heap.size w W) => hv.below hW)
  have HC : Hid (∀ k, k < n → ∀ W, Calls Tryz.prog 28 #[V (kk k) (nn k) (dd k) (ss k)] W fun e w' => e = .returned (.int .i64 0) ∧ Below W.heap.size W w') := fun k hk W => by
    have h9 := r_Check (kk k) (nn k) (dd k) (ss k) W (hall k hk).2
    rw [(hall k hk).1] at h9
    exact h9
  have HK := Lib.hid hK
  clear hall hK
  obtain ⟨W0, hW0, hB0, hz0, KR⟩ := valz_box w
  have HB0 := Lib.hid hB0
  have e1 : ((n : Int) == 0) = false := by rw [beq_eq_false_iff_ne]; omega
  have i5 : (n : Int) ≤ 5 := by omega
  clear hB0 hop hv
  unfold DoIs
  go_enter Tryz.func6, Tryz.ntmps6
  go_wp2_with fail
  refine (HO.out _).mono ?_
  rintro e w1 ⟨rfl, hb1⟩
  have B1 := Lib.hid hb1
  clear hb1
  go_wp2_with fail
  refine (HO.out _).mono ?_
  rintro e w2 ⟨rfl, hb2⟩
  have B2 := Lib.hid (btr B1.out hb2)
  clear hb2 HO
  go_wp2
  go_loopw [6] (fun i wr => ∃ k : Nat, k ≤ n ∧ i = .int .i64 k ∧ Hid (Below W0.heap.size W0 wr)) (fun i _ => n - (intOf i).toNat)
  case atStart => exact ⟨0, Nat.zero_le _, rfl, B2.out⟩
  case round =>
    obtain ⟨k, hk, rfl, HB⟩ := hrel
    by_cases hlt : k < n
    · have hkn : k < n := by omega
      obtain ⟨b, o, rfl, hlb, hc⟩ := HV.out wr (btr HB0.out HB.out) (by omega)
      obtain ⟨c0, c1, c2, c3⟩ := hc k hkn
      have hC := HC.out k hlt
      clear hc
      generalize kk k = k0 at *
      generalize nn k = n0 at *
      generalize dd k = d0 at *
      generalize ss k = s0 at *
      go_wp2_with fail
      refine (hC wr).mono ?_
      rintro e w3 ⟨rfl, hb3⟩
      have HB3 : Hid (Below W0.heap.size W0 w3) := btr HB.out hb3
      clear hb3 c0 c1 c2 c3
      go_wp2
      exact ⟨⟨k + 1, by omega, by go_num, HB3⟩, by simp [intOf]; omega⟩
    · obtain rfl : k = n := by omega
      clear HC
      go_wp2_with fail
      refine (HK.out wr (btr HB0.out HB.out)).mono ?_
      rintro e w3 ⟨rfl, hb3⟩
      have B3 := Lib.hid (btr HB.out hb3)
      clear hb3
      have hcell := KR.out w3 B3.out
      have hBf := btr HB0.out B3.out
      go_wp2_with (refine wpList_store_row 25 _ _ rfl rfl rfl w.heap.size 25 rfl [.int .i64 0, .int .i64 0, .int .i64 0, .string noS] rfl _ hcell rfl info_val (val_one _ _ _ _) ?_; intro wz hhz hgz hzz; have HBz : Hid (Below w.heap.size w wz) := hBf.grown hgz hBf.size (fun j hj => by injection hj with hj; omega); clear hzz hgz hcell)
      exact bodyPost_ret (v := .tuple #[V 0 0 0 noS, .int .i64 12]) (results_cell_tmp Tryz.results6 _ _ w.heap.size 25 _ (0, 0) _ rfl hhz Tryz.underlying25 rfl (by rw [info_val]; rfl)) rfl ⟨rfl, HBz.out⟩
set_option maxRecDepth 100000 in
set_option maxHeartbeats 8000000 in
theorem R_spec (w : World) (op : Int) (A : Option Addr) (n cap : Nat) (kk nn dd : Nat → Int) (ss : Nat → ByteArray) (hop : opn op = n) (hn : n ≠ 0) (hn5 : n ≤ 5) (hv : Vals w A n kk nn dd ss) (hall : AllOk n kk nn dd ss) (hK : KindsIs w op A n cap true) (rk rn rd : Int) (rs : ByteArray) (hS : SpecIs w op A n cap rk rn rd rs true) : DoIs w op A n cap rk rn rd rs 0 := by
  have HO : Hid (∀ W, Calls Tryz.prog 27 #[.int .i64 op] W fun e w' => e = .returned (.int .i64 (n : Int)) ∧ Below W.heap.size W w') := fun W => by rw [← hop]; exact r_operands op W
  have HV := Lib.hid (fun W (hW : Below w.heap.size w W) => hv.below hW)
  have HC : Hid (∀ k, k < n → ∀ W, Calls Tryz.prog 28 #[V (kk k) (nn k) (dd k) (ss k)] W fun e w' => e = .returned (.int .i64 0) ∧ Below W.heap.size W w') := fun k hk W => by
    have h9 := r_Check (kk k) (nn k) (dd k) (ss k) W (hall k hk).2
    rw [(hall k hk).1] at h9
    exact h9
  have HK := Lib.hid hK
  have HS := Lib.hid hS
  clear hall hK hS
  obtain ⟨W0, hW0, hB0, hz0, KR⟩ := valz_box w
  have HB0 := Lib.hid hB0
  have e1 : ((n : Int) == 0) = false := by rw [beq_eq_false_iff_ne]; omega
  have i5 : (n : Int) ≤ 5 := by omega
  clear hB0 hop hv
  unfold DoIs
  go_enter Tryz.func6, Tryz.ntmps6
  go_wp2_with fail
  refine (HO.out _).mono ?_
  rintro e w1 ⟨rfl, hb1⟩
  have B1 := Lib.hid hb1
  clear hb1
  go_wp2_with fail
  refine (HO.out _).mono ?_
  rintro e w2 ⟨rfl, hb2⟩
  have B2 := Lib.hid (btr B1.out hb2)
  clear hb2 HO
  go_wp2
  go_loopw [6] (fun i wr => ∃ k : Nat, k ≤ n ∧ i = .int .i64 k ∧ Hid (Below W0.heap.size W0 wr)) (fun i _ => n - (intOf i).toNat)
  case atStart => exact ⟨0, Nat.zero_le _, rfl, B2.out⟩
  case round =>
    obtain ⟨k, hk, rfl, HB⟩ := hrel
    by_cases hlt : k < n
    · have hkn : k < n := by omega
      obtain ⟨b, o, rfl, hlb, hc⟩ := HV.out wr (btr HB0.out HB.out) (by omega)
      obtain ⟨c0, c1, c2, c3⟩ := hc k hkn
      have hC := HC.out k hlt
      clear hc
      generalize kk k = k0 at *
      generalize nn k = n0 at *
      generalize dd k = d0 at *
      generalize ss k = s0 at *
      go_wp2_with fail
      refine (hC wr).mono ?_
      rintro e w3 ⟨rfl, hb3⟩
      have HB3 : Hid (Below W0.heap.size W0 w3) := btr HB.out hb3
      clear hb3 c0 c1 c2 c3
      go_wp2
      exact ⟨⟨k + 1, by omega, by go_num, HB3⟩, by simp [intOf]; omega⟩
    · obtain rfl : k = n := by omega
      clear HC
      go_wp2_with fail
      refine (HK.out wr (btr HB0.out HB.out)).mono ?_
      rintro e w3 ⟨rfl, hb3⟩
      have B3 := Lib.hid (btr HB.out hb3)
      clear hb3
      go_wp2_with fail
      refine (HS.out w3 (btr HB0.out B3.out)).mono ?_
      rintro e w4 ⟨rfl, hb4⟩
      obtain ⟨w5, hw5, hb5, KV⟩ := kinds_of rk rn rd rs w4
      have B5 := Lib.hid (btr B3.out (btr hb4 hb5))
      obtain ⟨v0, v1, v2, v3⟩ := KV.out w5 (Below.refl _ _)
      clear hb4 hb5
      have hcell := KR.out w5 B5.out
      have hBf := btr HB0.out B5.out
      go_wp2_with (refine wpList_store_row 25 _ _ rfl rfl rfl w.heap.size 25 rfl [.int .i64 rk, .int .i64 rn, .int .i64 rd, .string rs] rfl _ hcell rfl info_val (val_one _ _ _ _) ?_; intro wz hhz hgz hzz; have HBz : Hid (Below w.heap.size w wz) := hBf.grown hgz hBf.size (fun j hj => by injection hj with hj; omega); clear hzz hgz hcell)
      exact bodyPost_ret (v := .tuple #[V rk rn rd rs, .int .i64 0]) (results_cell_tmp Tryz.results6 _ _ w.heap.size 25 _ (0, 0) _ rfl hhz Tryz.underlying25 rfl (by rw [info_val]; rfl)) rfl ⟨rfl, HBz.out⟩
set_option maxRecDepth 100000 in
set_option maxHeartbeats 8000000 in
theorem R_miss (w : World) (op : Int) (A : Option Addr) (n cap : Nat) (kk nn dd : Nat → Int) (ss : Nat → ByteArray) (hop : opn op = n) (_hn : n ≠ 0) (hn5 : n ≤ 5) (hv : Vals w A n kk nn dd ss) (hall : AllOk n kk nn dd ss) (hK : KindsIs w op A n cap true) (rk rn rd : Int) (rs : ByteArray) (hS : SpecIs w op A n cap rk rn rd rs false) (j : Nat) (hj : j < n) (hno : ∀ k, k < j → kk k ≠ 0) (hmi : kk j = 0) : DoIs w op A n cap 0 (nn j) (dd j) (ss j) 0 := by
  have HO : Hid (∀ W, Calls Tryz.prog 27 #[.int .i64 op] W fun e w' => e = .returned (.int .i64 (n : Int)) ∧ Below W.heap.size W w') := fun W => by rw [← hop]; exact r_operands op W
  have HV := Lib.hid (fun W (hW : Below w.heap.size w W) => hv.below hW)
  have HC : Hid (∀ k, k < n → ∀ W, Calls Tryz.prog 28 #[V (kk k) (nn k) (dd k) (ss k)] W fun e w' => e = .returned (.int .i64 0) ∧ Below W.heap.size W w') := fun k hk W => by
    have h9 := r_Check (kk k) (nn k) (dd k) (ss k) W (hall k hk).2
    rw [(hall k hk).1] at h9
    exact h9
  have HK := Lib.hid hK
  have HS := Lib.hid hS
  have HN := Lib.hid hno
  clear hall hK hS hno
  obtain ⟨W0, hW0, hB0, hz0, KR⟩ := valz_box w
  have HB0 := Lib.hid hB0
  have e1 : ((n : Int) == 0) = false := by rw [beq_eq_false_iff_ne]; omega
  have i5 : (n : Int) ≤ 5 := by omega
  clear hB0 hop hv
  unfold DoIs
  go_enter Tryz.func6, Tryz.ntmps6
  go_wp2_with fail
  refine (HO.out _).mono ?_
  rintro e w1 ⟨rfl, hb1⟩
  have B1 := Lib.hid hb1
  clear hb1
  go_wp2_with fail
  refine (HO.out _).mono ?_
  rintro e w2 ⟨rfl, hb2⟩
  have B2 := Lib.hid (btr B1.out hb2)
  clear hb2 HO
  go_wp2
  go_loopw [6] (fun i wr => ∃ k : Nat, k ≤ n ∧ i = .int .i64 k ∧ Hid (Below W0.heap.size W0 wr)) (fun i _ => n - (intOf i).toNat)
  case atStart => exact ⟨0, Nat.zero_le _, rfl, B2.out⟩
  case round =>
    obtain ⟨k, hk, rfl, HB⟩ := hrel
    by_cases hlt : k < n
    · have hkn : k < n := by omega
      obtain ⟨b, o, rfl, hlb, hc⟩ := HV.out wr (btr HB0.out HB.out) (by omega)
      obtain ⟨c0, c1, c2, c3⟩ := hc k hkn
      have hC := HC.out k hlt
      clear hc
      generalize kk k = k0 at *
      generalize nn k = n0 at *
      generalize dd k = d0 at *
      generalize ss k = s0 at *
      go_wp2_with fail
      refine (hC wr).mono ?_
      rintro e w3 ⟨rfl, hb3⟩
      have HB3 : Hid (Below W0.heap.size W0 w3) := btr HB.out hb3
      clear hb3 c0 c1 c2 c3
      go_wp2
      exact ⟨⟨k + 1, by omega, by go_num, HB3⟩, by simp [intOf]; omega⟩
    · obtain rfl : n = k := by omega
      clear HC
      go_wp2_with fail
      refine (HK.out wr (btr HB0.out HB.out)).mono ?_
      rintro e w3 ⟨rfl, hb3⟩
      have B3 := Lib.hid (btr HB.out hb3)
      clear hb3
      go_wp2_with fail
      refine (HS.out w3 (btr HB0.out B3.out)).mono ?_
      rintro e w4 ⟨rfl, hb4⟩
      obtain ⟨w5, hw5, hb5, KV⟩ := kinds_of rk rn rd rs w4
      have B5 := Lib.hid (btr B3.out (btr hb4 hb5))
      clear hb4 hb5
      go_wp2
      go_loopw [9] (fun i wr => ∃ k : Nat, k ≤ j ∧ i = .int .i64 k ∧ Hid (Below W0.heap.size W0 wr)) (fun i _ => j - (intOf i).toNat)
      case atStart => exact ⟨0, Nat.zero_le _, rfl, B5.out⟩
      case round =>
        obtain ⟨i, hi, rfl, HB⟩ := hrel
        have hin : i < n := by omega
        obtain ⟨b, o, rfl, hlb, hc⟩ := HV.out wr (btr HB0.out HB.out) (by omega)
        obtain ⟨c0, c1, c2, c3⟩ := hc i hin
        clear hc
        by_cases hlt : i < j
        · have hk0 : (kk i == 0) = false := by rw [beq_eq_false_iff_ne]; exact HN.out i hlt
          generalize kk i = k0 at *
          go_wp2
          exact ⟨⟨i + 1, by omega, by go_num, HB⟩, by simp [intOf]; omega⟩
        · obtain rfl : i = j := by omega
          rw [hmi] at c0
          have hcell := KR.out wr HB.out
          have hBf := btr HB0.out HB.out
          go_wp2_with (refine wpList_store_row 25 _ _ rfl rfl rfl w.heap.size 25 rfl [.int .i64 0, .int .i64 (nn i), .int .i64 (dd i), .string (ss i)] rfl _ hcell rfl info_val (val_one _ _ _ _) ?_; intro wz hhz hgz hzz; have HBz : Hid (Below w.heap.size w wz) := hBf.grown hgz hBf.size (fun j hj => by injection hj with hj; omega); clear hzz hgz hcell)
          exact bodyPost_ret (v := .tuple #[V 0 (nn i) (dd i) (ss i), .int .i64 0]) (results_cell_tmp Tryz.results6 _ _ w.heap.size 25 _ (0, 0) _ rfl hhz Tryz.underlying25 rfl (by rw [info_val]; rfl)) rfl ⟨rfl, HBz.out⟩
end Go.Proofs.YtnfncdalneifnaaGreatDoor
end

/- Do of the program and of the reference: the same. -/
section
namespace Go.Proofs.YtnfncdalneifnaaGreatDoor
open Go Go.RowKit Go.Deep

set_option maxRecDepth 100000 in
set_option maxHeartbeats 4000000 in
theorem d_none (w : World) (op : Int) (A : Option Addr) (n cap : Nat) (h : opn op = 0 ∨ opn op ≠ n) : Calls Tryz.prog 5 #[.int .i64 op, .slice A n cap] w fun e w' => e = .returned (.tuple #[V 0 0 0 noS, .int .i64 2]) ∧ Below w.heap.size w w' := by
  have HF := Lib.hid (fun W => f_none W op (n : Int) (by omega) h)
  clear h
  have hr0 := heap_alloc_new w (.cells #[.int .i64 0, .int .i64 0, .int .i64 0, .string ⟨#[]⟩] 25)
  have HR0 := Lib.hid hr0
  clear hr0
  go_enter Tryz.func5, Tryz.ntmps5
  go_wp2_with fail
  refine (HF.out _).mono ?_
  rintro e w1 ⟨rfl, hb1⟩
  have hr1 := (hb1.block _ (by simp)).trans HR0.out
  have hz1 : w.heap.size < w1.heap.size := (Array.getElem?_eq_some_iff.1 hr1).1
  have B1 : Hid (Below w.heap.size w w1) := btr ((Below.refl _ _).alloc (Nat.le_refl _) _) hb1
  clear hb1 HF HR0
  go_wp2_with (first | (refine wpList_store_row 53 _ _ rfl rfl rfl w1.heap.size 53 rfl z7 rfl _ (heap_alloc_new w1 _) rfl info_op z7_one ?_; intro w2 hh2 hg2 hz2; have B2 : Hid (Below w.heap.size w w2) := (B1.out.alloc (by omega) _).grown hg2 (by simp; omega) (fun j hj => by injection hj with hj; omega); have hr2 := (hg2.block _ (by simp; omega) (by simp; omega)).trans ((Below.heap_alloc w1 _ _ hz1).trans hr1); clear hz2 hg2 hh2 hr1) | (refine wpList_store_row 25 _ _ rfl rfl rfl w.heap.size 25 rfl [.int .i64 0, .int .i64 0, .int .i64 0, .string noS] rfl _ hr2 rfl info_val (val_one _ _ _ _) ?_; intro wz hhz hgz hzz; have HBz : Hid (Below w.heap.size w wz) := B2.out.grown hgz B2.out.size (fun j hj => by injection hj with hj; omega); clear hzz hgz hr2))
  exact bodyPost_ret (v := .tuple #[V 0 0 0 noS, .int .i64 2]) (results_cell_tmp Tryz.results5 _ _ w.heap.size 25 _ (0, 0) _ rfl hhz Tryz.underlying25 rfl (by rw [info_val]; rfl)) rfl ⟨rfl, HBz.out⟩
/-- What the program's Do returns. -/
def DoXs (w : World) (op : Int) (A : Option Addr) (n cap : Nat) (k m d : Int) (s : ByteArray) (h : Int) : Prop := Calls Tryz.prog 5 #[.int .i64 op, .slice A n cap] w fun e w' => e = .returned (.tuple #[V k m d s, .int .i64 h]) ∧ Below w.heap.size w w'
/-- Both return the same, wherever the values lie. -/
def Both (op : Int) (n : Nat) (kk nn dd : Nat → Int) (ss : Nat → ByteArray) : Prop := ∃ rk rn rd rs h, (∀ w A cap, Vals w A n kk nn dd ss → DoXs w op A n cap rk rn rd rs h) ∧ (∀ w A cap, Vals w A n kk nn dd ss → DoIs w op A n cap rk rn rd rs h)
theorem both_none (op : Int) (n : Nat) (kk nn dd : Nat → Int) (ss : Nat → ByteArray) (h : opn op = 0 ∨ opn op ≠ n) : Both op n kk nn dd ss :=
  ⟨0, 0, 0, noS, 2, fun w A cap _ => d_none w op A n cap h, fun w A cap _ => R_none w op A n cap h⟩
theorem good_size {k n d : Int} {s : ByteArray} (h : Good k n d s) : s.size ≤ 9223372036854775807 := by
  cases h with
  | text _ ht => have := ht.1; omega
  | _ => decide
theorem all_ok {n : Nat} {kk nn dd : Nat → Int} {ss : Nat → ByteArray} (hg : ∀ k, k < n → Good (kk k) (nn k) (dd k) (ss k)) : AllOk n kk nn dd ss := fun k hk => ⟨okB_good.2 (hg k hk), good_size (hg k hk)⟩
/-- An operation that passes on what is missing. -/
theorem both_of (op : Int) (n : Nat) (c n1 n2 m3 r : Int) (F : Nat) (kk nn dd : Nat → Int) (ss : Nat → ByteArray) (hn : n ≤ 3) (h0 : n ≠ 0) (hop : opn op = n)
    (HF0 : ∀ W, Calls Tryz.prog 23 #[.int .i64 op, .int .i64 n] W fun e w' => e = .returned (.tuple #[.agg (o7 c n1 n2 m3 r false F).toArray, .bool true]) ∧ Below W.heap.size W w')
    (hg : ∀ k, k < n → Good (kk k) (nn k) (dd k) (ss k)) (hF : ∀ (args : Array Value) (W : World), (callFunc F args).run Tryz.prog W = .ok (.enter F args) W)
    (HK : ∀ w A cap, Vals w A n kk nn dd ss → KindsIs w op A n cap (sFold (n3' n1 n2 m3) kk n).isSome)
    (HS : ∀ w A cap, Vals w A n kk nn dd ss → SpecIs w op A n cap 0 0 0 noS false)
    (HR : (sFold (n3' n1 n2 m3) kk n).isSome = true → (∀ k, k < n → kk k ≠ 0) → ∃ rk rn rd rs, (∀ w A cap, Vals w A n kk nn dd ss → ∀ W, Below w.heap.size w W → Calls Tryz.prog F #[.slice A n cap] W fun e w' => e = .returned (V rk rn rd rs) ∧ Below W.heap.size W w') ∧
      (∀ w A cap, Vals w A n kk nn dd ss → KindsIs w op A n cap true → DoIs w op A n cap rk rn rd rs 0)) : Both op n kk nn dd ss := by
  have hval : ∀ k, k < n → ∀ W, Calls Tryz.prog 24 #[V (kk k) (nn k) (dd k) (ss k)] W fun e w' => e = .returned (.bool true) ∧ Below W.heap.size W w' := fun k hk W => c_validValue _ _ _ _ W (hg k hk)
  have hall := all_ok hg
  cases hs : sFold (n3' n1 n2 m3) kk n with
  | none =>
    rw [hs] at HK
    exact ⟨0, 0, 0, noS, 12, fun w A cap hv => d_typeG w op A n cap c n1 n2 m3 r false F kk nn dd ss hn hv HF0 hval hs, fun w A cap hv => R_type w op A n cap kk nn dd ss hop h0 (by omega) hv hall (HK w A cap hv)⟩
  | some sh =>
    rw [hs] at HK HR
    by_cases hno : ∀ k, k < n → kk k ≠ 0
    · obtain ⟨rk, rn, rd, rs, h1, h2⟩ := HR rfl hno
      exact ⟨rk, rn, rd, rs, 0, fun w A cap hv => d_runG w op A n cap c n1 n2 m3 r false F kk nn dd ss hn hv HF0 hval sh hs (.inr hno) rk rn rd rs hF (h1 w A cap hv), fun w A cap hv => h2 w A cap hv (HK w A cap hv)⟩
    · have miss : ∀ j, j < n → kk j = 0 → (∀ k, k < j → kk k ≠ 0) → Both op n kk nn dd ss := fun j hj e0 hb =>
        ⟨0, nn j, dd j, ss j, 0, fun w A cap hv => d_missG w op A n cap c n1 n2 m3 r F kk nn dd ss hn hv HF0 hval sh hs j hj hb e0,
          fun w A cap hv => R_miss w op A n cap kk nn dd ss hop h0 (by omega) hv hall (HK w A cap hv) 0 0 0 noS (HS w A cap hv) j hj hb e0⟩
      by_cases e0 : 0 < n ∧ kk 0 = 0
      · exact miss 0 e0.1 e0.2 (fun k hk => absurd hk (by omega))
      by_cases e1 : 1 < n ∧ kk 1 = 0
      · exact miss 1 e1.1 e1.2 (fun k hk h => e0 ⟨by omega, (show k = 0 by omega) ▸ h⟩)
      by_cases e2 : 2 < n ∧ kk 2 = 0
      · refine miss 2 e2.1 e2.2 (fun k hk h => ?_)
        rcases (by omega : k = 0 ∨ k = 1) with rfl | rfl
        · exact e0 ⟨by omega, h⟩
        · exact e1 ⟨by omega, h⟩
      · exfalso
        apply hno
        intro k hk h
        rcases (by omega : k = 0 ∨ k = 1 ∨ k = 2) with rfl | rfl | rfl
        · exact e0 ⟨hk, h⟩
        · exact e1 ⟨hk, h⟩
        · exact e2 ⟨hk, h⟩
/-- An operation whose run sees what is missing, and which the reference takes beforehand. -/
theorem both_len (op : Int) (n : Nat) (c n1 n2 m3 r : Int) (F : Nat) (kk nn dd : Nat → Int) (ss : Nat → ByteArray) (hn : n ≤ 3) (h0 : n ≠ 0) (hop : opn op = n)
    (HF0 : ∀ W, Calls Tryz.prog 23 #[.int .i64 op, .int .i64 n] W fun e w' => e = .returned (.tuple #[.agg (o7 c n1 n2 m3 r true F).toArray, .bool true]) ∧ Below W.heap.size W w')
    (hg : ∀ k, k < n → Good (kk k) (nn k) (dd k) (ss k)) (hF : ∀ (args : Array Value) (W : World), (callFunc F args).run Tryz.prog W = .ok (.enter F args) W)
    (HK : ∀ w A cap, Vals w A n kk nn dd ss → KindsIs w op A n cap (sFold (n3' n1 n2 m3) kk n).isSome)
    (HR : (sFold (n3' n1 n2 m3) kk n).isSome = true → ∃ rk rn rd rs, (∀ w A cap, Vals w A n kk nn dd ss → ∀ W, Below w.heap.size w W → Calls Tryz.prog F #[.slice A n cap] W fun e w' => e = .returned (V rk rn rd rs) ∧ Below W.heap.size W w') ∧
      (∀ w A cap, Vals w A n kk nn dd ss → KindsIs w op A n cap true → DoIs w op A n cap rk rn rd rs 0)) : Both op n kk nn dd ss := by
  have hval : ∀ k, k < n → ∀ W, Calls Tryz.prog 24 #[V (kk k) (nn k) (dd k) (ss k)] W fun e w' => e = .returned (.bool true) ∧ Below W.heap.size W w' := fun k hk W => c_validValue _ _ _ _ W (hg k hk)
  have hall := all_ok hg
  cases hs : sFold (n3' n1 n2 m3) kk n with
  | none =>
    rw [hs] at HK
    exact ⟨0, 0, 0, noS, 12, fun w A cap hv => d_typeG w op A n cap c n1 n2 m3 r true F kk nn dd ss hn hv HF0 hval hs, fun w A cap hv => R_type w op A n cap kk nn dd ss hop h0 (by omega) hv hall (HK w A cap hv)⟩
  | some sh =>
    rw [hs] at HK HR
    obtain ⟨rk, rn, rd, rs, h1, h2⟩ := HR rfl
    exact ⟨rk, rn, rd, rs, 0, fun w A cap hv => d_runG w op A n cap c n1 n2 m3 r true F kk nn dd ss hn hv HF0 hval sh hs (.inl rfl) rk rn rd rs hF (h1 w A cap hv), fun w A cap hv => h2 w A cap hv (HK w A cap hv)⟩
end Go.Proofs.YtnfncdalneifnaaGreatDoor
end

/- The reference's kinds: which operands an operation can have. -/
section
namespace Go.Proofs.YtnfncdalneifnaaGreatDoor
open Go Go.RowKit Go.Deep

set_option maxRecDepth 100000 in
set_option maxHeartbeats 2000000 in
theorem r_kinds4 (w : World) (b o c : Nat) (k0 n0 d0 : Int) (s0 : ByteArray) (hb : b < w.heap.size) (h0 : ValIn w b o k0 n0 d0 s0) :
    Calls Tryz.prog 29 #[.int .i64 4, .slice (some ⟨b, o, none⟩) 1 c] w fun e w' => e = .returned (.bool ((k0 == 0 || k0 == 1))) ∧ Below w.heap.size w w' := by
  have H0 : Hid (∀ W, Below w.heap.size w W → W.cell? ⟨b, o, none⟩ = some (.int .i64 k0) ∧ W.cell? ⟨b, o + 1, none⟩ = some (.int .i64 n0) ∧ W.cell? ⟨b, o + 2, none⟩ = some (.int .i64 d0) ∧ W.cell? ⟨b, o + 3, none⟩ = some (.string s0)) := fun W hW => h0.below hW hb
  obtain ⟨a0, a1, a2, a3⟩ := H0.out w (Below.refl _ _)
  have HC := Lib.hid (fun W => r_of k0 n0 d0 s0 1 W)
  generalize (k0 == 0 || k0 == 1) = X at *
  go_enter Tryz.func29, Tryz.ntmps29
  go_wp2_with fail
  refine (HC.out _).mono ?_
  rintro e w1 ⟨rfl, hb1⟩
  go_wp2
  go_ret
  exact ⟨rfl, hb1⟩

set_option maxRecDepth 100000 in
set_option maxHeartbeats 2000000 in
theorem r_kindsG5 (op : Int) (hop : op = 5 ∨ op = 6) (w : World) (b o c : Nat) (k0 n0 d0 : Int) (s0 : ByteArray) (hb : b < w.heap.size) (h0 : ValIn w b o k0 n0 d0 s0) :
    Calls Tryz.prog 29 #[.int .i64 op, .slice (some ⟨b, o, none⟩) 1 c] w fun e w' => e = .returned (.bool ((k0 == 0 || k0 == 2))) ∧ Below w.heap.size w w' := by
  rcases hop with rfl | rfl
  all_goals
    have H0 : Hid (∀ W, Below w.heap.size w W → W.cell? ⟨b, o, none⟩ = some (.int .i64 k0) ∧ W.cell? ⟨b, o + 1, none⟩ = some (.int .i64 n0) ∧ W.cell? ⟨b, o + 2, none⟩ = some (.int .i64 d0) ∧ W.cell? ⟨b, o + 3, none⟩ = some (.string s0)) := fun W hW => h0.below hW hb
    obtain ⟨a0, a1, a2, a3⟩ := H0.out w (Below.refl _ _)
    have HC := Lib.hid (fun W => r_of k0 n0 d0 s0 2 W)
    generalize (k0 == 0 || k0 == 2) = X at *
    go_enter Tryz.func29, Tryz.ntmps29
    go_wp2_with fail
    refine (HC.out _).mono ?_
    rintro e w1 ⟨rfl, hb1⟩
    go_wp2
    go_ret
    exact ⟨rfl, hb1⟩

set_option maxRecDepth 100000 in
set_option maxHeartbeats 2000000 in
theorem r_kindsG7 (op : Int) (hop : op = 7 ∨ op = 8) (w : World) (b o c : Nat) (k0 n0 d0 : Int) (s0 : ByteArray) (hb : b < w.heap.size) (h0 : ValIn w b o k0 n0 d0 s0) :
    Calls Tryz.prog 29 #[.int .i64 op, .slice (some ⟨b, o, none⟩) 1 c] w fun e w' => e = .returned (.bool (true)) ∧ Below w.heap.size w w' := by
  rcases hop with rfl | rfl
  all_goals
    have H0 : Hid (∀ W, Below w.heap.size w W → W.cell? ⟨b, o, none⟩ = some (.int .i64 k0) ∧ W.cell? ⟨b, o + 1, none⟩ = some (.int .i64 n0) ∧ W.cell? ⟨b, o + 2, none⟩ = some (.int .i64 d0) ∧ W.cell? ⟨b, o + 3, none⟩ = some (.string s0)) := fun W hW => h0.below hW hb
    obtain ⟨a0, a1, a2, a3⟩ := H0.out w (Below.refl _ _)
    go_enter Tryz.func29, Tryz.ntmps29
    go_wp2
    go_ret
    exact ⟨rfl, Below.refl _ _⟩

set_option maxRecDepth 100000 in
set_option maxHeartbeats 2000000 in
theorem r_kindsG9 (op : Int) (hop : op = 9 ∨ op = 10 ∨ op = 11 ∨ op = 12) (w : World) (b o c : Nat) (k0 n0 d0 : Int) (s0 : ByteArray) (k1 n1 d1 : Int) (s1 : ByteArray) (hb : b < w.heap.size) (h0 : ValIn w b o k0 n0 d0 s0) (h1 : ValIn w b (o + 4) k1 n1 d1 s1) :
    Calls Tryz.prog 29 #[.int .i64 op, .slice (some ⟨b, o, none⟩) 2 c] w fun e w' => e = .returned (.bool ((k0 == 0 || k0 == 2) && (k1 == 0 || k1 == 2))) ∧ Below w.heap.size w w' := by
  rcases hop with rfl | rfl | rfl | rfl
  all_goals
    have H0 : Hid (∀ W, Below w.heap.size w W → W.cell? ⟨b, o, none⟩ = some (.int .i64 k0) ∧ W.cell? ⟨b, o + 1, none⟩ = some (.int .i64 n0) ∧ W.cell? ⟨b, o + 2, none⟩ = some (.int .i64 d0) ∧ W.cell? ⟨b, o + 3, none⟩ = some (.string s0)) := fun W hW => h0.below hW hb
    have H1 : Hid (∀ W, Below w.heap.size w W → W.cell? ⟨b, o + 4, none⟩ = some (.int .i64 k1) ∧ W.cell? ⟨b, o + 5, none⟩ = some (.int .i64 n1) ∧ W.cell? ⟨b, o + 6, none⟩ = some (.int .i64 d1) ∧ W.cell? ⟨b, o + 7, none⟩ = some (.string s1)) := fun W hW => h1.below hW hb
    obtain ⟨a0, a1, a2, a3⟩ := H0.out w (Below.refl _ _)
    obtain ⟨b0, b1, b2, b3⟩ := H1.out w (Below.refl _ _)
    have HC := Lib.hid (fun W => r_of k0 n0 d0 s0 2 W)
    have HD := Lib.hid (fun W => r_of k1 n1 d1 s1 2 W)
    generalize (k0 == 0 || k0 == 2) = X at *
    generalize (k1 == 0 || k1 == 2) = Y at *
    cases X
    · go_enter Tryz.func29, Tryz.ntmps29
      go_wp2_with fail
      refine (HC.out _).mono ?_
      rintro e w1 ⟨rfl, hb1⟩
      go_wp2
      go_ret
      exact ⟨rfl, hb1⟩
    · go_enter Tryz.func29, Tryz.ntmps29
      go_wp2_with fail
      refine (HC.out _).mono ?_
      rintro e w1 ⟨rfl, hb1⟩
      have B1 := Lib.hid hb1
      clear hb1 a0 a1 a2 a3 b0 b1 b2 b3
      obtain ⟨a0, a1, a2, a3⟩ := H0.out w1 B1.out
      obtain ⟨b0, b1, b2, b3⟩ := H1.out w1 B1.out
      go_wp2_with fail
      refine (HD.out _).mono ?_
      rintro e w2 ⟨rfl, hb2⟩
      go_wp2
      go_ret
      exact ⟨rfl, btr B1.out hb2⟩

set_option maxRecDepth 100000 in
set_option maxHeartbeats 2000000 in
theorem r_kindsG13 (op : Int) (hop : op = 13 ∨ op = 14 ∨ op = 15 ∨ op = 16 ∨ op = 17 ∨ op = 18 ∨ op = 21) (w : World) (b o c : Nat) (k0 n0 d0 : Int) (s0 : ByteArray) (k1 n1 d1 : Int) (s1 : ByteArray) (hb : b < w.heap.size) (h0 : ValIn w b o k0 n0 d0 s0) (h1 : ValIn w b (o + 4) k1 n1 d1 s1) :
    Calls Tryz.prog 29 #[.int .i64 op, .slice (some ⟨b, o, none⟩) 2 c] w fun e w' => e = .returned (.bool ((k0 == 0 || k1 == 0 || k0 == k1))) ∧ Below w.heap.size w w' := by
  rcases hop with rfl | rfl | rfl | rfl | rfl | rfl | rfl
  all_goals
    have H0 : Hid (∀ W, Below w.heap.size w W → W.cell? ⟨b, o, none⟩ = some (.int .i64 k0) ∧ W.cell? ⟨b, o + 1, none⟩ = some (.int .i64 n0) ∧ W.cell? ⟨b, o + 2, none⟩ = some (.int .i64 d0) ∧ W.cell? ⟨b, o + 3, none⟩ = some (.string s0)) := fun W hW => h0.below hW hb
    have H1 : Hid (∀ W, Below w.heap.size w W → W.cell? ⟨b, o + 4, none⟩ = some (.int .i64 k1) ∧ W.cell? ⟨b, o + 5, none⟩ = some (.int .i64 n1) ∧ W.cell? ⟨b, o + 6, none⟩ = some (.int .i64 d1) ∧ W.cell? ⟨b, o + 7, none⟩ = some (.string s1)) := fun W hW => h1.below hW hb
    have HH : Hid (∀ W, Below w.heap.size w W → (W.cell? ⟨b, o, none⟩ = some (.int .i64 k0) ∧ W.cell? ⟨b, o + 1, none⟩ = some (.int .i64 n0) ∧ W.cell? ⟨b, o + 2, none⟩ = some (.int .i64 d0) ∧ W.cell? ⟨b, o + 3, none⟩ = some (.string s0)) ∧ (W.cell? ⟨b, o + 4, none⟩ = some (.int .i64 k1) ∧ W.cell? ⟨b, o + 5, none⟩ = some (.int .i64 n1) ∧ W.cell? ⟨b, o + 6, none⟩ = some (.int .i64 d1) ∧ W.cell? ⟨b, o + 7, none⟩ = some (.string s1))) := fun W hW => ⟨H0.out W hW, H1.out W hW⟩
    obtain ⟨a0, a1, a2, a3⟩ := H0.out w (Below.refl _ _)
    obtain ⟨b0, b1, b2, b3⟩ := H1.out w (Below.refl _ _)
    have HC := Lib.hid (fun W => r_alike k0 n0 d0 s0 k1 n1 d1 s1 W)
    generalize (k0 == 0 || k1 == 0 || k0 == k1) = X at *
    go_enter Tryz.func29, Tryz.ntmps29
    go_wp2_with fail
    clear a0 a1 a2 a3 b0 b1 b2 b3
    have B0d : Below w.heap.size w w.drew := Below.drew (Below.refl _ _)
    go_region_held3 (fun W => (W.cell? ⟨b, o, none⟩ = some (.int .i64 k0) ∧ W.cell? ⟨b, o + 1, none⟩ = some (.int .i64 n0) ∧ W.cell? ⟨b, o + 2, none⟩ = some (.int .i64 d0) ∧ W.cell? ⟨b, o + 3, none⟩ = some (.string s0)) ∧ (W.cell? ⟨b, o + 4, none⟩ = some (.int .i64 k1) ∧ W.cell? ⟨b, o + 5, none⟩ = some (.int .i64 n1) ∧ W.cell? ⟨b, o + 6, none⟩ = some (.int .i64 d1) ∧ W.cell? ⟨b, o + 7, none⟩ = some (.string s1)))
      (first | exact HH.out _ C1 | exact HH.out _ B0d | exact HH.out _ (Below.refl _ _))
      (first
        | (go_at_call 70; refine (HC.out _).mono ?_; rintro e w1 ⟨rfl, hb1⟩; have C1 : Below w.heap.size w w1 := btr B0d hb1))
    all_goals
      go_wp2
      go_ret
      exact ⟨rfl, C1⟩

set_option maxRecDepth 100000 in
set_option maxHeartbeats 2000000 in
theorem r_kindsG19 (op : Int) (hop : op = 19 ∨ op = 20) (w : World) (b o c : Nat) (k0 n0 d0 : Int) (s0 : ByteArray) (k1 n1 d1 : Int) (s1 : ByteArray) (hb : b < w.heap.size) (h0 : ValIn w b o k0 n0 d0 s0) (h1 : ValIn w b (o + 4) k1 n1 d1 s1) :
    Calls Tryz.prog 29 #[.int .i64 op, .slice (some ⟨b, o, none⟩) 2 c] w fun e w' => e = .returned (.bool ((k0 == 0 || k0 == 1) && (k1 == 0 || k1 == 1))) ∧ Below w.heap.size w w' := by
  rcases hop with rfl | rfl
  all_goals
    have H0 : Hid (∀ W, Below w.heap.size w W → W.cell? ⟨b, o, none⟩ = some (.int .i64 k0) ∧ W.cell? ⟨b, o + 1, none⟩ = some (.int .i64 n0) ∧ W.cell? ⟨b, o + 2, none⟩ = some (.int .i64 d0) ∧ W.cell? ⟨b, o + 3, none⟩ = some (.string s0)) := fun W hW => h0.below hW hb
    have H1 : Hid (∀ W, Below w.heap.size w W → W.cell? ⟨b, o + 4, none⟩ = some (.int .i64 k1) ∧ W.cell? ⟨b, o + 5, none⟩ = some (.int .i64 n1) ∧ W.cell? ⟨b, o + 6, none⟩ = some (.int .i64 d1) ∧ W.cell? ⟨b, o + 7, none⟩ = some (.string s1)) := fun W hW => h1.below hW hb
    obtain ⟨a0, a1, a2, a3⟩ := H0.out w (Below.refl _ _)
    obtain ⟨b0, b1, b2, b3⟩ := H1.out w (Below.refl _ _)
    have HC := Lib.hid (fun W => r_of k0 n0 d0 s0 1 W)
    have HD := Lib.hid (fun W => r_of k1 n1 d1 s1 1 W)
    generalize (k0 == 0 || k0 == 1) = X at *
    generalize (k1 == 0 || k1 == 1) = Y at *
    cases X
    · go_enter Tryz.func29, Tryz.ntmps29
      go_wp2_with fail
      refine (HC.out _).mono ?_
      rintro e w1 ⟨rfl, hb1⟩
      go_wp2
      go_ret
      exact ⟨rfl, hb1⟩
    · go_enter Tryz.func29, Tryz.ntmps29
      go_wp2_with fail
      refine (HC.out _).mono ?_
      rintro e w1 ⟨rfl, hb1⟩
      have B1 := Lib.hid hb1
      clear hb1 a0 a1 a2 a3 b0 b1 b2 b3
      obtain ⟨a0, a1, a2, a3⟩ := H0.out w1 B1.out
      obtain ⟨b0, b1, b2, b3⟩ := H1.out w1 B1.out
      go_wp2_with fail
      refine (HD.out _).mono ?_
      rintro e w2 ⟨rfl, hb2⟩
      go_wp2
      go_ret
      exact ⟨rfl, btr B1.out hb2⟩

set_option maxRecDepth 100000 in
set_option maxHeartbeats 2000000 in
theorem r_kinds22 (w : World) (b o c : Nat) (k0 n0 d0 : Int) (s0 : ByteArray) (k1 n1 d1 : Int) (s1 : ByteArray) (k2 n2 d2 : Int) (s2 : ByteArray) (hb : b < w.heap.size) (h0 : ValIn w b o k0 n0 d0 s0) (h1 : ValIn w b (o + 4) k1 n1 d1 s1) (h2 : ValIn w b (o + 8) k2 n2 d2 s2) :
    Calls Tryz.prog 29 #[.int .i64 22, .slice (some ⟨b, o, none⟩) 3 c] w fun e w' => e = .returned (.bool ((k0 == 0 || k0 == 1) && (k1 == 0 || k2 == 0 || k1 == k2))) ∧ Below w.heap.size w w' := by
  have H0 : Hid (∀ W, Below w.heap.size w W → W.cell? ⟨b, o, none⟩ = some (.int .i64 k0) ∧ W.cell? ⟨b, o + 1, none⟩ = some (.int .i64 n0) ∧ W.cell? ⟨b, o + 2, none⟩ = some (.int .i64 d0) ∧ W.cell? ⟨b, o + 3, none⟩ = some (.string s0)) := fun W hW => h0.below hW hb
  have H1 : Hid (∀ W, Below w.heap.size w W → W.cell? ⟨b, o + 4, none⟩ = some (.int .i64 k1) ∧ W.cell? ⟨b, o + 5, none⟩ = some (.int .i64 n1) ∧ W.cell? ⟨b, o + 6, none⟩ = some (.int .i64 d1) ∧ W.cell? ⟨b, o + 7, none⟩ = some (.string s1)) := fun W hW => h1.below hW hb
  have H2 : Hid (∀ W, Below w.heap.size w W → W.cell? ⟨b, o + 8, none⟩ = some (.int .i64 k2) ∧ W.cell? ⟨b, o + 9, none⟩ = some (.int .i64 n2) ∧ W.cell? ⟨b, o + 10, none⟩ = some (.int .i64 d2) ∧ W.cell? ⟨b, o + 11, none⟩ = some (.string s2)) := fun W hW => h2.below hW hb
  have HH : Hid (∀ W, Below w.heap.size w W → (W.cell? ⟨b, o, none⟩ = some (.int .i64 k0) ∧ W.cell? ⟨b, o + 1, none⟩ = some (.int .i64 n0) ∧ W.cell? ⟨b, o + 2, none⟩ = some (.int .i64 d0) ∧ W.cell? ⟨b, o + 3, none⟩ = some (.string s0)) ∧ (W.cell? ⟨b, o + 4, none⟩ = some (.int .i64 k1) ∧ W.cell? ⟨b, o + 5, none⟩ = some (.int .i64 n1) ∧ W.cell? ⟨b, o + 6, none⟩ = some (.int .i64 d1) ∧ W.cell? ⟨b, o + 7, none⟩ = some (.string s1)) ∧ (W.cell? ⟨b, o + 8, none⟩ = some (.int .i64 k2) ∧ W.cell? ⟨b, o + 9, none⟩ = some (.int .i64 n2) ∧ W.cell? ⟨b, o + 10, none⟩ = some (.int .i64 d2) ∧ W.cell? ⟨b, o + 11, none⟩ = some (.string s2))) := fun W hW => ⟨H0.out W hW, H1.out W hW, H2.out W hW⟩
  obtain ⟨a0, a1, a2, a3⟩ := H0.out w (Below.refl _ _)
  obtain ⟨b0, b1, b2, b3⟩ := H1.out w (Below.refl _ _)
  obtain ⟨c0, c1, c2, c3⟩ := H2.out w (Below.refl _ _)
  have HC := Lib.hid (fun W => r_of k0 n0 d0 s0 1 W)
  have HD := Lib.hid (fun W => r_alike k1 n1 d1 s1 k2 n2 d2 s2 W)
  generalize (k0 == 0 || k0 == 1) = X at *
  generalize (k1 == 0 || k2 == 0 || k1 == k2) = Y at *
  cases X
  · go_enter Tryz.func29, Tryz.ntmps29
    go_wp2_with fail
    have B0d : Below w.heap.size w w.drew := Below.drew (Below.refl _ _)
    first
    | go_region_with (first | (go_at_call 69; refine (HC.out _).mono ?_; rintro e w1 ⟨rfl, hb1⟩; have C1 : Below w.heap.size w w1 := btr B0d hb1; obtain ⟨⟨a0, a1, a2, a3⟩, ⟨b0, b1, b2, b3⟩, ⟨c0, c1, c2, c3⟩⟩ := HH.out _ C1))
    | fail
    all_goals
      go_wp2
      go_ret
      exact ⟨rfl, C1⟩
  · go_enter Tryz.func29, Tryz.ntmps29
    go_wp2_with fail
    clear a0 a1 a2 a3 b0 b1 b2 b3 c0 c1 c2 c3
    have B0d : Below w.heap.size w w.drew := Below.drew (Below.refl _ _)
    first
    | (go_region_held3 (fun W => (W.cell? ⟨b, o, none⟩ = some (.int .i64 k0) ∧ W.cell? ⟨b, o + 1, none⟩ = some (.int .i64 n0) ∧ W.cell? ⟨b, o + 2, none⟩ = some (.int .i64 d0) ∧ W.cell? ⟨b, o + 3, none⟩ = some (.string s0)) ∧ (W.cell? ⟨b, o + 4, none⟩ = some (.int .i64 k1) ∧ W.cell? ⟨b, o + 5, none⟩ = some (.int .i64 n1) ∧ W.cell? ⟨b, o + 6, none⟩ = some (.int .i64 d1) ∧ W.cell? ⟨b, o + 7, none⟩ = some (.string s1)) ∧ (W.cell? ⟨b, o + 8, none⟩ = some (.int .i64 k2) ∧ W.cell? ⟨b, o + 9, none⟩ = some (.int .i64 n2) ∧ W.cell? ⟨b, o + 10, none⟩ = some (.int .i64 d2) ∧ W.cell? ⟨b, o + 11, none⟩ = some (.string s2)))
      (first | exact HH.out _ C2 | exact HH.out _ C1 | exact HH.out _ B0d | exact HH.out _ (Below.refl _ _))
      (first
        | (go_at_call 69; refine (HC.out _).mono ?_; rintro e w1 ⟨rfl, hb1⟩; have C1 : Below w.heap.size w w1 := btr B0d hb1)
        | (go_at_call 70; refine (HD.out _).mono ?_; rintro e w2 ⟨rfl, hb2⟩; have C2 : Below w.heap.size w w2 := btr C1 hb2)))
    | fail
    all_goals
      go_wp2
      go_ret
      exact ⟨rfl, C2⟩

end Go.Proofs.YtnfncdalneifnaaGreatDoor
end

/- The reference's truth and missing values. -/
section
namespace Go.Proofs.YtnfncdalneifnaaGreatDoor
open Go Go.RowKit Go.Deep

set_option maxHeartbeats 400000 in
theorem r_MissingN (n : Int) (w : World) : Calls Tryz.prog 72 #[.int .i64 n] w fun e w' => e = .returned (V 0 n 0 noS) ∧ Below w.heap.size w w' := by
  go_enter Tryz.func72, Tryz.ntmps72
  go_wp2
  exact bodyPost_ret (v := V 0 n 0 noS) (by simp [results, Tryz.results72, go_sem]) rfl ⟨rfl, (Below.refl _ _).alloc (Nat.le_refl _) _⟩
set_option maxHeartbeats 400000 in
theorem r_Truth1 (w : World) : Calls Tryz.prog 32 #[.bool true] w fun e w' => e = .returned (V 1 1 0 noS) ∧ Below w.heap.size w w' := by
  go_enter Tryz.func32, Tryz.ntmps32
  go_wp2
  exact bodyPost_ret (v := V 1 1 0 noS) (by simp [results, Tryz.results32, go_sem]) rfl ⟨rfl, (Below.refl _ _).alloc (Nat.le_refl _) _⟩
set_option maxHeartbeats 400000 in
theorem r_Truth0 (w : World) : Calls Tryz.prog 32 #[.bool false] w fun e w' => e = .returned (V 1 0 0 noS) ∧ Below w.heap.size w w' := by
  go_enter Tryz.func32, Tryz.ntmps32
  go_wp2
  exact bodyPost_ret (v := V 1 0 0 noS) (by simp [results, Tryz.results32, go_sem]) rfl ⟨rfl, (Below.refl _ _).alloc (Nat.le_refl _) _⟩
end Go.Proofs.YtnfncdalneifnaaGreatDoor
end

/- The reference's special results: of operations that have one whatever is missing. -/
section
namespace Go.Proofs.YtnfncdalneifnaaGreatDoor
open Go Go.RowKit Go.Deep

/-- A missing value or a truth value. -/
def Tri9 (k n d : Int) (s : ByteArray) : Prop := (k = 0 ∧ d = 0 ∧ s = noS) ∨ (k = 1 ∧ n = 0 ∧ d = 0 ∧ s = noS) ∨ (k = 1 ∧ n = 1 ∧ d = 0 ∧ s = noS)
set_option maxRecDepth 100000 in
set_option maxHeartbeats 2000000 in
theorem r_special0 (op : Int) (w : World) (A : Option Addr) (n c : Nat) (h : op = 4 ∨ op = 5 ∨ op = 6 ∨ op = 9 ∨ op = 10 ∨ op = 11 ∨ op = 12 ∨ op = 13 ∨ op = 14 ∨ op = 15 ∨ op = 16 ∨ op = 17 ∨ op = 18) :
    Calls Tryz.prog 30 #[.int .i64 op, .slice A n c] w fun e w' => e = .returned (.tuple #[V 0 0 0 noS, .bool false]) ∧ Below w.heap.size w w' := by
  obtain ⟨W0, hW0, hB0, hz0, KR⟩ := valz_box w
  have HB0 := Lib.hid hB0
  clear hB0
  rcases h with rfl | rfl | rfl | rfl | rfl | rfl | rfl | rfl | rfl | rfl | rfl | rfl | rfl
  all_goals
    have hcell := KR.out W0 (Below.refl _ _)
    have hBf := HB0.out
    go_enter Tryz.func30, Tryz.ntmps30
    go_wp2_with (refine wpList_store_row 25 _ _ rfl rfl rfl w.heap.size 25 rfl [.int .i64 0, .int .i64 0, .int .i64 0, .string noS] rfl _ hcell rfl info_val (val_one _ _ _ _) ?_; intro wz hhz hgz hzz; have HBz : Hid (Below w.heap.size w wz) := hBf.grown hgz hBf.size (fun j hj => by injection hj with hj; omega); clear hzz hgz hcell)
    refine bodyPost_ret (v := .tuple #[V 0 0 0 noS, .bool false]) (results_cell_tmp Tryz.results30 _ _ w.heap.size 25 _ (0, 0) _ rfl hhz Tryz.underlying25 rfl (by rw [info_val]; rfl)) rfl ⟨rfl, HBz.out⟩
set_option maxRecDepth 100000 in
set_option maxHeartbeats 2000000 in
theorem r_special7 (w : World) (b o c : Nat) (k0 n0 d0 : Int) (s0 : ByteArray) (hb : b < w.heap.size) (h0 : ValIn w b o k0 n0 d0 s0) :
    Calls Tryz.prog 30 #[.int .i64 7, .slice (some ⟨b, o, none⟩) 1 c] w fun e w' => e = .returned (.tuple #[V 1 (if k0 = 0 then 1 else 0) 0 noS, .bool true]) ∧ Below w.heap.size w w' := by
  obtain ⟨W0, hW0, hB0, hz0, KR⟩ := valz_box w
  have HB0 := Lib.hid hB0
  have H0 := Lib.hid (fun W (hW : Below w.heap.size w W) => h0.below hW hb)
  obtain ⟨a0, a1, a2, a3⟩ := H0.out W0 hB0
  have HT1 := Lib.hid (fun W => r_Truth1 W)
  have HT0 := Lib.hid (fun W => r_Truth0 W)
  clear hB0
  by_cases hk : k0 = 0
  · subst hk
    rw [if_pos rfl]
    go_enter Tryz.func30, Tryz.ntmps30
    go_wp2_with fail
    refine (HT1.out _).mono ?_
    rintro e w2 ⟨rfl, hb2⟩
    have HB2 := Lib.hid hb2
    have hcell := KR.out w2 HB2.out
    have hBf := btr HB0.out HB2.out
    clear hb2 a0 a1 a2 a3
    go_wp2_with (refine wpList_store_row 25 _ _ rfl rfl rfl w.heap.size 25 rfl [.int .i64 1, .int .i64 1, .int .i64 0, .string noS] rfl _ hcell rfl info_val (val_one _ _ _ _) ?_; intro wz hhz hgz hzz; have HBz : Hid (Below w.heap.size w wz) := hBf.grown hgz hBf.size (fun j hj => by injection hj with hj; omega); clear hzz hgz hcell)
    refine bodyPost_ret (v := .tuple #[V 1 1 0 noS, .bool true]) (results_cell_tmp Tryz.results30 _ _ w.heap.size 25 _ (0, 0) _ rfl hhz Tryz.underlying25 rfl (by rw [info_val]; rfl)) rfl ⟨rfl, HBz.out⟩
  · rw [if_neg hk]
    have hk2 : (k0 == 0) = false := by rw [beq_eq_false_iff_ne]; exact hk
    go_enter Tryz.func30, Tryz.ntmps30
    go_wp2_with fail
    refine (HT0.out _).mono ?_
    rintro e w2 ⟨rfl, hb2⟩
    have HB2 := Lib.hid hb2
    have hcell := KR.out w2 HB2.out
    have hBf := btr HB0.out HB2.out
    clear hb2 a0 a1 a2 a3
    go_wp2_with (refine wpList_store_row 25 _ _ rfl rfl rfl w.heap.size 25 rfl [.int .i64 1, .int .i64 0, .int .i64 0, .string noS] rfl _ hcell rfl info_val (val_one _ _ _ _) ?_; intro wz hhz hgz hzz; have HBz : Hid (Below w.heap.size w wz) := hBf.grown hgz hBf.size (fun j hj => by injection hj with hj; omega); clear hzz hgz hcell)
    refine bodyPost_ret (v := .tuple #[V 1 0 0 noS, .bool true]) (results_cell_tmp Tryz.results30 _ _ w.heap.size 25 _ (0, 0) _ rfl hhz Tryz.underlying25 rfl (by rw [info_val]; rfl)) rfl ⟨rfl, HBz.out⟩
set_option maxRecDepth 100000 in
set_option maxHeartbeats 4000000 in
theorem r_special8 (w : World) (b o c : Nat) (k0 n0 d0 : Int) (s0 : ByteArray) (hb : b < w.heap.size) (h0 : ValIn w b o k0 n0 d0 s0) :
    Calls Tryz.prog 30 #[.int .i64 8, .slice (some ⟨b, o, none⟩) 1 c] w fun e w' => e = .returned (.tuple #[V 2 (if k0 = 0 then n0 else 0) 1 noS, .bool true]) ∧ Below w.heap.size w w' := by
  obtain ⟨W0, hW0, hB0, hz0, KR⟩ := valz_box w
  have HB0 := Lib.hid hB0
  have H0 := Lib.hid (fun W (hW : Below w.heap.size w W) => h0.below hW hb)
  obtain ⟨a0, a1, a2, a3⟩ := H0.out W0 hB0
  clear hB0
  have hcell := KR.out W0 (Below.refl _ _)
  have hBf := HB0.out
  by_cases hk : k0 = 0
  · subst hk
    rw [if_pos rfl]
    go_enter Tryz.func30, Tryz.ntmps30
    go_wp2_with (refine wpList_store_row 25 _ _ rfl rfl rfl w.heap.size 25 rfl [.int .i64 2, .int .i64 n0, .int .i64 1, .string noS] rfl _ hcell rfl info_val (val_one _ _ _ _) ?_; intro wz hhz hgz hzz; have HBz : Hid (Below w.heap.size w wz) := hBf.grown hgz hBf.size (fun j hj => by injection hj with hj; omega); clear hzz hgz hcell)
    refine bodyPost_ret (v := .tuple #[V 2 n0 1 noS, .bool true]) (results_cell_tmp Tryz.results30 _ _ w.heap.size 25 _ (0, 0) _ rfl hhz Tryz.underlying25 rfl (by rw [info_val]; rfl)) rfl ⟨rfl, HBz.out⟩
  · rw [if_neg hk]
    have hk2 : (k0 == 0) = false := by rw [beq_eq_false_iff_ne]; exact hk
    go_enter Tryz.func30, Tryz.ntmps30
    go_wp2_with (refine wpList_store_row 25 _ _ rfl rfl rfl w.heap.size 25 rfl [.int .i64 2, .int .i64 0, .int .i64 1, .string noS] rfl _ hcell rfl info_val (val_one _ _ _ _) ?_; intro wz hhz hgz hzz; have HBz : Hid (Below w.heap.size w wz) := hBf.grown hgz hBf.size (fun j hj => by injection hj with hj; omega); clear hzz hgz hcell)
    refine bodyPost_ret (v := .tuple #[V 2 0 1 noS, .bool true]) (results_cell_tmp Tryz.results30 _ _ w.heap.size 25 _ (0, 0) _ rfl hhz Tryz.underlying25 rfl (by rw [info_val]; rfl)) rfl ⟨rfl, HBz.out⟩
set_option maxRecDepth 100000 in
set_option maxHeartbeats 4000000 in
theorem r_special21a (w : World) (b o c : Nat) (k0 n0 d0 : Int) (s0 : ByteArray) (k1 n1 d1 : Int) (s1 : ByteArray) (hb : b < w.heap.size) (h0 : ValIn w b o k0 n0 d0 s0) (h1 : ValIn w b (o + 4) k1 n1 d1 s1) (hk : k0 = 0) :
    Calls Tryz.prog 30 #[.int .i64 21, .slice (some ⟨b, o, none⟩) 2 c] w fun e w' => e = .returned (.tuple #[V k1 n1 d1 s1, .bool true]) ∧ Below w.heap.size w w' := by
  obtain ⟨W0, hW0, hB0, hz0, KR⟩ := valz_box w
  have HB0 := Lib.hid hB0
  have H0 := Lib.hid (fun W (hW : Below w.heap.size w W) => h0.below hW hb)
  have H1 := Lib.hid (fun W (hW : Below w.heap.size w W) => h1.below hW hb)
  obtain ⟨a0, a1, a2, a3⟩ := H0.out W0 hB0
  obtain ⟨b0, b1, b2, b3⟩ := H1.out W0 hB0
  clear hB0
  subst hk
  have hcell := KR.out W0 (Below.refl _ _)
  have hBf := HB0.out
  go_enter Tryz.func30, Tryz.ntmps30
  go_wp2_with (refine wpList_store_row 25 _ _ rfl rfl rfl w.heap.size 25 rfl [.int .i64 k1, .int .i64 n1, .int .i64 d1, .string s1] rfl _ hcell rfl info_val (val_one _ _ _ _) ?_; intro wz hhz hgz hzz; have HBz : Hid (Below w.heap.size w wz) := hBf.grown hgz hBf.size (fun j hj => by injection hj with hj; omega); clear hzz hgz hcell)
  refine bodyPost_ret (v := .tuple #[V k1 n1 d1 s1, .bool true]) (results_cell_tmp Tryz.results30 _ _ w.heap.size 25 _ (0, 0) _ rfl hhz Tryz.underlying25 rfl (by rw [info_val]; rfl)) rfl ⟨rfl, HBz.out⟩
set_option maxRecDepth 100000 in
set_option maxHeartbeats 4000000 in
theorem r_special21b (w : World) (b o c : Nat) (k0 n0 d0 : Int) (s0 : ByteArray) (k1 n1 d1 : Int) (s1 : ByteArray) (hb : b < w.heap.size) (h0 : ValIn w b o k0 n0 d0 s0) (h1 : ValIn w b (o + 4) k1 n1 d1 s1) (hk : k0 ≠ 0) :
    Calls Tryz.prog 30 #[.int .i64 21, .slice (some ⟨b, o, none⟩) 2 c] w fun e w' => e = .returned (.tuple #[V k0 n0 d0 s0, .bool true]) ∧ Below w.heap.size w w' := by
  obtain ⟨W0, hW0, hB0, hz0, KR⟩ := valz_box w
  have HB0 := Lib.hid hB0
  have H0 := Lib.hid (fun W (hW : Below w.heap.size w W) => h0.below hW hb)
  have H1 := Lib.hid (fun W (hW : Below w.heap.size w W) => h1.below hW hb)
  obtain ⟨a0, a1, a2, a3⟩ := H0.out W0 hB0
  obtain ⟨b0, b1, b2, b3⟩ := H1.out W0 hB0
  clear hB0
  have hk2 : (k0 == 0) = false := by rw [beq_eq_false_iff_ne]; exact hk
  have hcell := KR.out W0 (Below.refl _ _)
  have hBf := HB0.out
  go_enter Tryz.func30, Tryz.ntmps30
  go_wp2_with (refine wpList_store_row 25 _ _ rfl rfl rfl w.heap.size 25 rfl [.int .i64 k0, .int .i64 n0, .int .i64 d0, .string s0] rfl _ hcell rfl info_val (val_one _ _ _ _) ?_; intro wz hhz hgz hzz; have HBz : Hid (Below w.heap.size w wz) := hBf.grown hgz hBf.size (fun j hj => by injection hj with hj; omega); clear hzz hgz hcell)
  refine bodyPost_ret (v := .tuple #[V k0 n0 d0 s0, .bool true]) (results_cell_tmp Tryz.results30 _ _ w.heap.size 25 _ (0, 0) _ rfl hhz Tryz.underlying25 rfl (by rw [info_val]; rfl)) rfl ⟨rfl, HBz.out⟩
set_option maxRecDepth 100000 in
set_option maxHeartbeats 4000000 in
theorem r_special22a (w : World) (b o c : Nat) (k0 n0 d0 : Int) (s0 : ByteArray) (k1 n1 d1 : Int) (s1 : ByteArray) (k2 n2 d2 : Int) (s2 : ByteArray) (hb : b < w.heap.size) (h0 : ValIn w b o k0 n0 d0 s0) (h1 : ValIn w b (o + 4) k1 n1 d1 s1) (h2 : ValIn w b (o + 8) k2 n2 d2 s2) (hk : k0 = 0) :
    Calls Tryz.prog 30 #[.int .i64 22, .slice (some ⟨b, o, none⟩) 3 c] w fun e w' => e = .returned (.tuple #[V k0 n0 d0 s0, .bool true]) ∧ Below w.heap.size w w' := by
  obtain ⟨W0, hW0, hB0, hz0, KR⟩ := valz_box w
  have HB0 := Lib.hid hB0
  have H0 := Lib.hid (fun W (hW : Below w.heap.size w W) => h0.below hW hb)
  have H1 := Lib.hid (fun W (hW : Below w.heap.size w W) => h1.below hW hb)
  have H2 := Lib.hid (fun W (hW : Below w.heap.size w W) => h2.below hW hb)
  obtain ⟨a0, a1, a2, a3⟩ := H0.out W0 hB0
  obtain ⟨b0, b1, b2, b3⟩ := H1.out W0 hB0
  obtain ⟨c0, c1, c2, c3⟩ := H2.out W0 hB0
  clear hB0
  subst hk
  have hcell := KR.out W0 (Below.refl _ _)
  have hBf := HB0.out
  go_enter Tryz.func30, Tryz.ntmps30
  go_wp2_with (refine wpList_store_row 25 _ _ rfl rfl rfl w.heap.size 25 rfl [.int .i64 0, .int .i64 n0, .int .i64 d0, .string s0] rfl _ hcell rfl info_val (val_one _ _ _ _) ?_; intro wz hhz hgz hzz; have HBz : Hid (Below w.heap.size w wz) := hBf.grown hgz hBf.size (fun j hj => by injection hj with hj; omega); clear hzz hgz hcell)
  refine bodyPost_ret (v := .tuple #[V 0 n0 d0 s0, .bool true]) (results_cell_tmp Tryz.results30 _ _ w.heap.size 25 _ (0, 0) _ rfl hhz Tryz.underlying25 rfl (by rw [info_val]; rfl)) rfl ⟨rfl, HBz.out⟩
set_option maxRecDepth 100000 in
set_option maxHeartbeats 4000000 in
theorem r_special22b (w : World) (b o c : Nat) (k0 n0 d0 : Int) (s0 : ByteArray) (k1 n1 d1 : Int) (s1 : ByteArray) (k2 n2 d2 : Int) (s2 : ByteArray) (hb : b < w.heap.size) (h0 : ValIn w b o k0 n0 d0 s0) (h1 : ValIn w b (o + 4) k1 n1 d1 s1) (h2 : ValIn w b (o + 8) k2 n2 d2 s2) (hk : k0 = 1 ∧ n0 = 1 ∧ d0 = 0 ∧ s0 = noS) :
    Calls Tryz.prog 30 #[.int .i64 22, .slice (some ⟨b, o, none⟩) 3 c] w fun e w' => e = .returned (.tuple #[V k1 n1 d1 s1, .bool true]) ∧ Below w.heap.size w w' := by
  obtain ⟨W0, hW0, hB0, hz0, KR⟩ := valz_box w
  have HB0 := Lib.hid hB0
  have H0 := Lib.hid (fun W (hW : Below w.heap.size w W) => h0.below hW hb)
  have H1 := Lib.hid (fun W (hW : Below w.heap.size w W) => h1.below hW hb)
  have H2 := Lib.hid (fun W (hW : Below w.heap.size w W) => h2.below hW hb)
  obtain ⟨a0, a1, a2, a3⟩ := H0.out W0 hB0
  obtain ⟨b0, b1, b2, b3⟩ := H1.out W0 hB0
  obtain ⟨c0, c1, c2, c3⟩ := H2.out W0 hB0
  clear hB0
  have HT1 := Lib.hid (fun W => r_Truth1 W)
  obtain ⟨rfl, rfl, rfl, rfl⟩ := hk
  go_enter Tryz.func30, Tryz.ntmps30
  go_wp2_with fail
  clear a0 a1 a2 a3 b0 b1 b2 b3 c0 c1 c2 c3
  have HH : Hid (∀ W, Below W0.heap.size W0 W → W.cell? ⟨b, o, none⟩ = some (.int .i64 1) ∧ W.cell? ⟨b, o + 1, none⟩ = some (.int .i64 1) ∧ W.cell? ⟨b, o + 2, none⟩ = some (.int .i64 0) ∧ W.cell? ⟨b, o + 3, none⟩ = some (.string noS)) := fun W hW => H0.out W (btr HB0.out hW)
  have B0d : Below W0.heap.size W0 W0.drew := Below.drew (Below.refl _ _)
  go_region_held3 (fun W => W.cell? ⟨b, o, none⟩ = some (.int .i64 1) ∧ W.cell? ⟨b, o + 1, none⟩ = some (.int .i64 1) ∧ W.cell? ⟨b, o + 2, none⟩ = some (.int .i64 0) ∧ W.cell? ⟨b, o + 3, none⟩ = some (.string noS))
    (first | exact HH.out _ C1 | exact HH.out _ B0d | exact HH.out _ (Below.refl _ _))
    (first
      | (go_at_call 32; refine (HT1.out _).mono ?_; rintro e w1 ⟨rfl, hb1⟩; have C1 : Below W0.heap.size W0 w1 := btr B0d hb1))
  all_goals
    have hcell := KR.out _ C1
    have hBf := btr HB0.out C1
    obtain ⟨b0, b1, b2, b3⟩ := H1.out _ hBf
    obtain ⟨c0, c1, c2, c3⟩ := H2.out _ hBf
    clear hb1 C1
    go_wp2_with (refine wpList_store_row 25 _ _ rfl rfl rfl w.heap.size 25 rfl [.int .i64 k1, .int .i64 n1, .int .i64 d1, .string s1] rfl _ hcell rfl info_val (val_one _ _ _ _) ?_; intro wz hhz hgz hzz; have HBz : Hid (Below w.heap.size w wz) := hBf.grown hgz hBf.size (fun j hj => by injection hj with hj; omega); clear hzz hgz hcell)
    refine bodyPost_ret (v := .tuple #[V k1 n1 d1 s1, .bool true]) (results_cell_tmp Tryz.results30 _ _ w.heap.size 25 _ (0, 0) _ rfl hhz Tryz.underlying25 rfl (by rw [info_val]; rfl)) rfl ⟨rfl, HBz.out⟩
set_option maxRecDepth 100000 in
set_option maxHeartbeats 4000000 in
theorem r_special22c (w : World) (b o c : Nat) (k0 n0 d0 : Int) (s0 : ByteArray) (k1 n1 d1 : Int) (s1 : ByteArray) (k2 n2 d2 : Int) (s2 : ByteArray) (hb : b < w.heap.size) (h0 : ValIn w b o k0 n0 d0 s0) (h1 : ValIn w b (o + 4) k1 n1 d1 s1) (h2 : ValIn w b (o + 8) k2 n2 d2 s2) (hk : k0 = 1 ∧ n0 = 0 ∧ d0 = 0 ∧ s0 = noS) :
    Calls Tryz.prog 30 #[.int .i64 22, .slice (some ⟨b, o, none⟩) 3 c] w fun e w' => e = .returned (.tuple #[V k2 n2 d2 s2, .bool true]) ∧ Below w.heap.size w w' := by
  obtain ⟨W0, hW0, hB0, hz0, KR⟩ := valz_box w
  have HB0 := Lib.hid hB0
  have H0 := Lib.hid (fun W (hW : Below w.heap.size w W) => h0.below hW hb)
  have H1 := Lib.hid (fun W (hW : Below w.heap.size w W) => h1.below hW hb)
  have H2 := Lib.hid (fun W (hW : Below w.heap.size w W) => h2.below hW hb)
  obtain ⟨a0, a1, a2, a3⟩ := H0.out W0 hB0
  obtain ⟨b0, b1, b2, b3⟩ := H1.out W0 hB0
  obtain ⟨c0, c1, c2, c3⟩ := H2.out W0 hB0
  clear hB0
  have HT1 := Lib.hid (fun W => r_Truth1 W)
  obtain ⟨rfl, rfl, rfl, rfl⟩ := hk
  go_enter Tryz.func30, Tryz.ntmps30
  go_wp2_with fail
  clear a0 a1 a2 a3 b0 b1 b2 b3 c0 c1 c2 c3
  have HH : Hid (∀ W, Below W0.heap.size W0 W → W.cell? ⟨b, o, none⟩ = some (.int .i64 1) ∧ W.cell? ⟨b, o + 1, none⟩ = some (.int .i64 0) ∧ W.cell? ⟨b, o + 2, none⟩ = some (.int .i64 0) ∧ W.cell? ⟨b, o + 3, none⟩ = some (.string noS)) := fun W hW => H0.out W (btr HB0.out hW)
  have B0d : Below W0.heap.size W0 W0.drew := Below.drew (Below.refl _ _)
  go_region_held3 (fun W => W.cell? ⟨b, o, none⟩ = some (.int .i64 1) ∧ W.cell? ⟨b, o + 1, none⟩ = some (.int .i64 0) ∧ W.cell? ⟨b, o + 2, none⟩ = some (.int .i64 0) ∧ W.cell? ⟨b, o + 3, none⟩ = some (.string noS))
    (first | exact HH.out _ C1 | exact HH.out _ B0d | exact HH.out _ (Below.refl _ _))
    (first
      | (go_at_call 32; refine (HT1.out _).mono ?_; rintro e w1 ⟨rfl, hb1⟩; have C1 : Below W0.heap.size W0 w1 := btr B0d hb1))
  all_goals
    have hcell := KR.out _ C1
    have hBf := btr HB0.out C1
    obtain ⟨b0, b1, b2, b3⟩ := H1.out _ hBf
    obtain ⟨c0, c1, c2, c3⟩ := H2.out _ hBf
    clear hb1 C1
    go_wp2_with (refine wpList_store_row 25 _ _ rfl rfl rfl w.heap.size 25 rfl [.int .i64 k2, .int .i64 n2, .int .i64 d2, .string s2] rfl _ hcell rfl info_val (val_one _ _ _ _) ?_; intro wz hhz hgz hzz; have HBz : Hid (Below w.heap.size w wz) := hBf.grown hgz hBf.size (fun j hj => by injection hj with hj; omega); clear hzz hgz hcell)
    refine bodyPost_ret (v := .tuple #[V k2 n2 d2 s2, .bool true]) (results_cell_tmp Tryz.results30 _ _ w.heap.size 25 _ (0, 0) _ rfl hhz Tryz.underlying25 rfl (by rw [info_val]; rfl)) rfl ⟨rfl, HBz.out⟩
end Go.Proofs.YtnfncdalneifnaaGreatDoor
end

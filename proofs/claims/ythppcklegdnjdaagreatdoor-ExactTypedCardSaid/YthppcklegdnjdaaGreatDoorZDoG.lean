/- Whether values suit an operation: any operation, any values. -/
import Derived.Test.YthppcklegdnjdaaGreatDoorZSuit
import Derived.Test.YthppcklegdnjdaaGreatDoorZDo

/- Whether values suit an operation: any operation, any values. -/
section
namespace Go.Proofs.YthppcklegdnjdaaGreatDoor
open Go.RowKit Go.Deep
def n3' (n1 n2 n3 : Int) (k : Nat) : Int := if k = 0 then n1 else if k = 1 then n2 else n3
/-- One value: what is shared behind it; none: it doesn't suit. -/
def sStep (nd sh k0 : Int) : Option Int := if k0 = 0 then some sh else if nd = 2 then (if k0 = 1 then some sh else none) else if nd = 3 then (if k0 = 2 then some sh else none) else if nd = 4 then (if sh ≠ 0 ∧ k0 ≠ sh then none else some k0) else some sh
def sFold (nd kk : Nat → Int) : Nat → Option Int
  | 0 => some 0
  | k + 1 => (sFold nd kk k).bind fun sh => sStep (nd k) sh (kk k)
theorem sFold_none {nd kk : Nat → Int} {k n : Nat} (h : sFold nd kk k = none) (hn : k ≤ n) : sFold nd kk n = none := by
  induction n with
  | zero => obtain rfl : k = 0 := by omega
            exact h
  | succ n ih =>
    by_cases e : k = n + 1
    · rw [← e]; exact h
    · rw [sFold, ih (by omega)]; rfl
/-- The values of a slice. -/
def Vals (w : World) (A : Option Addr) (n : Nat) (kk nn dd : Nat → Int) (ss : Nat → ByteArray) : Prop :=
  0 < n → ∃ b o, A = some ⟨b, o, none⟩ ∧ b < w.heap.size ∧ ∀ k, k < n → ValIn w b (o + k * 4) (kk k) (nn k) (dd k) (ss k)
theorem Vals.below {w W : World} {A : Option Addr} {n : Nat} {kk nn dd : Nat → Int} {ss : Nat → ByteArray} (h : Vals w A n kk nn dd ss) (hW : Below w.heap.size w W) : Vals W A n kk nn dd ss := fun hn => by
  obtain ⟨b, o, h1, h2, h3⟩ := h hn
  exact ⟨b, o, h1, Nat.lt_of_lt_of_le h2 hW.size, fun k hk => (h3 k hk).below hW h2⟩

set_option maxRecDepth 100000 in
set_option maxHeartbeats 4000000 in
theorem c_suits (w : World) (A : Option Addr) (n cap : Nat) (c n1 n2 m3 r : Int) (l : Bool) (F : Value) (kk nn dd : Nat → Int) (ss : Nat → ByteArray) (hn : n ≤ 3) (h : Vals w A n kk nn dd ss) :
    Calls Tryz.prog 54 #[.agg #[.int .i64 c, .int .i64 n1, .int .i64 n2, .int .i64 m3, .int .i64 r, .bool l, F], .slice A n cap] w fun e w' => e = .returned (.bool (sFold (n3' n1 n2 m3) kk n).isSome) ∧ Below w.heap.size w w' := by
  go_enter Tryz.func54, Tryz.ntmps54
  go_wp2
  have hrow := heap_alloc_new w (.cells #[.int .i64 c, .int .i64 n1, .int .i64 n2, .int .i64 m3, .int .i64 r, .bool l, F] 89)
  have B0 : Below w.heap.size w (w.alloc (.cells #[.int .i64 c, .int .i64 n1, .int .i64 n2, .int .i64 m3, .int .i64 r, .bool l, F] 89)) := (Below.refl _ _).alloc (Nat.le_refl _) _
  generalize w.alloc (.cells #[.int .i64 c, .int .i64 n1, .int .i64 n2, .int .i64 m3, .int .i64 r, .bool l, F] 89) = W0 at *
  have hz0 : w.heap.size < W0.heap.size := (Array.getElem?_eq_some_iff.1 hrow).1
  have HN : Hid (∀ W, Below W0.heap.size W0 W → ∀ k, k < 3 → W.cell? ⟨w.heap.size, 1 + k, none⟩ = some (.int .i64 (n3' n1 n2 m3 k))) := fun W hW k hk => by
    rw [hW.cell (p := ⟨w.heap.size, 1 + k, none⟩) hz0]
    match k, hk with
    | 0, _ => rw [cell_of_row _ _ _ _ _ _ hrow]; rfl
    | 1, _ => rw [cell_of_row _ _ _ _ _ _ hrow]; rfl
    | 2, _ => rw [cell_of_row _ _ _ _ _ _ hrow]; rfl
  have HV : Hid (Vals W0 A n kk nn dd ss) := h.below B0
  have HB := Lib.hid B0
  clear hrow B0 h
  go_loopw [5, 10] (fun s i wr => ∃ (k : Nat) (sh : Int), k ≤ n ∧ i = .int .i64 k ∧ s = .int .i64 sh ∧ Hid (sFold (n3' n1 n2 m3) kk k = some sh) ∧ Hid (Below W0.heap.size W0 wr)) (fun _ i _ => n - (intOf i).toNat)
  case atStart => exact ⟨0, 0, Nat.zero_le _, rfl, rfl, rfl, Below.refl _ _⟩
  case round =>
    obtain ⟨k, sh, hk, rfl, rfl, HF, HW⟩ := hrel
    by_cases hlt : k < n
    · obtain ⟨b, o, rfl, _, hv⟩ := (HV.out.below HW.out) (by omega)
      obtain ⟨a0, a1, a2, a3⟩ := hv k hlt
      clear hv
      have HS : Hid (sFold (n3' n1 n2 m3) kk (k + 1) = sStep (n3' n1 n2 m3 k) sh (kk k)) := by show _ = _; rw [sFold, HF.out]; rfl
      have HX : Hid (sStep (n3' n1 n2 m3 k) sh (kk k) = none → sFold (n3' n1 n2 m3) kk n = none) := fun e => sFold_none (k := k + 1) (by rw [HS.out, e]) (by omega)
      have hnd := HN.out
      generalize hndk : n3' n1 n2 m3 k = nd at *
      have HND : Hid (∀ W, Below W0.heap.size W0 W → W.cell? ⟨w.heap.size, 1 + k, none⟩ = some (.int .i64 nd)) := fun W hW => by rw [hnd W hW k (by omega), hndk]
      clear hnd hndk
      generalize kk k = k0 at *
      generalize nn k = n0 at *
      generalize dd k = d0 at *
      generalize ss k = s0 at *
      by_cases e0 : k0 = 0
      · subst e0
        have HE : Hid (sStep nd sh 0 = some sh) := by show _ = _; simp [sStep]
        go_wp2_with fail
        refine (c_isMissing0 _ _ _ _).mono ?_
        rintro e w1 ⟨rfl, hb1⟩
        have B1 : Hid (Below W0.heap.size W0 w1) := btr (HW.out.alloc HW.out.size _) hb1
        clear hb1 a0 a1 a2 a3
        go_wp2
        go_roundw
        case rel => exact ⟨k + 1, sh, by omega, by go_num, rfl, by show _ = _; rw [HS.out, HE.out], B1⟩
        case measure => simp [intOf]; omega
      · have HM := Lib.hid (c_isMissing k0 n0 d0 s0)
        rw [show (k0 == 0) = false by rw [beq_eq_false_iff_ne]; exact e0] at HM
        have HZ : Hid (¬ k0 = 0) := e0
        clear e0
        go_wp2_with fail
        refine (HM.out _).mono ?_
        rintro e w1 ⟨rfl, hb1⟩
        have B1 : Hid (Below W0.heap.size W0 w1) := btr (HW.out.alloc HW.out.size _) hb1
        have v0 : w1.cell? ⟨wr.heap.size, 0, none⟩ = some (.int .i64 k0) := by
          rw [hb1.cell (p := ⟨wr.heap.size, 0, none⟩) (by simp), cell_of_row _ _ _ _ _ _ (heap_alloc_new wr _)]; rfl
        have v1 := HND.out w1 B1.out
        clear hb1 HND HM a0 a1 a2 a3
        have hk3 : k < 3 := by omega
        by_cases e2 : nd = 2
        · subst e2
          by_cases e1 : k0 = 1
          · subst e1
            go_wp2
            go_roundw
            case rel => exact ⟨k + 1, sh, by omega, by go_num, rfl, by show _ = _; rw [HS.out]; rfl, B1⟩
            case measure => simp [intOf]; omega
          · have e1' : (k0 != 1) = true := by rw [bne_iff_ne]; exact e1
            have HE : Hid (sFold (n3' n1 n2 m3) kk n = none) := HX.out (by have := HZ.out; simp [sStep, this, e1])
            clear e1
            go_wp2
            go_ret
            exact ⟨by rw [HE.out]; rfl, btr HB.out B1.out⟩
        · have e2' : (nd == 2) = false := by rw [beq_eq_false_iff_ne]; exact e2
          by_cases e3 : nd = 3
          · subst e3
            by_cases e1 : k0 = 2
            · subst e1
              clear e2
              go_wp2
              go_roundw
              case rel => exact ⟨k + 1, sh, by omega, by go_num, rfl, by show _ = _; rw [HS.out]; rfl, B1⟩
              case measure => simp [intOf]; omega
            · have e1' : (k0 != 2) = true := by rw [bne_iff_ne]; exact e1
              have HE : Hid (sFold (n3' n1 n2 m3) kk n = none) := HX.out (by have := HZ.out; simp [sStep, this, e1])
              clear e1 e2
              go_wp2
              go_ret
              exact ⟨by rw [HE.out]; rfl, btr HB.out B1.out⟩
          · have e3' : (nd == 3) = false := by rw [beq_eq_false_iff_ne]; exact e3
            by_cases e4 : nd = 4
            · subst e4
              by_cases e5 : sh = 0
              · subst e5
                have HE : Hid (sStep 4 0 k0 = some k0) := by show _ = _; have := HZ.out; simp [sStep, this]
                clear e2 e3
                go_wp2
                go_roundw
                case rel => exact ⟨k + 1, k0, by omega, by go_num, rfl, by show _ = _; rw [HS.out, HE.out], B1⟩
                case measure => simp [intOf]; omega
              · have e5' : (sh != 0) = true := by rw [bne_iff_ne]; exact e5
                by_cases e6 : k0 = sh
                · subst e6
                  have e6' : (k0 != k0) = false := by simp
                  have HE : Hid (sStep 4 k0 k0 = some k0) := by show _ = _; have := HZ.out; simp [sStep, this]
                  clear e2 e3 e5
                  go_wp2
                  go_roundw
                  case rel => exact ⟨k + 1, k0, by omega, by go_num, rfl, by show _ = _; rw [HS.out, HE.out], B1⟩
                  case measure => simp [intOf]; omega
                · have e6' : (k0 != sh) = true := by rw [bne_iff_ne]; exact e6
                  have HE : Hid (sFold (n3' n1 n2 m3) kk n = none) := HX.out (by have := HZ.out; simp [sStep, this, e5, e6])
                  clear e2 e3 e5 e6
                  go_wp2
                  go_ret
                  exact ⟨by rw [HE.out]; rfl, btr HB.out B1.out⟩
            · have e4' : (nd == 4) = false := by rw [beq_eq_false_iff_ne]; exact e4
              have HE : Hid (sStep nd sh k0 = some sh) := by show _ = _; have := HZ.out; simp [sStep, this, e2, e3, e4]
              clear e2 e3 e4
              go_wp2
              go_roundw
              case rel => exact ⟨k + 1, sh, by omega, by go_num, rfl, by show _ = _; rw [HS.out, HE.out], B1⟩
              case measure => simp [intOf]; omega
    · obtain rfl : k = n := by omega
      go_wp2
      go_ret
      exact ⟨by rw [HF.out]; rfl, btr HB.out HW.out⟩
end Go.Proofs.YthppcklegdnjdaaGreatDoor
end

/- Operations done on any values. -/
section
namespace Go.Proofs.YthppcklegdnjdaaGreatDoor
open Go.RowKit Go.Deep

set_option maxRecDepth 100000 in
set_option maxHeartbeats 4000000 in
theorem d_badG (w : World) (op : Int) (A : Option Addr) (n cap : Nat) (c n1 n2 m3 r : Int) (l : Bool) (F : Nat) (kk nn dd : Nat → Int) (ss : Nat → ByteArray) (hn : n ≤ 3) (h : Vals w A n kk nn dd ss)
    (HF0 : ∀ W, Calls Tryz.prog 50 #[.int .i64 op, .int .i64 n] W fun e w' => e = .returned (.tuple #[.agg (o7 c n1 n2 m3 r l F).toArray, .bool true]) ∧ Below W.heap.size W w')
    (j : Nat) (hj : j < n) (hval : ∀ k, k < j → ∀ W, Calls Tryz.prog 41 #[V (kk k) (nn k) (dd k) (ss k)] W fun e w' => e = .returned (.bool true) ∧ Below W.heap.size W w') (hbad : ∀ W, Calls Tryz.prog 41 #[V (kk j) (nn j) (dd j) (ss j)] W fun e w' => e = .returned (.bool false) ∧ Below W.heap.size W w') :
    Calls Tryz.prog 18 #[.int .i64 op, .slice A n cap] w fun e w' => e = .returned (.tuple #[V 0 0 0 noS, .int .i64 2]) ∧ Below w.heap.size w w' := by
  have HF := Lib.hid HF0
  have HV0 := Lib.hid h
  have HVal := Lib.hid hval
  have HBad := Lib.hid hbad
  clear hbad
  clear HF0 h hval
  go_enter Tryz.func18, Tryz.ntmps18
  go_wp2_with fail
  have hr0 := heap_alloc_new w (.cells #[.int .i64 0, .int .i64 0, .int .i64 0, .string ⟨#[]⟩] 24)
  refine (HF.out _).mono ?_
  rintro e w1 ⟨rfl, hb1⟩
  have hr1 := (hb1.block _ (by simp)).trans hr0
  have B1 : Hid (Below w.heap.size w w1) := btr ((Below.refl _ _).alloc (Nat.le_refl _) _) hb1
  have hz1 : w.heap.size < w1.heap.size := (Array.getElem?_eq_some_iff.1 hr1).1
  have HR1 := Lib.hid hr1
  clear hr0 hb1 hr1 HF
  simp only [o7]
  go_wp2_with (first | (refine wpList_store_row 89 _ _ rfl rfl rfl w1.heap.size 89 rfl (o7 c n1 n2 m3 r l F) rfl _ (heap_alloc_new w1 _) rfl info_op (o7_one _ _ _ _ _ _ _) ?_; intro w2 hh2 hg2 hz2; have B2 : Hid (Below w.heap.size w w2) := (B1.out.alloc (by omega) _).grown hg2 (by simp; omega) (fun j hj => by injection hj with hj; omega); have HR2 := Lib.hid ((hg2.block _ (by simp; omega) (by simp; omega)).trans ((Below.heap_alloc w1 _ _ hz1).trans HR1.out)); have hl2 : w1.heap.size < w2.heap.size := (by rw [hz2]; simp); have HL2 := Lib.hid hh2; clear hz2 hg2 hh2 HR1))
  have hz2 : w.heap.size < w2.heap.size := by omega
  have K : Hid (∀ W, Below w2.heap.size w2 W → W.heap[w1.heap.size]? = some (.cells (o7 c n1 n2 m3 r l F).toArray 89 (0, 0))) := fun W hW => (hW.block _ hl2).trans HL2.out
  have KR : Hid (∀ W, Below w2.heap.size w2 W → W.heap[w.heap.size]? = some (.cells #[.int .i64 0, .int .i64 0, .int .i64 0, .string ⟨#[]⟩] 24 (0, 0))) := fun W hW => (hW.block _ hz2).trans HR2.out
  have KL : Hid (∀ W, Below w2.heap.size w2 W → Vals W A n kk nn dd ss) := fun W hW => (HV0.out.below B2.out).below hW
  clear HL2 HR2 B1 HV0
  go_loopw [24] (fun i wr => ∃ k : Nat, k ≤ j ∧ i = .int .i64 k ∧ Hid (Below w2.heap.size w2 wr)) (fun i _ => n - (intOf i).toNat)
  case atStart => exact ⟨0, Nat.zero_le _, rfl, Below.refl _ _⟩
  case round =>
    obtain ⟨k, hk, rfl, HW⟩ := hrel
    by_cases hlt : k < j
    · have hkn : k < n := by omega
      obtain ⟨b, o, rfl, _, hv⟩ := KL.out _ HW.out (by omega)
      obtain ⟨a0, a1, a2, a3⟩ := hv k (by omega)
      clear hv
      have HVk := Lib.hid (HVal.out k (by omega))
      generalize kk k = k0 at *
      generalize nn k = n0 at *
      generalize dd k = d0 at *
      generalize ss k = s0 at *
      go_wp2_with fail
      refine (HVk.out _).mono ?_
      rintro e w3 ⟨rfl, hb3⟩
      have B3 : Hid (Below w2.heap.size w2 w3) := btr (HW.out.alloc HW.out.size _) hb3
      clear hb3 a0 a1 a2 a3
      go_wp2
      go_roundw
      case rel => exact ⟨k + 1, by omega, by go_num, B3⟩
      case measure => simp [intOf]; omega
    · obtain rfl : k = j := by omega
      obtain ⟨b, o, rfl, _, hv⟩ := KL.out _ HW.out (by omega)
      obtain ⟨a0, a1, a2, a3⟩ := hv k (by omega)
      clear hv
      generalize kk k = k0 at *
      generalize nn k = n0 at *
      generalize dd k = d0 at *
      generalize ss k = s0 at *
      go_wp2_with fail
      refine (HBad.out _).mono ?_
      rintro e w3 ⟨rfl, hb3⟩
      have B3 : Below w2.heap.size w2 w3 := btr (HW.out.alloc HW.out.size _) hb3
      clear hb3 a0 a1 a2 a3
      have hr6 := KR.out _ B3
      go_wp2_with (refine wpList_store_row 24 _ _ rfl rfl rfl w.heap.size 24 rfl [.int .i64 0, .int .i64 0, .int .i64 0, .string noS] rfl _ hr6 rfl info_val (val_one _ _ _ _) ?_; intro wz hhz hgz hzz; have HBz : Hid (Below w.heap.size w wz) := (btr B2.out B3).grown hgz (btr B2.out B3).size (fun j hj => by injection hj with hj; omega); clear hzz hgz hr6)
      exact bodyPost_ret (v := .tuple #[V 0 0 0 noS, .int .i64 2]) (results_cell_tmp Tryz.results18 _ _ w.heap.size 24 _ (0, 0) _ rfl hhz Tryz.underlying24 rfl (by rw [info_val]; rfl)) rfl ⟨rfl, HBz.out⟩

set_option maxRecDepth 100000 in
set_option maxHeartbeats 4000000 in
theorem d_typeG (w : World) (op : Int) (A : Option Addr) (n cap : Nat) (c n1 n2 m3 r : Int) (l : Bool) (F : Nat) (kk nn dd : Nat → Int) (ss : Nat → ByteArray) (hn : n ≤ 3) (h : Vals w A n kk nn dd ss)
    (HF0 : ∀ W, Calls Tryz.prog 50 #[.int .i64 op, .int .i64 n] W fun e w' => e = .returned (.tuple #[.agg (o7 c n1 n2 m3 r l F).toArray, .bool true]) ∧ Below W.heap.size W w')
    (hval : ∀ k, k < n → ∀ W, Calls Tryz.prog 41 #[V (kk k) (nn k) (dd k) (ss k)] W fun e w' => e = .returned (.bool true) ∧ Below W.heap.size W w') (hs : sFold (n3' n1 n2 m3) kk n = none) :
    Calls Tryz.prog 18 #[.int .i64 op, .slice A n cap] w fun e w' => e = .returned (.tuple #[V 0 0 0 noS, .int .i64 12]) ∧ Below w.heap.size w w' := by
  have HF := Lib.hid HF0
  have HV0 := Lib.hid h
  have HVal := Lib.hid hval
  have HSf := Lib.hid hs
  clear hs
  clear HF0 h hval
  go_enter Tryz.func18, Tryz.ntmps18
  go_wp2_with fail
  have hr0 := heap_alloc_new w (.cells #[.int .i64 0, .int .i64 0, .int .i64 0, .string ⟨#[]⟩] 24)
  refine (HF.out _).mono ?_
  rintro e w1 ⟨rfl, hb1⟩
  have hr1 := (hb1.block _ (by simp)).trans hr0
  have B1 : Hid (Below w.heap.size w w1) := btr ((Below.refl _ _).alloc (Nat.le_refl _) _) hb1
  have hz1 : w.heap.size < w1.heap.size := (Array.getElem?_eq_some_iff.1 hr1).1
  have HR1 := Lib.hid hr1
  clear hr0 hb1 hr1 HF
  simp only [o7]
  go_wp2_with (first | (refine wpList_store_row 89 _ _ rfl rfl rfl w1.heap.size 89 rfl (o7 c n1 n2 m3 r l F) rfl _ (heap_alloc_new w1 _) rfl info_op (o7_one _ _ _ _ _ _ _) ?_; intro w2 hh2 hg2 hz2; have B2 : Hid (Below w.heap.size w w2) := (B1.out.alloc (by omega) _).grown hg2 (by simp; omega) (fun j hj => by injection hj with hj; omega); have HR2 := Lib.hid ((hg2.block _ (by simp; omega) (by simp; omega)).trans ((Below.heap_alloc w1 _ _ hz1).trans HR1.out)); have hl2 : w1.heap.size < w2.heap.size := (by rw [hz2]; simp); have HL2 := Lib.hid hh2; clear hz2 hg2 hh2 HR1))
  have hz2 : w.heap.size < w2.heap.size := by omega
  have K : Hid (∀ W, Below w2.heap.size w2 W → W.heap[w1.heap.size]? = some (.cells (o7 c n1 n2 m3 r l F).toArray 89 (0, 0))) := fun W hW => (hW.block _ hl2).trans HL2.out
  have KR : Hid (∀ W, Below w2.heap.size w2 W → W.heap[w.heap.size]? = some (.cells #[.int .i64 0, .int .i64 0, .int .i64 0, .string ⟨#[]⟩] 24 (0, 0))) := fun W hW => (hW.block _ hz2).trans HR2.out
  have KL : Hid (∀ W, Below w2.heap.size w2 W → Vals W A n kk nn dd ss) := fun W hW => (HV0.out.below B2.out).below hW
  clear HL2 HR2 B1 HV0
  go_loopw [24] (fun i wr => ∃ k : Nat, k ≤ n ∧ i = .int .i64 k ∧ Hid (Below w2.heap.size w2 wr)) (fun i _ => n - (intOf i).toNat)
  case atStart => exact ⟨0, Nat.zero_le _, rfl, Below.refl _ _⟩
  case round =>
    obtain ⟨k, hk, rfl, HW⟩ := hrel
    by_cases hlt : k < n
    · obtain ⟨b, o, rfl, _, hv⟩ := KL.out _ HW.out (by omega)
      obtain ⟨a0, a1, a2, a3⟩ := hv k (by omega)
      clear hv
      have HVk := Lib.hid (HVal.out k (by omega))
      generalize kk k = k0 at *
      generalize nn k = n0 at *
      generalize dd k = d0 at *
      generalize ss k = s0 at *
      go_wp2_with fail
      refine (HVk.out _).mono ?_
      rintro e w3 ⟨rfl, hb3⟩
      have B3 : Hid (Below w2.heap.size w2 w3) := btr (HW.out.alloc HW.out.size _) hb3
      clear hb3 a0 a1 a2 a3
      go_wp2
      go_roundw
      case rel => exact ⟨k + 1, by omega, by go_num, B3⟩
      case measure => simp [intOf]; omega
    · obtain rfl : k = n := by omega
      have hk4 := K.out _ HW.out
      have o0 : wr.cell? ⟨w1.heap.size, 0, none⟩ = some (.int .i64 c) := by rw [cell_of_row _ _ _ _ _ _ hk4]; rfl
      have o1 : wr.cell? ⟨w1.heap.size, 1, none⟩ = some (.int .i64 n1) := by rw [cell_of_row _ _ _ _ _ _ hk4]; rfl
      have o2 : wr.cell? ⟨w1.heap.size, 2, none⟩ = some (.int .i64 n2) := by rw [cell_of_row _ _ _ _ _ _ hk4]; rfl
      have o3 : wr.cell? ⟨w1.heap.size, 3, none⟩ = some (.int .i64 m3) := by rw [cell_of_row _ _ _ _ _ _ hk4]; rfl
      have o4 : wr.cell? ⟨w1.heap.size, 4, none⟩ = some (.int .i64 r) := by rw [cell_of_row _ _ _ _ _ _ hk4]; rfl
      have o5 : wr.cell? ⟨w1.heap.size, 5, none⟩ = some (.bool l) := by rw [cell_of_row _ _ _ _ _ _ hk4]; rfl
      have o6 : wr.cell? ⟨w1.heap.size, 6, none⟩ = some (.func (.func F) #[] #[]) := by rw [cell_of_row _ _ _ _ _ _ hk4]; rfl
      clear hk4
      have HSh := Lib.hid (c_suits wr A k cap c n1 n2 m3 r l (.func (.func F) #[] #[]) kk nn dd ss hn (KL.out _ HW.out))
      rw [HSf.out] at HSh
      simp only [Option.isSome] at HSh
      go_wp2_with fail
      refine HSh.out.mono ?_
      rintro e w5 ⟨rfl, hb5⟩
      have B5 : Below w2.heap.size w2 w5 := btr HW.out hb5
      clear hb5 HSh o0 o1 o2 o3 o4 o5 o6
      have hr6 := KR.out _ B5
      go_wp2_with (refine wpList_store_row 24 _ _ rfl rfl rfl w.heap.size 24 rfl [.int .i64 0, .int .i64 0, .int .i64 0, .string noS] rfl _ hr6 rfl info_val (val_one _ _ _ _) ?_; intro wz hhz hgz hzz; have HBz : Hid (Below w.heap.size w wz) := (btr B2.out B5).grown hgz (btr B2.out B5).size (fun j hj => by injection hj with hj; omega); clear hzz hgz hr6)
      exact bodyPost_ret (v := .tuple #[V 0 0 0 noS, .int .i64 12]) (results_cell_tmp Tryz.results18 _ _ w.heap.size 24 _ (0, 0) _ rfl hhz Tryz.underlying24 rfl (by rw [info_val]; rfl)) rfl ⟨rfl, HBz.out⟩

set_option maxRecDepth 100000 in
set_option maxHeartbeats 4000000 in
theorem d_missG (w : World) (op : Int) (A : Option Addr) (n cap : Nat) (c n1 n2 m3 r : Int) (F : Nat) (kk nn dd : Nat → Int) (ss : Nat → ByteArray) (hn : n ≤ 3) (h : Vals w A n kk nn dd ss)
    (HF0 : ∀ W, Calls Tryz.prog 50 #[.int .i64 op, .int .i64 n] W fun e w' => e = .returned (.tuple #[.agg (o7 c n1 n2 m3 r false F).toArray, .bool true]) ∧ Below W.heap.size W w')
    (hval : ∀ k, k < n → ∀ W, Calls Tryz.prog 41 #[V (kk k) (nn k) (dd k) (ss k)] W fun e w' => e = .returned (.bool true) ∧ Below W.heap.size W w') (sh : Int) (hs : sFold (n3' n1 n2 m3) kk n = some sh) (j : Nat) (hj : j < n) (hno : ∀ k, k < j → kk k ≠ 0) (hmi : kk j = 0) :
    Calls Tryz.prog 18 #[.int .i64 op, .slice A n cap] w fun e w' => e = .returned (.tuple #[V 0 (nn j) (dd j) (ss j), .int .i64 0]) ∧ Below w.heap.size w w' := by
  have HF := Lib.hid HF0
  have HV0 := Lib.hid h
  have HVal := Lib.hid hval
  have HSf := Lib.hid hs
  clear hs
  have HNo := Lib.hid hno
  have HMi := Lib.hid hmi
  clear hno hmi
  clear HF0 h hval
  go_enter Tryz.func18, Tryz.ntmps18
  go_wp2_with fail
  have hr0 := heap_alloc_new w (.cells #[.int .i64 0, .int .i64 0, .int .i64 0, .string ⟨#[]⟩] 24)
  refine (HF.out _).mono ?_
  rintro e w1 ⟨rfl, hb1⟩
  have hr1 := (hb1.block _ (by simp)).trans hr0
  have B1 : Hid (Below w.heap.size w w1) := btr ((Below.refl _ _).alloc (Nat.le_refl _) _) hb1
  have hz1 : w.heap.size < w1.heap.size := (Array.getElem?_eq_some_iff.1 hr1).1
  have HR1 := Lib.hid hr1
  clear hr0 hb1 hr1 HF
  simp only [o7]
  go_wp2_with (first | (refine wpList_store_row 89 _ _ rfl rfl rfl w1.heap.size 89 rfl (o7 c n1 n2 m3 r false F) rfl _ (heap_alloc_new w1 _) rfl info_op (o7_one _ _ _ _ _ _ _) ?_; intro w2 hh2 hg2 hz2; have B2 : Hid (Below w.heap.size w w2) := (B1.out.alloc (by omega) _).grown hg2 (by simp; omega) (fun j hj => by injection hj with hj; omega); have HR2 := Lib.hid ((hg2.block _ (by simp; omega) (by simp; omega)).trans ((Below.heap_alloc w1 _ _ hz1).trans HR1.out)); have hl2 : w1.heap.size < w2.heap.size := (by rw [hz2]; simp); have HL2 := Lib.hid hh2; clear hz2 hg2 hh2 HR1))
  have hz2 : w.heap.size < w2.heap.size := by omega
  have K : Hid (∀ W, Below w2.heap.size w2 W → W.heap[w1.heap.size]? = some (.cells (o7 c n1 n2 m3 r false F).toArray 89 (0, 0))) := fun W hW => (hW.block _ hl2).trans HL2.out
  have KR : Hid (∀ W, Below w2.heap.size w2 W → W.heap[w.heap.size]? = some (.cells #[.int .i64 0, .int .i64 0, .int .i64 0, .string ⟨#[]⟩] 24 (0, 0))) := fun W hW => (hW.block _ hz2).trans HR2.out
  have KL : Hid (∀ W, Below w2.heap.size w2 W → Vals W A n kk nn dd ss) := fun W hW => (HV0.out.below B2.out).below hW
  clear HL2 HR2 B1 HV0
  go_loopw [24] (fun i wr => ∃ k : Nat, k ≤ n ∧ i = .int .i64 k ∧ Hid (Below w2.heap.size w2 wr)) (fun i _ => n - (intOf i).toNat)
  case atStart => exact ⟨0, Nat.zero_le _, rfl, Below.refl _ _⟩
  case round =>
    obtain ⟨k, hk, rfl, HW⟩ := hrel
    by_cases hlt : k < n
    · obtain ⟨b, o, rfl, _, hv⟩ := KL.out _ HW.out (by omega)
      obtain ⟨a0, a1, a2, a3⟩ := hv k (by omega)
      clear hv
      have HVk := Lib.hid (HVal.out k (by omega))
      generalize kk k = k0 at *
      generalize nn k = n0 at *
      generalize dd k = d0 at *
      generalize ss k = s0 at *
      go_wp2_with fail
      refine (HVk.out _).mono ?_
      rintro e w3 ⟨rfl, hb3⟩
      have B3 : Hid (Below w2.heap.size w2 w3) := btr (HW.out.alloc HW.out.size _) hb3
      clear hb3 a0 a1 a2 a3
      go_wp2
      go_roundw
      case rel => exact ⟨k + 1, by omega, by go_num, B3⟩
      case measure => simp [intOf]; omega
    · obtain rfl : k = n := by omega
      have hk4 := K.out _ HW.out
      have o0 : wr.cell? ⟨w1.heap.size, 0, none⟩ = some (.int .i64 c) := by rw [cell_of_row _ _ _ _ _ _ hk4]; rfl
      have o1 : wr.cell? ⟨w1.heap.size, 1, none⟩ = some (.int .i64 n1) := by rw [cell_of_row _ _ _ _ _ _ hk4]; rfl
      have o2 : wr.cell? ⟨w1.heap.size, 2, none⟩ = some (.int .i64 n2) := by rw [cell_of_row _ _ _ _ _ _ hk4]; rfl
      have o3 : wr.cell? ⟨w1.heap.size, 3, none⟩ = some (.int .i64 m3) := by rw [cell_of_row _ _ _ _ _ _ hk4]; rfl
      have o4 : wr.cell? ⟨w1.heap.size, 4, none⟩ = some (.int .i64 r) := by rw [cell_of_row _ _ _ _ _ _ hk4]; rfl
      have o5 : wr.cell? ⟨w1.heap.size, 5, none⟩ = some (.bool false) := by rw [cell_of_row _ _ _ _ _ _ hk4]; rfl
      have o6 : wr.cell? ⟨w1.heap.size, 6, none⟩ = some (.func (.func F) #[] #[]) := by rw [cell_of_row _ _ _ _ _ _ hk4]; rfl
      clear hk4
      have HSh := Lib.hid (c_suits wr A k cap c n1 n2 m3 r false (.func (.func F) #[] #[]) kk nn dd ss hn (KL.out _ HW.out))
      rw [HSf.out] at HSh
      simp only [Option.isSome] at HSh
      go_wp2_with fail
      refine HSh.out.mono ?_
      rintro e w5 ⟨rfl, hb5⟩
      have B5 : Below w2.heap.size w2 w5 := btr HW.out hb5
      clear hb5 HSh o0 o1 o2 o3 o4 o5 o6
      have hk5 := K.out _ B5
      have p5 : w5.cell? ⟨w1.heap.size, 5, none⟩ = some (.bool false) := by rw [cell_of_row _ _ _ _ _ _ hk5]; rfl
      clear hk5
      have HB5 := Lib.hid B5
      clear B5
      go_wp2
      go_loopw [43] (fun i wr' => ∃ i' : Nat, i' ≤ j ∧ i = .int .i64 i' ∧ Hid (Below w2.heap.size w2 wr')) (fun i _ => k - (intOf i).toNat)
      case atStart => exact ⟨0, Nat.zero_le _, rfl, HB5⟩
      case round =>
        obtain ⟨i', hi', rfl, HWW⟩ := hrel
        have hin : i' < k := by omega
        obtain ⟨b, o, rfl, _, hv⟩ := KL.out _ HWW.out (by omega)
        obtain ⟨a0, a1, a2, a3⟩ := hv i' hin
        clear hv
        by_cases hlt' : i' < j
        · have HM := Lib.hid (c_isMissing (kk i') (nn i') (dd i') (ss i'))
          rw [show (kk i' == 0) = false by rw [beq_eq_false_iff_ne]; exact HNo.out i' hlt'] at HM
          generalize kk i' = k0 at *
          generalize nn i' = n0 at *
          generalize dd i' = d0 at *
          generalize ss i' = s0 at *
          go_wp2_with fail
          refine (HM.out _).mono ?_
          rintro e w6 ⟨rfl, hb6⟩
          have B6 : Hid (Below w2.heap.size w2 w6) := btr (HWW.out.alloc HWW.out.size _) hb6
          clear hb6 a0 a1 a2 a3
          go_wp2
          go_roundw
          case rel => exact ⟨i' + 1, by omega, by go_num, B6⟩
          case measure => simp [intOf]; omega
        · obtain rfl : i' = j := by omega
          rw [HMi.out] at a0
          have hrv := heap_alloc_new wr (.cells #[.int .i64 0, .int .i64 (nn i'), .int .i64 (dd i'), .string (ss i')] 24)
          go_wp2_with fail
          refine (c_isMissing0 _ _ _ _).mono ?_
          rintro e w6 ⟨rfl, hb6⟩
          have hv6 := (hb6.block _ (by simp)).trans hrv
          have v0 : w6.cell? ⟨wr.heap.size, 0, none⟩ = some (.int .i64 0) := by rw [cell_of_row _ _ _ _ _ _ hv6]; rfl
          have v1 : w6.cell? ⟨wr.heap.size, 1, none⟩ = some (.int .i64 (nn i')) := by rw [cell_of_row _ _ _ _ _ _ hv6]; rfl
          have v2 : w6.cell? ⟨wr.heap.size, 2, none⟩ = some (.int .i64 (dd i')) := by rw [cell_of_row _ _ _ _ _ _ hv6]; rfl
          have v3 : w6.cell? ⟨wr.heap.size, 3, none⟩ = some (.string (ss i')) := by rw [cell_of_row _ _ _ _ _ _ hv6]; rfl
          have B6 : Below w2.heap.size w2 w6 := btr (HWW.out.alloc HWW.out.size _) hb6
          clear hb6 a0 a1 a2 a3 hrv hv6
          have hr6 := KR.out _ B6
          go_wp2_with (refine wpList_store_row 24 _ _ rfl rfl rfl w.heap.size 24 rfl [.int .i64 0, .int .i64 (nn i'), .int .i64 (dd i'), .string (ss i')] rfl _ hr6 rfl info_val (val_one _ _ _ _) ?_; intro wz hhz hgz hzz; have HBz : Hid (Below w.heap.size w wz) := (btr B2.out B6).grown hgz (btr B2.out B6).size (fun j hj => by injection hj with hj; omega); clear hzz hgz hr6)
          exact bodyPost_ret (v := .tuple #[V 0 (nn i') (dd i') (ss i'), .int .i64 0]) (results_cell_tmp Tryz.results18 _ _ w.heap.size 24 _ (0, 0) _ rfl hhz Tryz.underlying24 rfl (by rw [info_val]; rfl)) rfl ⟨rfl, HBz.out⟩

set_option maxRecDepth 100000 in
set_option maxHeartbeats 4000000 in
theorem d_runG (w : World) (op : Int) (A : Option Addr) (n cap : Nat) (c n1 n2 m3 r : Int) (l : Bool) (F : Nat) (kk nn dd : Nat → Int) (ss : Nat → ByteArray) (hn : n ≤ 3) (h : Vals w A n kk nn dd ss)
    (HF0 : ∀ W, Calls Tryz.prog 50 #[.int .i64 op, .int .i64 n] W fun e w' => e = .returned (.tuple #[.agg (o7 c n1 n2 m3 r l F).toArray, .bool true]) ∧ Below W.heap.size W w')
    (hval : ∀ k, k < n → ∀ W, Calls Tryz.prog 41 #[V (kk k) (nn k) (dd k) (ss k)] W fun e w' => e = .returned (.bool true) ∧ Below W.heap.size W w') (sh : Int) (hs : sFold (n3' n1 n2 m3) kk n = some sh) (hno : l = true ∨ ∀ k, k < n → kk k ≠ 0) (rk rn rd : Int) (rs : ByteArray) (hF : ∀ (args : Array Value) (W : World), (callFunc F args).run Tryz.prog W = .ok (.enter F args) W) (HR : ∀ W, Below w.heap.size w W → Calls Tryz.prog F #[.slice A n cap] W fun e w' => e = .returned (V rk rn rd rs) ∧ Below W.heap.size W w') :
    Calls Tryz.prog 18 #[.int .i64 op, .slice A n cap] w fun e w' => e = .returned (.tuple #[V rk rn rd rs, .int .i64 0]) ∧ Below w.heap.size w w' := by
  have HF := Lib.hid HF0
  have HV0 := Lib.hid h
  have HVal := Lib.hid hval
  have HSf := Lib.hid hs
  clear hs
  have HRh := Lib.hid HR
  have HFn := Lib.hid hF
  have HNo := Lib.hid hno
  clear HR hF hno
  clear HF0 h hval
  go_enter Tryz.func18, Tryz.ntmps18
  go_wp2_with fail
  have hr0 := heap_alloc_new w (.cells #[.int .i64 0, .int .i64 0, .int .i64 0, .string ⟨#[]⟩] 24)
  refine (HF.out _).mono ?_
  rintro e w1 ⟨rfl, hb1⟩
  have hr1 := (hb1.block _ (by simp)).trans hr0
  have B1 : Hid (Below w.heap.size w w1) := btr ((Below.refl _ _).alloc (Nat.le_refl _) _) hb1
  have hz1 : w.heap.size < w1.heap.size := (Array.getElem?_eq_some_iff.1 hr1).1
  have HR1 := Lib.hid hr1
  clear hr0 hb1 hr1 HF
  simp only [o7]
  go_wp2_with (first | (refine wpList_store_row 89 _ _ rfl rfl rfl w1.heap.size 89 rfl (o7 c n1 n2 m3 r l F) rfl _ (heap_alloc_new w1 _) rfl info_op (o7_one _ _ _ _ _ _ _) ?_; intro w2 hh2 hg2 hz2; have B2 : Hid (Below w.heap.size w w2) := (B1.out.alloc (by omega) _).grown hg2 (by simp; omega) (fun j hj => by injection hj with hj; omega); have HR2 := Lib.hid ((hg2.block _ (by simp; omega) (by simp; omega)).trans ((Below.heap_alloc w1 _ _ hz1).trans HR1.out)); have hl2 : w1.heap.size < w2.heap.size := (by rw [hz2]; simp); have HL2 := Lib.hid hh2; clear hz2 hg2 hh2 HR1))
  have hz2 : w.heap.size < w2.heap.size := by omega
  have K : Hid (∀ W, Below w2.heap.size w2 W → W.heap[w1.heap.size]? = some (.cells (o7 c n1 n2 m3 r l F).toArray 89 (0, 0))) := fun W hW => (hW.block _ hl2).trans HL2.out
  have KR : Hid (∀ W, Below w2.heap.size w2 W → W.heap[w.heap.size]? = some (.cells #[.int .i64 0, .int .i64 0, .int .i64 0, .string ⟨#[]⟩] 24 (0, 0))) := fun W hW => (hW.block _ hz2).trans HR2.out
  have KL : Hid (∀ W, Below w2.heap.size w2 W → Vals W A n kk nn dd ss) := fun W hW => (HV0.out.below B2.out).below hW
  clear HL2 HR2 B1 HV0
  go_loopw [24] (fun i wr => ∃ k : Nat, k ≤ n ∧ i = .int .i64 k ∧ Hid (Below w2.heap.size w2 wr)) (fun i _ => n - (intOf i).toNat)
  case atStart => exact ⟨0, Nat.zero_le _, rfl, Below.refl _ _⟩
  case round =>
    obtain ⟨k, hk, rfl, HW⟩ := hrel
    by_cases hlt : k < n
    · obtain ⟨b, o, rfl, _, hv⟩ := KL.out _ HW.out (by omega)
      obtain ⟨a0, a1, a2, a3⟩ := hv k (by omega)
      clear hv
      have HVk := Lib.hid (HVal.out k (by omega))
      generalize kk k = k0 at *
      generalize nn k = n0 at *
      generalize dd k = d0 at *
      generalize ss k = s0 at *
      go_wp2_with fail
      refine (HVk.out _).mono ?_
      rintro e w3 ⟨rfl, hb3⟩
      have B3 : Hid (Below w2.heap.size w2 w3) := btr (HW.out.alloc HW.out.size _) hb3
      clear hb3 a0 a1 a2 a3
      go_wp2
      go_roundw
      case rel => exact ⟨k + 1, by omega, by go_num, B3⟩
      case measure => simp [intOf]; omega
    · obtain rfl : k = n := by omega
      have hk4 := K.out _ HW.out
      have o0 : wr.cell? ⟨w1.heap.size, 0, none⟩ = some (.int .i64 c) := by rw [cell_of_row _ _ _ _ _ _ hk4]; rfl
      have o1 : wr.cell? ⟨w1.heap.size, 1, none⟩ = some (.int .i64 n1) := by rw [cell_of_row _ _ _ _ _ _ hk4]; rfl
      have o2 : wr.cell? ⟨w1.heap.size, 2, none⟩ = some (.int .i64 n2) := by rw [cell_of_row _ _ _ _ _ _ hk4]; rfl
      have o3 : wr.cell? ⟨w1.heap.size, 3, none⟩ = some (.int .i64 m3) := by rw [cell_of_row _ _ _ _ _ _ hk4]; rfl
      have o4 : wr.cell? ⟨w1.heap.size, 4, none⟩ = some (.int .i64 r) := by rw [cell_of_row _ _ _ _ _ _ hk4]; rfl
      have o5 : wr.cell? ⟨w1.heap.size, 5, none⟩ = some (.bool l) := by rw [cell_of_row _ _ _ _ _ _ hk4]; rfl
      have o6 : wr.cell? ⟨w1.heap.size, 6, none⟩ = some (.func (.func F) #[] #[]) := by rw [cell_of_row _ _ _ _ _ _ hk4]; rfl
      clear hk4
      have HSh := Lib.hid (c_suits wr A k cap c n1 n2 m3 r l (.func (.func F) #[] #[]) kk nn dd ss hn (KL.out _ HW.out))
      rw [HSf.out] at HSh
      simp only [Option.isSome] at HSh
      go_wp2_with fail
      refine HSh.out.mono ?_
      rintro e w5 ⟨rfl, hb5⟩
      have B5 : Below w2.heap.size w2 w5 := btr HW.out hb5
      clear hb5 HSh o0 o1 o2 o3 o4 o5 o6
      have hk5 := K.out _ B5
      have p5 : w5.cell? ⟨w1.heap.size, 5, none⟩ = some (.bool l) := by rw [cell_of_row _ _ _ _ _ _ hk5]; rfl
      have p6 : w5.cell? ⟨w1.heap.size, 6, none⟩ = some (.func (.func F) #[] #[]) := by rw [cell_of_row _ _ _ _ _ _ hk5]; rfl
      clear hk5
      cases l with
      | true =>
        have hcf := HFn.out #[.slice A k cap] w5
        go_wp2_with fail
        refine (HRh.out _ (btr B2.out B5)).mono ?_
        rintro e w8 ⟨rfl, hb8⟩
        have B8 : Below w2.heap.size w2 w8 := btr B5 hb8
        clear hb8 HRh p5 p6 hcf
        have hr6 := KR.out _ B8
        go_wp2_with (refine wpList_store_row 24 _ _ rfl rfl rfl w.heap.size 24 rfl [.int .i64 rk, .int .i64 rn, .int .i64 rd, .string rs] rfl _ hr6 rfl info_val (val_one _ _ _ _) ?_; intro wz hhz hgz hzz; have HBz : Hid (Below w.heap.size w wz) := (btr B2.out B8).grown hgz (btr B2.out B8).size (fun j hj => by injection hj with hj; omega); clear hzz hgz hr6)
        exact bodyPost_ret (v := .tuple #[V rk rn rd rs, .int .i64 0]) (results_cell_tmp Tryz.results18 _ _ w.heap.size 24 _ (0, 0) _ rfl hhz Tryz.underlying24 rfl (by rw [info_val]; rfl)) rfl ⟨rfl, HBz.out⟩
      | false =>
        have HNo' : Hid (∀ i, i < k → kk i ≠ 0) := by rcases HNo.out with h | h
                                                      · cases h
                                                      · exact h
        clear HNo p6
        have HB5 := Lib.hid B5
        clear B5
        go_wp2
        go_loopw [43] (fun i wr' => ∃ i' : Nat, i' ≤ k ∧ i = .int .i64 i' ∧ Hid (Below w2.heap.size w2 wr')) (fun i _ => k - (intOf i).toNat)
        case atStart => exact ⟨0, Nat.zero_le _, rfl, HB5⟩
        case round =>
          obtain ⟨i', hi', rfl, HWW⟩ := hrel
          by_cases hlt' : i' < k
          · obtain ⟨b, o, rfl, _, hv⟩ := KL.out _ HWW.out (by omega)
            obtain ⟨a0, a1, a2, a3⟩ := hv i' hlt'
            clear hv
            have HM := Lib.hid (c_isMissing (kk i') (nn i') (dd i') (ss i'))
            rw [show (kk i' == 0) = false by rw [beq_eq_false_iff_ne]; exact HNo'.out i' hlt'] at HM
            generalize kk i' = k0 at *
            generalize nn i' = n0 at *
            generalize dd i' = d0 at *
            generalize ss i' = s0 at *
            go_wp2_with fail
            refine (HM.out _).mono ?_
            rintro e w6 ⟨rfl, hb6⟩
            have B6 : Hid (Below w2.heap.size w2 w6) := btr (HWW.out.alloc HWW.out.size _) hb6
            clear hb6 a0 a1 a2 a3
            go_wp2
            go_roundw
            case rel => exact ⟨i' + 1, by omega, by go_num, B6⟩
            case measure => simp [intOf]; omega
          · obtain rfl : i' = k := by omega
            have hk7 := K.out _ HWW.out
            have q6 : wr.cell? ⟨w1.heap.size, 6, none⟩ = some (.func (.func F) #[] #[]) := by rw [cell_of_row _ _ _ _ _ _ hk7]; rfl
            clear hk7
            have hcf := HFn.out #[.slice A i' cap] wr
            go_wp2_with fail
            refine (HRh.out _ (btr B2.out HWW.out)).mono ?_
            rintro e w8 ⟨rfl, hb8⟩
            have B8 : Below w2.heap.size w2 w8 := btr HWW.out hb8
            clear hb8 HRh q6 hcf
            have hr6 := KR.out _ B8
            go_wp2_with (refine wpList_store_row 24 _ _ rfl rfl rfl w.heap.size 24 rfl [.int .i64 rk, .int .i64 rn, .int .i64 rd, .string rs] rfl _ hr6 rfl info_val (val_one _ _ _ _) ?_; intro wz hhz hgz hzz; have HBz : Hid (Below w.heap.size w wz) := (btr B2.out B8).grown hgz (btr B2.out B8).size (fun j hj => by injection hj with hj; omega); clear hzz hgz hr6)
            exact bodyPost_ret (v := .tuple #[V rk rn rd rs, .int .i64 0]) (results_cell_tmp Tryz.results18 _ _ w.heap.size 24 _ (0, 0) _ rfl hhz Tryz.underlying24 rfl (by rw [info_val]; rfl)) rfl ⟨rfl, HBz.out⟩
end Go.Proofs.YthppcklegdnjdaaGreatDoor
end

/- Whether values suit an operation: any operation, any values. -/
import Derived.Test.YtfkjfeobhbocjaaGreatDoorSuit
namespace Go.Proofs.YtfkjfeobhbocjaaGreatDoor
open Go.RowKit Go.Deep
def n3' (n1 n2 n3 : Int) (k : Nat) : Int := if k = 0 then n1 else if k = 1 then n2 else n3
/-- One value: what is shared behind it; none: it doesn't suit. -/
def sStep (nd sh k0 : Int) : Option Int := if k0 = 0 then some sh else if nd = 2 then (if k0 = 1 then some sh else none) else if nd = 3 then (if k0 = 2 then some sh else none) else if nd = 4 then (if sh ≠ 0 ∧ k0 ≠ sh then none else some k0) else some sh
def sFold (nd kk : Nat → Int) : Nat → Option Int
  | 0 => some 0
  | k + 1 => (sFold nd kk k).bind fun sh => sStep (nd k) sh (kk k)
theorem sFold_none {nd kk : Nat → Int} {k n : Nat} (h : sFold nd kk k = none) (hn : k ≤ n) : sFold nd kk n = none := by
  induction n with
  | zero => obtain rfl : k = 0 := by omega
            exact h
  | succ n ih =>
    by_cases e : k = n + 1
    · rw [← e]; exact h
    · rw [sFold, ih (by omega)]; rfl
/-- The values of a slice. -/
def Vals (w : World) (A : Option Addr) (n : Nat) (kk nn dd : Nat → Int) (ss : Nat → ByteArray) : Prop :=
  0 < n → ∃ b o, A = some ⟨b, o, none⟩ ∧ b < w.heap.size ∧ ∀ k, k < n → ValIn w b (o + k * 4) (kk k) (nn k) (dd k) (ss k)
theorem Vals.below {w W : World} {A : Option Addr} {n : Nat} {kk nn dd : Nat → Int} {ss : Nat → ByteArray} (h : Vals w A n kk nn dd ss) (hW : Below w.heap.size w W) : Vals W A n kk nn dd ss := fun hn => by
  obtain ⟨b, o, h1, h2, h3⟩ := h hn
  exact ⟨b, o, h1, Nat.lt_of_lt_of_le h2 hW.size, fun k hk => (h3 k hk).below hW h2⟩

set_option maxRecDepth 100000 in
set_option maxHeartbeats 4000000 in
theorem c_suits (w : World) (A : Option Addr) (n cap : Nat) (c n1 n2 m3 r : Int) (l : Bool) (F : Value) (kk nn dd : Nat → Int) (ss : Nat → ByteArray) (hn : n ≤ 3) (h : Vals w A n kk nn dd ss) :
    Calls Tryz.prog 56 #[.agg #[.int .i64 c, .int .i64 n1, .int .i64 n2, .int .i64 m3, .int .i64 r, .bool l, F], .slice A n cap] w fun e w' => e = .returned (.bool (sFold (n3' n1 n2 m3) kk n).isSome) ∧ Below w.heap.size w w' := by
  go_enter Tryz.func56, Tryz.ntmps56
  go_wp2
  have hrow := heap_alloc_new w (.cells #[.int .i64 c, .int .i64 n1, .int .i64 n2, .int .i64 m3, .int .i64 r, .bool l, F] 66)
  have B0 : Below w.heap.size w (w.alloc (.cells #[.int .i64 c, .int .i64 n1, .int .i64 n2, .int .i64 m3, .int .i64 r, .bool l, F] 66)) := (Below.refl _ _).alloc (Nat.le_refl _) _
  generalize w.alloc (.cells #[.int .i64 c, .int .i64 n1, .int .i64 n2, .int .i64 m3, .int .i64 r, .bool l, F] 66) = W0 at *
  have hz0 : w.heap.size < W0.heap.size := (Array.getElem?_eq_some_iff.1 hrow).1
  have HN : Hid (∀ W, Below W0.heap.size W0 W → ∀ k, k < 3 → W.cell? ⟨w.heap.size, 1 + k, none⟩ = some (.int .i64 (n3' n1 n2 m3 k))) := fun W hW k hk => by
    rw [hW.cell (p := ⟨w.heap.size, 1 + k, none⟩) hz0]
    match k, hk with
    | 0, _ => rw [cell_of_row _ _ _ _ _ _ hrow]; rfl
    | 1, _ => rw [cell_of_row _ _ _ _ _ _ hrow]; rfl
    | 2, _ => rw [cell_of_row _ _ _ _ _ _ hrow]; rfl
  have HV : Hid (Vals W0 A n kk nn dd ss) := h.below B0
  have HB := Lib.hid B0
  clear hrow B0 h
  go_loopw [5, 10] (fun s i wr => ∃ (k : Nat) (sh : Int), k ≤ n ∧ i = .int .i64 k ∧ s = .int .i64 sh ∧ Hid (sFold (n3' n1 n2 m3) kk k = some sh) ∧ Hid (Below W0.heap.size W0 wr)) (fun _ i _ => n - (intOf i).toNat)
  case atStart => exact ⟨0, 0, Nat.zero_le _, rfl, rfl, rfl, Below.refl _ _⟩
  case round =>
    obtain ⟨k, sh, hk, rfl, rfl, HF, HW⟩ := hrel
    by_cases hlt : k < n
    · obtain ⟨b, o, rfl, _, hv⟩ := (HV.out.below HW.out) (by omega)
      obtain ⟨a0, a1, a2, a3⟩ := hv k hlt
      clear hv
      have HS : Hid (sFold (n3' n1 n2 m3) kk (k + 1) = sStep (n3' n1 n2 m3 k) sh (kk k)) := by show _ = _; rw [sFold, HF.out]; rfl
      have HX : Hid (sStep (n3' n1 n2 m3 k) sh (kk k) = none → sFold (n3' n1 n2 m3) kk n = none) := fun e => sFold_none (k := k + 1) (by rw [HS.out, e]) (by omega)
      have hnd := HN.out
      generalize hndk : n3' n1 n2 m3 k = nd at *
      have HND : Hid (∀ W, Below W0.heap.size W0 W → W.cell? ⟨w.heap.size, 1 + k, none⟩ = some (.int .i64 nd)) := fun W hW => by rw [hnd W hW k (by omega), hndk]
      clear hnd hndk
      generalize kk k = k0 at *
      generalize nn k = n0 at *
      generalize dd k = d0 at *
      generalize ss k = s0 at *
      by_cases e0 : k0 = 0
      · subst e0
        have HE : Hid (sStep nd sh 0 = some sh) := by show _ = _; simp [sStep]
        go_wp2_with fail
        refine (c_isMissing0 _ _ _ _).mono ?_
        rintro e w1 ⟨rfl, hb1⟩
        have B1 : Hid (Below W0.heap.size W0 w1) := btr (HW.out.alloc HW.out.size _) hb1
        clear hb1 a0 a1 a2 a3
        go_wp2
        go_roundw
        case rel => exact ⟨k + 1, sh, by omega, by go_num, rfl, by show _ = _; rw [HS.out, HE.out], B1⟩
        case measure => simp [intOf]; omega
      · have HM := Lib.hid (c_isMissing k0 n0 d0 s0)
        rw [show (k0 == 0) = false by rw [beq_eq_false_iff_ne]; exact e0] at HM
        have HZ : Hid (¬ k0 = 0) := e0
        clear e0
        go_wp2_with fail
        refine (HM.out _).mono ?_
        rintro e w1 ⟨rfl, hb1⟩
        have B1 : Hid (Below W0.heap.size W0 w1) := btr (HW.out.alloc HW.out.size _) hb1
        have v0 : w1.cell? ⟨wr.heap.size, 0, none⟩ = some (.int .i64 k0) := by
          rw [hb1.cell (p := ⟨wr.heap.size, 0, none⟩) (by simp), cell_of_row _ _ _ _ _ _ (heap_alloc_new wr _)]; rfl
        have v1 := HND.out w1 B1.out
        clear hb1 HND HM a0 a1 a2 a3
        have hk3 : k < 3 := by omega
        by_cases e2 : nd = 2
        · subst e2
          by_cases e1 : k0 = 1
          · subst e1
            go_wp2
            go_roundw
            case rel => exact ⟨k + 1, sh, by omega, by go_num, rfl, by show _ = _; rw [HS.out]; rfl, B1⟩
            case measure => simp [intOf]; omega
          · have e1' : (k0 != 1) = true := by rw [bne_iff_ne]; exact e1
            have HE : Hid (sFold (n3' n1 n2 m3) kk n = none) := HX.out (by have := HZ.out; simp [sStep, this, e1])
            clear e1
            go_wp2
            go_ret
            exact ⟨by rw [HE.out]; rfl, btr HB.out B1.out⟩
        · have e2' : (nd == 2) = false := by rw [beq_eq_false_iff_ne]; exact e2
          by_cases e3 : nd = 3
          · subst e3
            by_cases e1 : k0 = 2
            · subst e1
              clear e2
              go_wp2
              go_roundw
              case rel => exact ⟨k + 1, sh, by omega, by go_num, rfl, by show _ = _; rw [HS.out]; rfl, B1⟩
              case measure => simp [intOf]; omega
            · have e1' : (k0 != 2) = true := by rw [bne_iff_ne]; exact e1
              have HE : Hid (sFold (n3' n1 n2 m3) kk n = none) := HX.out (by have := HZ.out; simp [sStep, this, e1])
              clear e1 e2
              go_wp2
              go_ret
              exact ⟨by rw [HE.out]; rfl, btr HB.out B1.out⟩
          · have e3' : (nd == 3) = false := by rw [beq_eq_false_iff_ne]; exact e3
            by_cases e4 : nd = 4
            · subst e4
              by_cases e5 : sh = 0
              · subst e5
                have HE : Hid (sStep 4 0 k0 = some k0) := by show _ = _; have := HZ.out; simp [sStep, this]
                clear e2 e3
                go_wp2
                go_roundw
                case rel => exact ⟨k + 1, k0, by omega, by go_num, rfl, by show _ = _; rw [HS.out, HE.out], B1⟩
                case measure => simp [intOf]; omega
              · have e5' : (sh != 0) = true := by rw [bne_iff_ne]; exact e5
                by_cases e6 : k0 = sh
                · subst e6
                  have e6' : (k0 != k0) = false := by simp
                  have HE : Hid (sStep 4 k0 k0 = some k0) := by show _ = _; have := HZ.out; simp [sStep, this]
                  clear e2 e3 e5
                  go_wp2
                  go_roundw
                  case rel => exact ⟨k + 1, k0, by omega, by go_num, rfl, by show _ = _; rw [HS.out, HE.out], B1⟩
                  case measure => simp [intOf]; omega
                · have e6' : (k0 != sh) = true := by rw [bne_iff_ne]; exact e6
                  have HE : Hid (sFold (n3' n1 n2 m3) kk n = none) := HX.out (by have := HZ.out; simp [sStep, this, e5, e6])
                  clear e2 e3 e5 e6
                  go_wp2
                  go_ret
                  exact ⟨by rw [HE.out]; rfl, btr HB.out B1.out⟩
            · have e4' : (nd == 4) = false := by rw [beq_eq_false_iff_ne]; exact e4
              have HE : Hid (sStep nd sh k0 = some sh) := by show _ = _; have := HZ.out; simp [sStep, this, e2, e3, e4]
              clear e2 e3 e4
              go_wp2
              go_roundw
              case rel => exact ⟨k + 1, sh, by omega, by go_num, rfl, by show _ = _; rw [HS.out, HE.out], B1⟩
              case measure => simp [intOf]; omega
    · obtain rfl : k = n := by omega
      go_wp2
      go_ret
      exact ⟨by rw [HF.out]; rfl, btr HB.out HW.out⟩
end Go.Proofs.YtfkjfeobhbocjaaGreatDoor

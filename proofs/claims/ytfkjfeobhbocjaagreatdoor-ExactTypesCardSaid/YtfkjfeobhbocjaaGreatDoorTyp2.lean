/- The type of the result of an operation: every operation, every list of types. -/
import Derived.Test.YtfkjfeobhbocjaaGreatDoorFind2
import Derived.Test.YtfkjfeobhbocjaaGreatDoorTyp
namespace Go.Proofs.YtfkjfeobhbocjaaGreatDoor
open Go.RowKit Go.Deep

def isTy (t : Int) : Bool := decide (1 ≤ t) && decide (t ≤ 4)
def isNum (t : Int) : Bool := t == 2 || t == 3
def cmT (a b : Int) : Int := if a = 0 ∨ a = b then b else if isNum a = true ∧ isNum b = true then 3 else 0

theorem c_isTypeB (t : Int) (w : World) :
    Calls Tryz.prog 34 #[.int .i64 t] w fun e w' => e = .returned (.bool (isTy t)) ∧ w = w' := by
  unfold isTy
  by_cases h1 : 1 ≤ t
  · have h1' : decide (1 ≤ t) = true := by simpa using h1
    rw [h1']
    go_enter Tryz.func34, Tryz.ntmps34
    go_wp2
    go_ret
    exact ⟨rfl, rfl⟩
  · have h1' : decide (1 ≤ t) = false := by simpa using h1
    rw [h1']
    go_enter Tryz.func34, Tryz.ntmps34
    go_wp2
    go_ret
    exact ⟨rfl, rfl⟩

theorem c_isNumericB (t : Int) (w : World) :
    Calls Tryz.prog 68 #[.int .i64 t] w fun e w' => e = .returned (.bool (isNum t)) ∧ w = w' := by
  unfold isNum
  by_cases h1 : t = 2
  · subst h1
    go_enter Tryz.func68, Tryz.ntmps68
    go_wp2
    go_ret
    exact ⟨rfl, rfl⟩
  · have h1' : (t == 2) = false := by rw [beq_eq_false_iff_ne]; exact h1
    rw [h1']
    go_enter Tryz.func68, Tryz.ntmps68
    go_wp2
    go_ret
    exact ⟨rfl, rfl⟩

theorem c_commonTypeB (a b : Int) (w : World) :
    Calls Tryz.prog 69 #[.int .i64 a, .int .i64 b] w fun e w' => e = .returned (.int .i64 (cmT a b)) ∧ w = w' := by
  unfold cmT
  by_cases h1 : a = 0
  · subst h1
    rw [if_pos (.inl rfl)]
    go_enter Tryz.func69, Tryz.ntmps69
    go_wp2
    go_ret
    exact ⟨rfl, rfl⟩
  · have h1' : (a == 0) = false := by rw [beq_eq_false_iff_ne]; exact h1
    by_cases h2 : a = b
    · subst h2
      have h2' : (a == a) = true := by simp
      rw [if_pos (.inr rfl)]
      go_enter Tryz.func69, Tryz.ntmps69
      go_wp2
      go_ret
      exact ⟨rfl, rfl⟩
    · have h2' : (a == b) = false := by rw [beq_eq_false_iff_ne]; exact h2
      rw [if_neg (by omega)]
      have HA := Lib.hid (c_isNumericB a w)
      have HB := Lib.hid (c_isNumericB b w)
      generalize isNum a = p at *
      generalize isNum b = q at *
      cases p <;> cases q
      all_goals
        go_enter Tryz.func69, Tryz.ntmps69
        go_wp2_with fail
        refine HA.out.mono ?_
        rintro e w1 ⟨rfl, rfl⟩
        go_wp2_with fail
        first
        | (refine HB.out.mono ?_
           rintro e w2 ⟨rfl, rfl⟩
           go_wp2
           go_ret
           exact ⟨rfl, rfl⟩)
        | (go_ret
           exact ⟨rfl, rfl⟩)

def stepT (nd sh t : Int) : Option Int := if nd = 2 then (if t = 1 then some sh else none) else if nd = 3 then (if isNum t = true then some (cmT sh t) else none) else if nd = 4 then (if cmT sh t = 0 then none else some (cmT sh t)) else some sh
def foldT (nd ts : Nat → Int) : Nat → Option Int
  | 0 => some 0
  | k + 1 => (foldT nd ts k).bind fun sh => stepT (nd k) sh (ts k)
theorem foldT_none {nd ts : Nat → Int} {k n : Nat} (h : foldT nd ts k = none) (hn : k ≤ n) : foldT nd ts n = none := by
  induction n with
  | zero =>
    obtain rfl : k = 0 := by omega
    exact h
  | succ n ih =>
    by_cases e : k = n + 1
    · rw [← e]; exact h
    · rw [foldT, ih (by omega)]; rfl
def shRes (o : Option Int) : Value := match o with | some s => .tuple #[.int .i64 s, .bool true] | none => .tuple #[.int .i64 0, .bool false]
def n3 (n1 n2 n3 : Int) (k : Nat) : Int := if k = 0 then n1 else if k = 1 then n2 else n3

set_option maxRecDepth 100000 in
set_option maxHeartbeats 4000000 in
theorem c_sharedT (w : World) (A : Option Addr) (n cap : Nat) (c n1 n2 m3 r : Int) (l : Bool) (F : Value) (ts : Nat → Int) (hn : n ≤ 3) (h : 0 < n → ∃ b o, A = some ⟨b, o, none⟩ ∧ b < w.heap.size ∧ ∀ k, k < n → w.cell? ⟨b, o + k, none⟩ = some (.int .i64 (ts k))) :
    Calls Tryz.prog 35 #[.agg #[.int .i64 c, .int .i64 n1, .int .i64 n2, .int .i64 m3, .int .i64 r, .bool l, F], .slice A n cap] w fun e w' => e = .returned (shRes (foldT (n3 n1 n2 m3) ts n)) ∧ Below w.heap.size w w' := by
  go_enter Tryz.func35, Tryz.ntmps35
  go_wp2
  have hrow := heap_alloc_new w (.cells #[.int .i64 c, .int .i64 n1, .int .i64 n2, .int .i64 m3, .int .i64 r, .bool l, F] 66)
  have B0 : Below w.heap.size w (w.alloc (.cells #[.int .i64 c, .int .i64 n1, .int .i64 n2, .int .i64 m3, .int .i64 r, .bool l, F] 66)) := (Below.refl _ _).alloc (Nat.le_refl _) _
  generalize w.alloc (.cells #[.int .i64 c, .int .i64 n1, .int .i64 n2, .int .i64 m3, .int .i64 r, .bool l, F] 66) = W0 at *
  have HN : Hid (∀ k, k < 3 → W0.cell? ⟨w.heap.size, 1 + k, none⟩ = some (.int .i64 (n3 n1 n2 m3 k))) := fun k hk => by
    match k, hk with
    | 0, _ => rw [cell_of_row _ _ _ _ _ _ hrow]; rfl
    | 1, _ => rw [cell_of_row _ _ _ _ _ _ hrow]; rfl
    | 2, _ => rw [cell_of_row _ _ _ _ _ _ hrow]; rfl
  have HT : Hid (∀ k, k < n → ∃ b o, A = some ⟨b, o, none⟩ ∧ W0.cell? ⟨b, o + k, none⟩ = some (.int .i64 (ts k))) := fun k hk => by
    obtain ⟨b, o, h1, h2, h3⟩ := h (by omega)
    exact ⟨b, o, h1, (B0.cell (p := ⟨b, o + k, none⟩) h2).trans (h3 k hk)⟩
  have HB := Lib.hid B0
  clear h hrow B0
  go_loop [6, 11] (fun s i => ∃ (k : Nat) (sh : Int), k ≤ n ∧ i = .int .i64 k ∧ s = .int .i64 sh ∧ Hid (foldT (n3 n1 n2 m3) ts k = some sh)) (fun _ i => n - (intOf i).toNat)
  case atStart => exact ⟨0, 0, Nat.zero_le _, rfl, rfl, rfl⟩
  case round =>
    obtain ⟨k, sh, hk, rfl, rfl, HF⟩ := hrel
    by_cases hlt : k < n
    · obtain ⟨b, o, rfl, hc⟩ := HT.out k hlt
      have hk3 : k < 3 := by omega
      have hd := HN.out k hk3
      have HS : Hid (foldT (n3 n1 n2 m3) ts (k + 1) = stepT (n3 n1 n2 m3 k) sh (ts k)) := by show _ = _; rw [foldT, HF.out]; rfl
      have HX : Hid (∀ s, stepT (n3 n1 n2 m3 k) sh (ts k) = none → foldT (n3 n1 n2 m3) ts n = none ∨ s = 0) := fun s e => .inl (foldT_none (k := k + 1) (by rw [HS.out, e]) (by omega))
      have HC := Lib.hid (c_commonTypeB sh (ts k) W0)
      have HNm := Lib.hid (c_isNumericB (ts k) W0)
      generalize n3 n1 n2 m3 k = nd at *
      generalize ts k = t at *
      by_cases e2 : nd = 2
      · subst e2
        by_cases e1 : t = 1
        · subst e1
          go_wp2
          go_round
          case rel => exact ⟨k + 1, sh, by omega, by go_num, rfl, by show _ = _; rw [HS.out]; rfl⟩
          case measure => simp [intOf]; omega
        · have e1' : (t != 1) = true := by rw [bne_iff_ne]; exact e1
          have HE : Hid (foldT (n3 n1 n2 m3) ts n = none) := foldT_none (k := k + 1) (by rw [HS.out]; simp [stepT, e1]) (by omega)
          go_wp2
          go_ret2
          exact ⟨by rw [HE.out]; rfl, HB.out⟩
      · have e2' : (nd == 2) = false := by rw [beq_eq_false_iff_ne]; exact e2
        by_cases e3 : nd = 3
        · subst e3
          by_cases e1 : isNum t = true
          · have HE : Hid (stepT 3 sh t = some (cmT sh t)) := by show _ = _; simp [stepT, e1]
            rw [e1] at HNm
            go_wp2_with fail
            refine HNm.out.mono ?_
            rintro e w1 ⟨rfl, rfl⟩
            go_wp2_with fail
            refine HC.out.mono ?_
            rintro e w1 ⟨rfl, rfl⟩
            go_wp2
            go_round
            case rel => exact ⟨k + 1, cmT sh t, by omega, by go_num, rfl, by show _ = _; rw [HS.out, HE.out]⟩
            case measure => simp [intOf]; omega
          · have HE : Hid (foldT (n3 n1 n2 m3) ts n = none) := foldT_none (k := k + 1) (by rw [HS.out]; simp [stepT, e1]) (by omega)
            have e1' : isNum t = false := by simpa using e1
            rw [e1'] at HNm
            go_wp2_with fail
            refine HNm.out.mono ?_
            rintro e w1 ⟨rfl, rfl⟩
            go_wp2
            go_ret2
            exact ⟨by rw [HE.out]; rfl, HB.out⟩
        · have e3' : (nd == 3) = false := by rw [beq_eq_false_iff_ne]; exact e3
          by_cases e4 : nd = 4
          · subst e4
            by_cases e1 : cmT sh t = 0
            · have HE : Hid (foldT (n3 n1 n2 m3) ts n = none) := foldT_none (k := k + 1) (by rw [HS.out]; simp [stepT, e1]) (by omega)
              rw [e1] at HC
              go_wp2_with fail
              refine HC.out.mono ?_
              rintro e w1 ⟨rfl, rfl⟩
              go_wp2
              go_ret2
              exact ⟨by rw [HE.out]; rfl, HB.out⟩
            · have HE : Hid (stepT 4 sh t = some (cmT sh t)) := by show _ = _; simp [stepT, e1]
              have e1' : (cmT sh t == 0) = false := by rw [beq_eq_false_iff_ne]; exact e1
              generalize cmT sh t = cm at *
              go_wp2_with fail
              refine HC.out.mono ?_
              rintro e w1 ⟨rfl, rfl⟩
              go_wp2
              go_round
              case rel => exact ⟨k + 1, cm, by omega, by go_num, rfl, by show _ = _; rw [HS.out, HE.out]⟩
              case measure => simp [intOf]; omega
          · have e4' : (nd == 4) = false := by rw [beq_eq_false_iff_ne]; exact e4
            have HE : Hid (stepT nd sh t = some sh) := by show _ = _; simp [stepT, e2, e3, e4]
            go_wp2
            go_round
            case rel => exact ⟨k + 1, sh, by omega, by go_num, rfl, by show _ = _; rw [HS.out, HE.out]⟩
            case measure => simp [intOf]; omega
    · obtain rfl : k = n := by omega
      go_wp2
      go_ret2
      exact ⟨by rw [HF.out]; rfl, HB.out⟩
end Go.Proofs.YtfkjfeobhbocjaaGreatDoor

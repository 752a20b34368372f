/- The document's own words on the type of a result. -/
import Derived.Test.YtfkjfeobhbocjaaGreatDoorTyp4
namespace Go.Proofs.YtfkjfeobhbocjaaGreatDoor
open Go.RowKit Go.Deep

theorem r_operands (w : World) (op : Int) : Calls Tryz.prog 36 #[.int .i64 op] w fun e w' => e = .returned (.int .i64 (opn op)) ∧ w = w' := by
  by_cases h1 : 4 ≤ op ∧ op ≤ 8
  · have H : Hid (opn op = 1) := if_pos h1
    obtain ⟨h1, h2⟩ := h1
    go_enter Tryz.func36, Tryz.ntmps36
    go_wp2
    go_ret
    exact ⟨by rw [H.out]; rfl, rfl⟩
  by_cases h2 : 9 ≤ op ∧ op ≤ 21
  · have H : Hid (opn op = 2) := by show _ = _; unfold opn; rw [if_neg h1, if_pos h2]
    obtain ⟨h2, h3⟩ := h2
    have h4 : 4 ≤ op := by omega
    have h5 : ¬ op ≤ 8 := by omega
    clear h1
    go_enter Tryz.func36, Tryz.ntmps36
    go_wp2
    go_ret
    exact ⟨by rw [H.out]; rfl, rfl⟩
  by_cases h3 : op = 22
  · subst h3
    go_enter Tryz.func36, Tryz.ntmps36
    go_wp2
    go_ret
    exact ⟨rfl, rfl⟩
  · have H : Hid (opn op = 0) := by show _ = _; unfold opn; rw [if_neg h1, if_neg h2, if_neg h3]
    have h3' : (op == 22) = false := by rw [beq_eq_false_iff_ne]; exact h3
    by_cases h4 : op < 4
    · have h5 : ¬ 4 ≤ op := by omega
      have h6 : ¬ 9 ≤ op := by omega
      clear h1 h2
      go_enter Tryz.func36, Tryz.ntmps36
      go_wp2
      go_ret
      exact ⟨by rw [H.out]; rfl, rfl⟩
    · have h5 : 4 ≤ op := by omega
      have h6 : ¬ op ≤ 8 := by omega
      have h7 : 9 ≤ op := by omega
      have h8 : ¬ op ≤ 21 := by omega
      clear h1 h2
      go_enter Tryz.func36, Tryz.ntmps36
      go_wp2
      go_ret
      exact ⟨by rw [H.out]; rfl, rfl⟩

theorem r_numeric (t : Int) (w : World) : Calls Tryz.prog 70 #[.int .i64 t] w fun e w' => e = .returned (.bool (isNum t)) ∧ w = w' := by
  unfold isNum
  by_cases h1 : t = 2
  · subst h1
    go_enter Tryz.func70, Tryz.ntmps70
    go_wp2
    go_ret
    exact ⟨rfl, rfl⟩
  · have h1' : (t == 2) = false := by rw [beq_eq_false_iff_ne]; exact h1
    rw [h1']
    go_enter Tryz.func70, Tryz.ntmps70
    go_wp2
    go_ret
    exact ⟨rfl, rfl⟩

def shT (a b : Int) : Int := if a = b then a else if isNum a = true ∧ isNum b = true then 3 else 0
theorem r_shared (a b : Int) (w : World) : Calls Tryz.prog 71 #[.int .i64 a, .int .i64 b] w fun e w' => e = .returned (.int .i64 (shT a b)) ∧ w = w' := by
  unfold shT
  by_cases h2 : a = b
  · subst h2
    have h2' : (a == a) = true := by simp
    rw [if_pos rfl]
    go_enter Tryz.func71, Tryz.ntmps71
    go_wp2
    go_ret
    exact ⟨rfl, rfl⟩
  · have h2' : (a == b) = false := by rw [beq_eq_false_iff_ne]; exact h2
    rw [if_neg h2]
    have HA := Lib.hid (r_numeric a w)
    have HB := Lib.hid (r_numeric b w)
    generalize isNum a = p at *
    generalize isNum b = q at *
    cases p <;> cases q
    all_goals
      go_enter Tryz.func71, Tryz.ntmps71
      go_wp2_with fail
      refine HA.out.mono ?_
      rintro e w1 ⟨rfl, rfl⟩
      go_wp2_with fail
      first
      | (refine HB.out.mono ?_
         rintro e w2 ⟨rfl, rfl⟩
         go_wp2
         go_ret
         exact ⟨rfl, rfl⟩)
      | (go_ret
         exact ⟨rfl, rfl⟩)
end Go.Proofs.YtfkjfeobhbocjaaGreatDoor

/- Dividing natural numbers of any size: what each call returns. -/
import Derived.Test.YthppcklegdnjdaaGreatDoorZLong
import Derived.Test.YthppcklegdnjdaaGreatDoorZDivG
namespace Go.Proofs.YthppcklegdnjdaaGreatDoor
open Go.RowKit Go.Deep

set_option maxHeartbeats 1000000 in
theorem g_divided (w : World) (v v' : Value) (x y : Nat) (h : NatAt w v x) (h' : NatAt w v' y) (hn : nw x ≤ 1000000000) (hy : 0 < y) :
    Calls Tryz.prog 58 #[v, v'] w (NatRet2 w (x / y) (x % y)) := by
  by_cases hw : y < W64
  · exact n_divided w v v' x y h h' hn hy ⟨hw, divAll_word x y (nw x) hy hw⟩
  have HC := Lib.hid (n_compare w v v' x y h h' hn)
  rcases Nat.lt_or_ge x y with hlt | hge
  · have H0 : Hid (x / y = 0 ∧ x % y = x) := ⟨Nat.div_eq_of_lt hlt, Nat.mod_eq_of_lt hlt⟩
    go_enter Tryz.func58, Tryz.ntmps58
    go_wp2_with fail
    refine HC.out.mono ?_
    rintro e w' ⟨rfl, n, rfl⟩
    rw [cmpN_lt hlt]
    go_wp2
    go_ret2
    exact ⟨_, _, rfl, by rw [H0.out.1]; exact NatAt.zero _, by rw [H0.out.2]; exact h.drewN n, Below.drewN_ (Below.refl _ _) n⟩
  · have hny : 2 ≤ nw y := by
      have := nw_le_one y
      omega
    obtain ⟨A, c, rfl, h1, h2, h3⟩ := h
    obtain ⟨A', c', rfl, h1', h2', h3'⟩ := h'
    have HL : Hid (∀ n, Calls Tryz.prog 96 #[.slice A (nw x) c, .slice A' (nw y) c'] (w.drewN n) (NatRet2 (w.drewN n) (x / y) (x % y))) := fun n => c_longDivided (w.drewN n) A A' c c' x y (nw y) (nw x) h3 h3' rfl rfl hny hge hn
    have hcm : cmpN x y = 0 ∨ cmpN x y = 1 := by
      rcases Nat.lt_or_eq_of_le hge with h5 | h5
      · exact .inr (cmpN_gt h5)
      · subst h5; exact .inl (cmpN_eq _)
    have hcm0 : 0 ≤ cmpN x y := by rcases hcm with h5 | h5 <;> rw [h5] <;> omega
    have h21 : ((nw y : Int) == 1) = false := by rw [beq_eq_false_iff_ne]; omega
    clear hcm h3 h3' h1 h2 h1' h2' hny hge hw
    generalize cmpN x y = cm at *
    generalize nw x = m at *
    generalize nw y = m' at *
    go_enter Tryz.func58, Tryz.ntmps58
    go_wp2_with fail
    refine HC.out.mono ?_
    rintro e w' ⟨rfl, n, rfl⟩
    clear HC
    go_wp2_with fail
    refine (HL.out n).mono ?_
    rintro e w1 ⟨q, r, rfl, hq, hr, hb⟩
    go_wp2
    go_ret2
    exact ⟨q, r, rfl, hq, hr, (Below.drewN_ (Below.refl _ _) n).trans hb⟩
set_option maxHeartbeats 1000000 in
theorem g_by (w : World) (v v' : Value) (x y : Nat) (h : NatAt w v x) (h' : NatAt w v' y) (hn : nw x ≤ 1000000000) (hy : 0 < y) :
    Calls Tryz.prog 91 #[v, v'] w (NatRet w (x / y)) := by
  have HC := Lib.hid (n_isOne w v' y h')
  have HDv := Lib.hid (g_divided w v v' x y h h' hn hy)
  by_cases h1 : y = 1
  · have H1 : Hid (x / y = x) := by show _ = _; rw [h1, Nat.div_one]
    have HB : Hid (isOneB y = true) := by show (y == 1) = true; simp [h1]
    clear h1
    go_enter Tryz.func91, Tryz.ntmps91
    go_wp2_with fail
    refine HC.out.mono ?_
    rintro e w' ⟨rfl, rfl⟩
    rw [HB.out]
    go_wp2
    go_ret
    exact ⟨v, rfl, by rw [H1.out]; exact h, Below.refl _ _⟩
  · have HB : Hid (isOneB y = false) := by show (y == 1) = false; simp [h1]
    clear h1
    go_enter Tryz.func91, Tryz.ntmps91
    go_wp2_with fail
    refine HC.out.mono ?_
    rintro e w' ⟨rfl, rfl⟩
    rw [HB.out]
    go_wp2_with fail
    refine HDv.out.mono ?_
    rintro e w1 ⟨q, r, rfl, hq, hr, hb⟩
    go_wp2
    go_ret
    exact ⟨q, rfl, hq, hb⟩
end Go.Proofs.YthppcklegdnjdaaGreatDoor

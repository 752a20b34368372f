/- Comparing, cutting zeros, adding and subtracting natural numbers: what each call returns, for slices that hold the words of a number. -/
import Derived.Test.YthppcklegdnjdaaGreatDoorZLeaf
namespace Go.Proofs.YthppcklegdnjdaaGreatDoor
open Go.RowKit

theorem dr2 (w : World) (a b : Nat) : ∃ n, (w.drewN a).drewN b = w.drewN n := ⟨a + b, World.drewN_drewN _ _ _⟩
theorem dr3 (w : World) (a b c : Nat) : ∃ n, ((w.drewN a).drewN b).drewN c = w.drewN n := ⟨a + b + c, by rw [World.drewN_drewN, World.drewN_drewN, Nat.add_assoc]⟩

set_option maxHeartbeats 400000 in
theorem c_compare (w : World) (B : Nat) (A A' : Option Addr) (c c' x y : Nat) (h : Wd w B A (nw x) (dig x)) (h' : Wd w B A' (nw y) (dig y)) (hn : nw x ≤ 9223372036854775807) :
    Calls Tryz.prog 70 #[.slice A (nw x) c, .slice A' (nw y) c'] w fun e w' => e = .returned (.int .i64 (cmpN x y)) ∧ ∃ n, w' = w.drewN n := by
  rcases Nat.lt_trichotomy (nw x) (nw y) with hlt | heq | hgt
  · have H : Hid (cmpN x y = -1) := cmpN_lt (lt_of_nw hlt)
    have h2 : ((nw x : Int) != (nw y : Int)) = true := by rw [bne_iff_ne]; omega
    generalize nw x = m at *
    generalize nw y = m' at *
    clear h h'
    go_enter Tryz.func70, Tryz.ntmps70
    go_wp2
    go_ret
    exact ⟨by rw [H.out]; rfl, 0, rfl⟩
  · rw [← heq] at h' ⊢
    have HX : Hid (x < W64 ^ nw x) := lt_nw x
    have HY : Hid (y < W64 ^ nw x) := by show y < W64 ^ nw x; rw [heq]; exact lt_nw y
    clear heq
    generalize nw x = m at *
    have h2 : ((m : Int) != (m : Int)) = false := by simp
    go_enter Tryz.func70, Tryz.ntmps70
    go_wp2
    go_loopw [5] (fun i wr => (i = .int .i64 (-1) ∧ x = y ∧ ∃ n, wr = w.drewN n) ∨ ∃ j : Nat, j < m ∧ i = .int .i64 j ∧ x / W64 ^ (j + 1) = y / W64 ^ (j + 1) ∧ ∃ n, wr = w.drewN n) (fun i _ => (intOf i + 1).toNat)
    case atStart =>
      by_cases hm : m = 0
      · subst hm
        have := HX.out
        have := HY.out
        refine .inl ⟨by simp, ?_, 0, rfl⟩
        simp at *
        omega
      · refine .inr ⟨m - 1, by omega, by rw [show ((m - 1 : Nat) : Int) = (m : Int) - 1 by omega], ?_, 0, rfl⟩
        rw [show m - 1 + 1 = m by omega, Nat.div_eq_of_lt HX.out, Nat.div_eq_of_lt HY.out]
    case round =>
      rcases hrel with ⟨rfl, hxy, n, rfl⟩ | ⟨j, hj, rfl, hd, n, rfl⟩
      · have H : Hid (cmpN x y = 0) := by show cmpN x y = 0; rw [hxy]; exact cmpN_eq y
        clear hxy
        go_wp2
        go_ret
        exact ⟨by rw [H.out]; rfl, n, rfl⟩
      · obtain ⟨b, o, rfl, hc⟩ := h.at_ hj
        obtain ⟨b', o', rfl, hc'⟩ := h'.at_ hj
        have HD := Lib.hid hd; clear hd
        rcases Nat.lt_trichotomy (dig x j) (dig y j) with hl | he | hl
        · have H : Hid (cmpN x y = -1) := cmpN_lt (lt_of_dig x y j HD.out hl)
          generalize dig x j = u at *
          generalize dig y j = v at *
          clear h h'
          go_wp2
          go_quiet (fail)
          go_wp2
          go_ret
          exact ⟨by rw [H.out]; rfl, by first | exact ⟨_, rfl⟩ | exact dr2 _ _ _ | exact dr3 _ _ _ _⟩
        · have HE := Lib.hid (div_of_dig x y j HD.out he)
          rw [← he] at hc'
          clear he
          generalize dig x j = u at *
          clear h h'
          go_wp2
          go_quiet (fail)
          go_wp2
          go_quiet (fail)
          go_wp2
          go_roundw
          case rel =>
            by_cases hj0 : j = 0
            · subst hj0
              exact .inl ⟨by simp, by simpa using HE.out, by first | exact ⟨_, rfl⟩ | exact dr2 _ _ _ | exact dr3 _ _ _ _⟩
            · refine .inr ⟨j - 1, by omega, by rw [show ((j - 1 : Nat) : Int) = (j : Int) - 1 by omega], ?_, by first | exact ⟨_, rfl⟩ | exact dr2 _ _ _ | exact dr3 _ _ _ _⟩
              rw [show j - 1 + 1 = j by omega]
              exact HE.out
          case measure => simp [intOf]
        · have H : Hid (cmpN x y = 1) := by
            show cmpN x y = 1
            exact cmpN_gt (lt_of_dig y x j HD.out.symm hl)
          generalize dig x j = u at *
          generalize dig y j = v at *
          clear h h'
          go_wp2
          go_quiet (fail)
          go_wp2
          go_quiet (fail)
          go_wp2
          go_ret
          exact ⟨by rw [H.out]; rfl, by first | exact ⟨_, rfl⟩ | exact dr2 _ _ _ | exact dr3 _ _ _ _⟩
  · have H : Hid (cmpN x y = 1) := cmpN_gt (lt_of_nw hgt)
    have h2 : ((nw x : Int) != (nw y : Int)) = true := by rw [bne_iff_ne]; omega
    generalize nw x = m at *
    generalize nw y = m' at *
    clear h h'
    go_enter Tryz.func70, Tryz.ntmps70
    go_wp2
    go_ret
    exact ⟨by rw [H.out]; rfl, 0, rfl⟩

set_option maxHeartbeats 400000 in
theorem c_trimmed (w : World) (B : Nat) (A : Option Addr) (m c x : Nat) (h : Wd w B A m (dig x)) (hx : x < W64 ^ m) (hm : m ≤ c) (hc : c ≤ 9223372036854775807) :
    Calls Tryz.prog 69 #[.slice A m c] w fun e w' => e = .returned (.slice A (nw x) c) ∧ w = w' := by
  have HN : Hid (nw x ≤ m) := (nw_le x m).2 hx
  clear hx
  go_enter Tryz.func69, Tryz.ntmps69
  go_wp2
  go_loop [3] (fun i => ∃ k : Nat, k ≤ m ∧ nw x ≤ k ∧ i = .int .i64 k) (fun i => (intOf i).toNat)
  case atStart => exact ⟨m, Nat.le_refl _, HN.out, rfl⟩
  case round =>
    obtain ⟨k, hk, hn, rfl⟩ := hrel
    by_cases h0 : k = 0
    · subst h0
      have hn0 : nw x = 0 := by omega
      have H := Lib.hid hn0
      clear hn hn0 h
      go_wp2
      go_ret
      exact ⟨by rw [H.out]; rfl, rfl⟩
    · obtain ⟨j, rfl⟩ : ∃ j, k = j + 1 := ⟨k - 1, by omega⟩
      obtain ⟨b, o, rfl, hcell⟩ := h.at_ (k := j) (by omega)
      by_cases hd : dig x j = 0
      · have HL : Hid (nw x ≤ j) := (nw_le x j).2 (lt_pred x j ((nw_le x (j + 1)).1 hn) hd)
        rw [hd] at hcell
        clear hd hn h
        go_wp2
        go_round
        case rel => exact ⟨j, by omega, HL.out, by go_num⟩
        case measure => simp [intOf]
      · have he : nw x = j + 1 := nw_of x (j + 1) ((nw_le x (j + 1)).1 hn) (.inr (by simpa using ge_of_dig x j hd))
        have h2 : ((dig x j : Int) == 0) = false := by rw [beq_eq_false_iff_ne]; omega
        have H := Lib.hid he
        clear he hn h
        generalize dig x j = u at *
        go_wp2
        go_ret
        exact ⟨by rw [H.out]; rfl, rfl⟩
end Go.Proofs.YthppcklegdnjdaaGreatDoor

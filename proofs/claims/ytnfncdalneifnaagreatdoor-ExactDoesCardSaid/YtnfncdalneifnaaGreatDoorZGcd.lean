/- Greatest common divisors of natural numbers one of which is a word: what each call returns, said of values that hold a number. -/
import Derived.Test.YtnfncdalneifnaaGreatDoorZDiv
namespace Go.Proofs.YtnfncdalneifnaaGreatDoor
open Go.RowKit Go.Deep

/-- The value v is a slice that holds the words of x. -/
def NatAt (w : World) (v : Value) (x : Nat) : Prop := ∃ A c, v = .slice A (nw x) c ∧ nw x ≤ c ∧ c ≤ 9223372036854775807 ∧ Wd w w.heap.size A (nw x) (dig x)
theorem NatAt.below {w w' : World} {v : Value} {x : Nat} (h : NatAt w v x) (hb : Below w.heap.size w w') : NatAt w' v x := by
  obtain ⟨A, c, e, h1, h2, h3⟩ := h
  exact ⟨A, c, e, h1, h2, (h3.below hb).more hb.size⟩
theorem NatAt.drewN {w : World} {v : Value} {x : Nat} (h : NatAt w v x) (n : Nat) : NatAt (w.drewN n) v x := h
theorem NatAt.zero (w : World) : NatAt w (.slice none 0 0) 0 := ⟨none, 0, by rw [nw_zero], by rw [nw_zero]; omega, by omega, by rw [nw_zero]; exact Wd.zero⟩
theorem NatAt.one (w : World) (x : Nat) (h0 : 0 < x) (h1 : x < W64) : NatAt (w.alloc (.cells #[U x] 71)) (.slice (some ⟨w.heap.size, 0, none⟩) 1 1) x := by
  refine ⟨_, 1, by rw [nw_one x h0 h1], by rw [nw_one x h0 h1]; omega, by omega, ?_⟩
  rw [nw_one x h0 h1]
  intro _
  refine ⟨_, 0, rfl, by simp, fun k hk => ?_⟩
  obtain rfl : k = 0 := by omega
  rw [dig_small x h1]
  exact (World.rowIs_alloc w #[U x] 71 (fun _ => U x) (fun i hi => by
    have h9 : i = 0 := by simpa using hi
    subst h9
    rfl)).cell (i := 0) (by simp)
/-- A call that returned a number. -/
def NatRet (w : World) (x : Nat) (e : Ending) (w' : World) : Prop := ∃ u, e = .returned u ∧ NatAt w' u x ∧ Below w.heap.size w w'
theorem NatRes.ret {x : Nat} {w w' : World} {e : Ending} (h : NatRes x w e w') : NatRet w x e w' := by
  obtain ⟨A, c, h1, h2, h3, h4, h5⟩ := h
  exact ⟨_, h1, ⟨A, c, rfl, h2, h3, h4⟩, h5⟩

theorem n_plus (w : World) (v v' : Value) (x y : Nat) (h : NatAt w v x) (h' : NatAt w v' y) (hn : nw x ≤ 1000000000) (hn' : nw y ≤ 1000000000) :
    Calls Tryz.prog 46 #[v, v'] w (NatRet w (x + y)) := by
  obtain ⟨A, c, rfl, _, _, h3⟩ := h
  obtain ⟨A', c', rfl, _, _, h3'⟩ := h'
  exact (c_plus w _ A A' c c' x y h3 h3' (Nat.le_refl _) hn hn').mono fun _ _ h => h.ret
theorem n_minus (w : World) (v v' : Value) (x y : Nat) (h : NatAt w v x) (h' : NatAt w v' y) (hn : nw x ≤ 1000000000) (hle : y ≤ x) :
    Calls Tryz.prog 156 #[v, v'] w (NatRet w (x - y)) := by
  obtain ⟨A, c, rfl, _, _, h3⟩ := h
  obtain ⟨A', c', rfl, _, _, h3'⟩ := h'
  exact (c_minus w _ A A' c c' x y h3 h3' (Nat.le_refl _) hn hle).mono fun _ _ h => h.ret
theorem n_times (w : World) (v v' : Value) (x y : Nat) (h : NatAt w v x) (h' : NatAt w v' y) (hn : nw x ≤ 1000000000) (hn' : nw y ≤ 1000000000) :
    Calls Tryz.prog 94 #[v, v'] w (NatRet w (x * y)) := by
  obtain ⟨A, c, rfl, _, _, h3⟩ := h
  obtain ⟨A', c', rfl, _, _, h3'⟩ := h'
  exact (c_times w _ A A' c c' x y h3 h3' (Nat.le_refl _) hn hn').mono fun _ _ h => h.ret
theorem n_compare (w : World) (v v' : Value) (x y : Nat) (h : NatAt w v x) (h' : NatAt w v' y) (hn : nw x ≤ 1000000000) :
    Calls Tryz.prog 87 #[v, v'] w fun e w' => e = .returned (.int .i64 (cmpN x y)) ∧ ∃ n, w' = w.drewN n := by
  obtain ⟨A, c, rfl, _, _, h3⟩ := h
  obtain ⟨A', c', rfl, _, _, h3'⟩ := h'
  exact c_compare w _ A A' c c' x y h3 h3' (by omega)
theorem n_isOne (w : World) (v : Value) (x : Nat) (h : NatAt w v x) :
    Calls Tryz.prog 44 #[v] w fun e w' => e = .returned (.bool (isOneB x)) ∧ w = w' := by
  obtain ⟨A, c, rfl, _, _, h3⟩ := h
  exact c_isOne w _ A c x h3
theorem n_at (w : World) (v : Value) (x i : Nat) (h : NatAt w v x) :
    Calls Tryz.prog 90 #[v, .int .i64 i] w fun e w' => e = .returned (U (dig x i)) ∧ w = w' := by
  obtain ⟨A, c, rfl, _, _, h3⟩ := h
  exact c_atN w _ A (nw x) c i x h3 (lt_nw x)
theorem n_word (w : World) (x : Nat) (hx : x < W64) : Calls Tryz.prog 41 #[U x] w (NatRet w x) := by
  by_cases h : x = 0
  · subst h
    refine (c_word0 w).mono ?_
    rintro e w' ⟨rfl, rfl⟩
    exact ⟨_, rfl, NatAt.zero w, Below.refl _ _⟩
  · refine (c_word1 x w (by omega)).mono ?_
    rintro e w' ⟨rfl, rfl⟩
    exact ⟨_, rfl, NatAt.one w x (by omega) hx, (Below.refl _ _).alloc (Nat.le_refl _) _⟩

/-- Two numbers returned. -/
def NatRet2 (w : World) (x y : Nat) (e : Ending) (w' : World) : Prop := ∃ u v, e = .returned (.tuple #[u, v]) ∧ NatAt w' u x ∧ NatAt w' v y ∧ Below w.heap.size w w'
/-- What is asked for dividing: a divisor of one word whose divisions Div64 does right. -/
def Divs (x y : Nat) : Prop := y < W64 ∧ DivAll x y (nw x)

set_option maxHeartbeats 1000000 in
theorem n_divided (w : World) (v v' : Value) (x y : Nat) (h : NatAt w v x) (h' : NatAt w v' y) (hn : nw x ≤ 1000000000) (hy : 0 < y) (HD : Divs x y) :
    Calls Tryz.prog 45 #[v, v'] w (NatRet2 w (x / y) (x % y)) := by
  have HC := Lib.hid (n_compare w v v' x y h h' hn)
  rcases Nat.lt_or_ge x y with hlt | hge
  · have H0 : Hid (x / y = 0 ∧ x % y = x) := ⟨Nat.div_eq_of_lt hlt, Nat.mod_eq_of_lt hlt⟩
    go_enter Tryz.func45, Tryz.ntmps45
    go_wp2_with fail
    refine HC.out.mono ?_
    rintro e w' ⟨rfl, n, rfl⟩
    rw [cmpN_lt hlt]
    go_wp2
    go_ret2
    exact ⟨_, _, rfl, by rw [H0.out.1]; exact NatAt.zero _, by rw [H0.out.2]; exact h.drewN n, Below.drewN_ (Below.refl _ _) n⟩
  · obtain ⟨A, c, rfl, h1, h2, h3⟩ := h
    obtain ⟨A', c', rfl, h1', h2', h3'⟩ := h'
    have hny : nw y = 1 := nw_one y hy HD.1
    have hnx : 0 < nw x := (nw_pos x).2 (by omega)
    have HX : Hid (x < W64 ^ nw x) := lt_nw x
    have HNQ : Hid (x / y < W64 ^ nw x) := Nat.lt_of_le_of_lt (Nat.div_le_self x y) (lt_nw x)
    have HR : Hid (x % y < W64) := Nat.lt_trans (Nat.mod_lt x hy) HD.1
    have HDA : Hid (DivAll x y (nw x)) := HD.2
    have HN : Hid (nw (x / y) ≤ nw x) := nw_mono (Nat.div_le_self x y)
    obtain ⟨b', o', rfl, hlt', hcc⟩ := h3' (by omega)
    have hc' := hcc 0 (by omega)
    clear hcc
    rw [dig_small y HD.1, Nat.add_zero] at hc'
    rw [hny] at HC ⊢
    have hcm : cmpN x y = 0 ∨ cmpN x y = 1 := by
      rcases Nat.lt_or_eq_of_le hge with h5 | h5
      · exact .inr (cmpN_gt h5)
      · subst h5; exact .inl (cmpN_eq _)
    have hcm0 : 0 ≤ cmpN x y := by rcases hcm with h5 | h5 <;> rw [h5] <;> omega
    clear hcm h3' hny h1' h2' HD
    generalize cmpN x y = cm at *
    go_enter Tryz.func45, Tryz.ntmps45
    go_wp2_with fail
    refine HC.out.mono ?_
    rintro e w' ⟨rfl, n, rfl⟩
    clear HC
    go_wp2_with fail
    refine (c_Clone (w.drewN n) _ A (nw x) c (dig x) h3 (Nat.le_refl _) hnx hn).mono ?_
    rintro e w1 ⟨b, cap, F, rfl, hb, hcap, hcap2, hrow, hF, hbel⟩
    have hc1 : w1.cell? ⟨b', o', none⟩ = some (U y) := (hbel.cell (p := ⟨b', o', none⟩) hlt').trans hc'
    have HF := Lib.hid hF
    clear hF hc'
    go_wp2_with fail
    refine (c_divideInPlace w1 b (nw x) cap cap x y F hrow HF.out hcap hn HX.out hy HDA.out).mono ?_
    rintro e w2 ⟨F', rfl, hrow', hF', hbel', hsz'⟩
    have HF' := Lib.hid hF'
    have HSZ := Lib.hid hsz'
    clear hF' hsz' hc1
    go_wp2_with fail
    refine (c_trimmed w2 w2.heap.size (some ⟨b, 0, none⟩) (nw x) cap (x / y) (fun _ => ⟨b, 0, rfl, hrow'.lt, fun k hk => by rw [Nat.zero_add, hrow'.cell (by omega), HF'.out k hk]⟩) HNQ.out hcap hcap2).mono ?_
    rintro e w' ⟨rfl, rfl⟩
    go_wp2_with fail
    refine (n_word w2 (x % y) HR.out).mono ?_
    rintro e w3 ⟨u, rfl, hu, hbu⟩
    go_wp2
    go_ret2
    have hz2 : w2.heap.size = w1.heap.size := HSZ.out
    have hb12 : Below w.heap.size w w2 := ((Below.drewN_ (Below.refl _ _) n).trans hbel).trans (hbel'.mono hb)
    have hw2 : NatAt w2 (.slice (some ⟨b, 0, none⟩) (nw (x / y)) cap) (x / y) :=
      ⟨_, cap, rfl, Nat.le_trans HN.out hcap, hcap2, fun hk => ⟨b, 0, rfl, hrow'.lt, fun k hk => by rw [Nat.zero_add, hrow'.cell (by have := HN.out; omega), HF'.out k (by have := HN.out; omega)]⟩⟩
    exact ⟨_, u, rfl, hw2.below hbu, hu, hb12.trans (hbu.mono hb12.size)⟩

set_option maxHeartbeats 1000000 in
theorem n_by (w : World) (v v' : Value) (x y : Nat) (h : NatAt w v x) (h' : NatAt w v' y) (hn : nw x ≤ 1000000000) (hy : 0 < y) (HD : Divs x y) :
    Calls Tryz.prog 92 #[v, v'] w (NatRet w (x / y)) := by
  have HC := Lib.hid (n_isOne w v' y h')
  have HDv := Lib.hid (n_divided w v v' x y h h' hn hy HD)
  by_cases h1 : y = 1
  · have H1 : Hid (x / y = x) := by show _ = _; rw [h1, Nat.div_one]
    have HB : Hid (isOneB y = true) := by show (y == 1) = true; simp [h1]
    clear h1
    go_enter Tryz.func92, Tryz.ntmps92
    go_wp2_with fail
    refine HC.out.mono ?_
    rintro e w' ⟨rfl, rfl⟩
    rw [HB.out]
    go_wp2
    go_ret
    exact ⟨v, rfl, by rw [H1.out]; exact h, Below.refl _ _⟩
  · have HB : Hid (isOneB y = false) := by show (y == 1) = false; simp [h1]
    clear h1
    go_enter Tryz.func92, Tryz.ntmps92
    go_wp2_with fail
    refine HC.out.mono ?_
    rintro e w' ⟨rfl, rfl⟩
    rw [HB.out]
    go_wp2_with fail
    refine HDv.out.mono ?_
    rintro e w1 ⟨q, r, rfl, hq, hr, hb⟩
    go_wp2
    go_ret
    exact ⟨q, rfl, hq, hb⟩

/-- What is asked for the greatest common divisor: one of the two is 1; or one of the two is a word, and Div64 does the one division right. -/
def Gcds (x y : Nat) : Prop := (x = 1 ∨ y = 1) ∨ (min x y < W64 ∧ DivAll (max x y) (min x y) (nw (max x y)))

set_option maxHeartbeats 1000000 in
theorem n_gcd_low (w : World) (v v' : Value) (x y : Nat) (h : NatAt w v x) (h' : NatAt w v' y) (hn : nw x ≤ 1000000000) (hx1 : x ≠ 1) (hy1 : y ≠ 1) (hle : y ≤ x) (hy : y < W64) (HD : DivAll x y (nw x)) :
    Calls Tryz.prog 91 #[v, v'] w (NatRet w (Nat.gcd x y)) := by
  have HB : Hid (isOneB y = false) := by show (y == 1) = false; simp [hy1]
  have HBx : Hid (isOneB x = false) := by show (x == 1) = false; simp [hx1]
  have HCx := Lib.hid (n_isOne w v x h)
  have HCy := Lib.hid (n_isOne w v' y h')
  have HC := Lib.hid (n_compare w v v' x y h h' hn)
  have hcm : cmpN x y = 0 ∨ cmpN x y = 1 := by
    rcases Nat.lt_or_eq_of_le hle with h5 | h5
    · exact .inr (cmpN_gt h5)
    · subst h5; exact .inl (cmpN_eq _)
  have hcm0 : 0 ≤ cmpN x y := by rcases hcm with h5 | h5 <;> rw [h5] <;> omega
  clear hcm
  generalize cmpN x y = cm at *
  go_enter Tryz.func91, Tryz.ntmps91
  go_wp2_with fail
  refine HCx.out.mono ?_
  rintro e w' ⟨rfl, rfl⟩
  rw [HBx.out]
  go_wp2_with fail
  refine HCy.out.mono ?_
  rintro e w' ⟨rfl, rfl⟩
  rw [HB.out]
  go_wp2_with fail
  refine HC.out.mono ?_
  rintro e w' ⟨rfl, n, rfl⟩
  clear HC HCx HCy HB HBx
  obtain ⟨A', c', rfl, h1', h2', h3'⟩ := h'
  have hny : nw y ≤ 1 := (nw_le_one y).2 hy
  by_cases hy0 : y = 0
  · have HG : Hid (Nat.gcd x y = x) := by show _ = _; rw [hy0, Nat.gcd_zero_right]
    rw [show nw y = 0 by rw [hy0, nw_zero]]
    clear h3' h1' hny hy0 hle hy HD
    go_wp2
    refine wp_loop_rounds 1 ?_
    rw [rounds_succ]
    go_wp2
    go_ret
    exact ⟨v, rfl, by rw [HG.out]; exact h.drewN n, Below.drewN_ (Below.refl _ _) n⟩
  · have hnw : nw y = 1 := nw_one y (by omega) hy
    have HG : Hid (Nat.gcd y (x % y) = Nat.gcd x y) := by
      show _ = _
      rw [Nat.gcd_comm x y, Nat.gcd_rec y x, Nat.gcd_comm]
    have hgl : Nat.gcd y (x % y) < W64 := Nat.lt_of_le_of_lt (Nat.gcd_le_left _ (by omega)) hy
    have hrl : x % y < W64 := Nat.lt_trans (Nat.mod_lt x (by omega)) hy
    have HDv := Lib.hid (n_divided (w.drewN n) v (.slice A' (nw y) c') x y (h.drewN n) ⟨A', c', rfl, h1', h2', h3'⟩ hn (by omega) ⟨hy, HD⟩)
    obtain ⟨b', o', rfl, hlt', hcc⟩ := h3' (by omega)
    have hc' := hcc 0 (by omega)
    clear hcc h3'
    rw [dig_small y hy, Nat.add_zero] at hc'
    rw [hnw] at HDv ⊢
    clear hnw h1' hny hle HD
    go_wp2
    refine wp_loop_rounds 1 ?_
    rw [rounds_succ]
    go_wp2_with fail
    refine HDv.out.mono ?_
    rintro e w1 ⟨q, r, rfl, _, hr, hb⟩
    have hc1 : w1.cell? ⟨b', o', none⟩ = some (U y) := (hb.cell (p := ⟨b', o', none⟩) hlt').trans hc'
    have hz : w.heap.size ≤ w1.heap.size := hb.size
    have HR : Hid (Calls Tryz.prog 90 #[r, .int .i64 0] w1.drew fun e w' => e = .returned (U (x % y)) ∧ w1.drew = w') := by
      have h9 := n_at w1.drew r (x % y) 0 hr
      rw [dig_small _ hrl] at h9
      exact h9
    clear hc' HDv
    go_wp2_with fail
    go_region_with (first | (go_at_call 90; refine HR.out.mono ?_; rintro e w' ⟨rfl, rfl⟩) | (go_at_call 39; refine (c_commonWord y (x % y) _).mono ?_; rintro e w' ⟨rfl, n2, rfl⟩) | (go_at_call 41; refine (n_word _ _ hgl).mono ?_; rintro e w2 ⟨u, rfl, hu, hbu⟩))
    all_goals
      go_wp2
      go_ret
      refine ⟨u, rfl, by rw [← HG.out]; exact hu, ?_⟩
      exact ((Below.drewN_ (Below.refl _ _) n).trans hb).trans ((Below.drewN_ (Below.refl _ _) _).trans (hbu.mono hz))
set_option maxHeartbeats 1000000 in
theorem n_gcd_swap (w : World) (v v' : Value) (x y : Nat) (h : NatAt w v x) (h' : NatAt w v' y) (hn : nw x ≤ 1000000000) (hx1 : x ≠ 1) (hy1 : y ≠ 1) (hlt : y < x) (hy : y < W64) (HD : DivAll x y (nw x)) :
    Calls Tryz.prog 91 #[v', v] w (NatRet w (Nat.gcd x y)) := by
  have HB : Hid (isOneB y = false) := by show (y == 1) = false; simp [hy1]
  have HBx : Hid (isOneB x = false) := by show (x == 1) = false; simp [hx1]
  have HCx := Lib.hid (n_isOne w v x h)
  have HCy := Lib.hid (n_isOne w v' y h')
  have HC := Lib.hid (n_compare w v' v y x h' h (Nat.le_trans (nw_mono (by omega)) hn))
  rw [cmpN_lt hlt] at HC
  go_enter Tryz.func91, Tryz.ntmps91
  go_wp2_with fail
  refine HCy.out.mono ?_
  rintro e w' ⟨rfl, rfl⟩
  rw [HB.out]
  go_wp2_with fail
  refine HCx.out.mono ?_
  rintro e w' ⟨rfl, rfl⟩
  rw [HBx.out]
  go_wp2_with fail
  refine HC.out.mono ?_
  rintro e w' ⟨rfl, n, rfl⟩
  clear HC HCx HCy HB HBx
  obtain ⟨A', c', rfl, h1', h2', h3'⟩ := h'
  have hny : nw y ≤ 1 := (nw_le_one y).2 hy
  by_cases hy0 : y = 0
  · have HG : Hid (Nat.gcd x y = x) := by show _ = _; rw [hy0, Nat.gcd_zero_right]
    rw [show nw y = 0 by rw [hy0, nw_zero]]
    clear h3' h1' hny hy0 hlt hy HD
    go_wp2
    refine wp_loop_rounds 1 ?_
    rw [rounds_succ]
    go_wp2
    go_ret
    exact ⟨v, rfl, by rw [HG.out]; exact h.drewN n, Below.drewN_ (Below.refl _ _) n⟩
  · have hnw : nw y = 1 := nw_one y (by omega) hy
    have HG : Hid (Nat.gcd y (x % y) = Nat.gcd x y) := by
      show _ = _
      rw [Nat.gcd_comm x y, Nat.gcd_rec y x, Nat.gcd_comm]
    have hgl : Nat.gcd y (x % y) < W64 := Nat.lt_of_le_of_lt (Nat.gcd_le_left _ (by omega)) hy
    have hrl : x % y < W64 := Nat.lt_trans (Nat.mod_lt x (by omega)) hy
    have HDv := Lib.hid (n_divided (w.drewN n) v (.slice A' (nw y) c') x y (h.drewN n) ⟨A', c', rfl, h1', h2', h3'⟩ hn (by omega) ⟨hy, HD⟩)
    obtain ⟨b', o', rfl, hlt', hcc⟩ := h3' (by omega)
    have hc' := hcc 0 (by omega)
    clear hcc h3'
    rw [dig_small y hy, Nat.add_zero] at hc'
    rw [hnw] at HDv ⊢
    clear hnw h1' hny hlt HD
    go_wp2
    refine wp_loop_rounds 1 ?_
    rw [rounds_succ]
    go_wp2_with fail
    refine HDv.out.mono ?_
    rintro e w1 ⟨q, r, rfl, _, hr, hb⟩
    have hc1 : w1.cell? ⟨b', o', none⟩ = some (U y) := (hb.cell (p := ⟨b', o', none⟩) hlt').trans hc'
    have hz : w.heap.size ≤ w1.heap.size := hb.size
    have HR : Hid (Calls Tryz.prog 90 #[r, .int .i64 0] w1.drew fun e w' => e = .returned (U (x % y)) ∧ w1.drew = w') := by
      have h9 := n_at w1.drew r (x % y) 0 hr
      rw [dig_small _ hrl] at h9
      exact h9
    clear hc' HDv
    go_wp2_with fail
    go_region_with (first | (go_at_call 90; refine HR.out.mono ?_; rintro e w' ⟨rfl, rfl⟩) | (go_at_call 39; refine (c_commonWord y (x % y) _).mono ?_; rintro e w' ⟨rfl, n2, rfl⟩) | (go_at_call 41; refine (n_word _ _ hgl).mono ?_; rintro e w2 ⟨u, rfl, hu, hbu⟩))
    all_goals
      go_wp2
      go_ret
      refine ⟨u, rfl, by rw [← HG.out]; exact hu, ?_⟩
      exact ((Below.drewN_ (Below.refl _ _) n).trans hb).trans ((Below.drewN_ (Below.refl _ _) _).trans (hbu.mono hz))

set_option maxHeartbeats 1000000 in
theorem n_gcd_one (w : World) (v v' : Value) (x y : Nat) (h : NatAt w v x) (h' : NatAt w v' y) (hxy : x = 1 ∨ y = 1) :
    Calls Tryz.prog 91 #[v, v'] w (NatRet w (Nat.gcd x y)) := by
  have HG : Hid (Nat.gcd x y = 1) := by
    show _ = _
    rcases hxy with h1 | h1
    · rw [h1, Nat.gcd_one_left]
    · rw [h1, Nat.gcd_one_right]
  have HCx := Lib.hid (n_isOne w v x h)
  have HCy := Lib.hid (n_isOne w v' y h')
  have HW := Lib.hid (n_word w 1 (by decide))
  by_cases hx1 : x = 1
  · have HBx : Hid (isOneB x = true) := by show (x == 1) = true; simp [hx1]
    clear hx1 hxy h h'
    go_enter Tryz.func91, Tryz.ntmps91
    go_wp2_with fail
    refine HCx.out.mono ?_
    rintro e w' ⟨rfl, rfl⟩
    rw [HBx.out]
    go_wp2_with fail
    refine HW.out.mono ?_
    rintro e w1 ⟨u, rfl, hu, hb⟩
    go_wp2
    go_ret
    exact ⟨u, rfl, by rw [HG.out]; exact hu, hb⟩
  · have HBx : Hid (isOneB x = false) := by show (x == 1) = false; simp [hx1]
    have HBy : Hid (isOneB y = true) := by show (y == 1) = true; rcases hxy with h1 | h1 <;> simp_all
    clear hx1 hxy h h'
    go_enter Tryz.func91, Tryz.ntmps91
    go_wp2_with fail
    refine HCx.out.mono ?_
    rintro e w' ⟨rfl, rfl⟩
    rw [HBx.out]
    go_wp2_with fail
    refine HCy.out.mono ?_
    rintro e w' ⟨rfl, rfl⟩
    rw [HBy.out]
    go_wp2_with fail
    refine HW.out.mono ?_
    rintro e w1 ⟨u, rfl, hu, hb⟩
    go_wp2
    go_ret
    exact ⟨u, rfl, by rw [HG.out]; exact hu, hb⟩

theorem n_gcd (w : World) (v v' : Value) (x y : Nat) (h : NatAt w v x) (h' : NatAt w v' y) (hn : nw x ≤ 1000000000) (hn' : nw y ≤ 1000000000) (HD : Gcds x y) :
    Calls Tryz.prog 91 #[v, v'] w (NatRet w (Nat.gcd x y)) := by
  rcases HD with h1 | ⟨hd1, hd2⟩
  · exact n_gcd_one w v v' x y h h' h1
  by_cases h1 : x = 1 ∨ y = 1
  · exact n_gcd_one w v v' x y h h' h1
  · rcases Nat.lt_or_ge x y with hl | hl
    · rw [Nat.min_eq_left (by omega)] at hd1 hd2
      rw [Nat.max_eq_right (by omega)] at hd2
      rw [Nat.gcd_comm]
      exact n_gcd_swap w v' v y x h' h hn' (by omega) (by omega) hl hd1 hd2
    · rw [Nat.min_eq_right (by omega)] at hd1 hd2
      rw [Nat.max_eq_left (by omega)] at hd2
      exact n_gcd_low w v v' x y h h' hn (by omega) (by omega) hl hd1 hd2
end Go.Proofs.YtnfncdalneifnaaGreatDoor

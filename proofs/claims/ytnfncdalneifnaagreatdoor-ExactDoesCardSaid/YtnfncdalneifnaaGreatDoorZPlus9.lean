/- The reference's natural numbers: differences. -/
import Derived.Test.YtnfncdalneifnaaGreatDoorZN9

/- The reference's natural numbers: differences. -/
section
namespace Go.Proofs.YtnfncdalneifnaaGreatDoor
open Go.RowKit Go.Deep

set_option maxRecDepth 100000 in
set_option maxHeartbeats 2000000 in
theorem r_minus (w : World) (u v : Value) (x y : Nat) (hu : N9At w u x) (hv : N9At w v y) (hn : nw9 x ≤ 1000000000) (hle : y ≤ x) :
    Calls Tryz.prog 138 #[u, v] w (Nat9 (x - y) w) := by
  have HU := Lib.hid hu
  have HV := Lib.hid hv
  have HY : Hid (y < B9 ^ nw9 x) := Nat.lt_of_le_of_lt hle (lt_nw9 x)
  obtain ⟨A, c, rfl, h1, h2, h3⟩ := hu
  obtain ⟨A', c', rfl, h1', h2', h3'⟩ := hv
  clear h3 h3' h1 h2 h1' h2'
  go_enter Tryz.func138, Tryz.ntmps138
  go_wp2
  go_loopw [5, 6, 7] (fun out cy i wr => ∃ (k q : Nat) (f : Nat → Nat), i = .int .i64 k ∧ cy = U q ∧ q ≤ 1 ∧ k ≤ nw9 x ∧ Own9 wr w.heap.size out k f ∧ Below w.heap.size w wr ∧
    Hid ((∀ j, j < k → f j < B9) ∧ vl9 f k + vl9 (dig9 y) k = vl9 (dig9 x) k + q * B9 ^ k)) (fun _ _ i _ => nw9 x - (intOf i).toNat)
  case atStart => exact ⟨0, 0, fun _ => 0, rfl, rfl, by omega, by omega, Own9.nil _ _ _, Below.refl _ _, fun j hj => absurd hj (by omega), by simp [vl9]⟩
  case round =>
    obtain ⟨k, q, f, rfl, rfl, hq, hk, hown, hb, HF⟩ := hrel
    have HD1 := Lib.hid (r_digitN wr _ k x (HU.out.below hb))
    have HD2 := Lib.hid (r_digitN wr _ k y (HV.out.below hb))
    by_cases hlt : k < nw9 x
    · have hown' := hown
      obtain ⟨A2, c2', rfl, -, -, -⟩ := hown'.out
      have HWn := Lib.hid hown
      have HB := Lib.hid hb
      have hsz := hb.size
      have hdx := dig_lt9 x k
      have hdy := dig_lt9 y k
      clear hown hown' hb
      have Hst := Lib.hid (sub_step9 f (dig9 x) (dig9 y) (upd f k ((dig9 x k + B9 - dig9 y k - q) % B9)) k q (fun j hj => upd_ne _ _ _ _ (by omega)) (upd_same _ _ _) hdx hdy hq HF.out.2)
      unfold B9 at hdx hdy
      go_wp2_with fail
      refine (HD1.out).mono ?_
      rintro e w' ⟨rfl, rfl⟩
      go_wp2_with fail
      refine (HD2.out).mono ?_
      rintro e w' ⟨rfl, rfl⟩
      clear HD1 HD2
      generalize dig9 x k = dx at *
      generalize dig9 y k = dy at *
      have hHD : Hid ((dx + B9 - dy - q) % B9 < B9) := Nat.mod_lt _ B9_pos
      go_wp2_with (at_builtin; refine wpList_app9 rfl _ _ rfl wr _ ((dx + B9 - dy - q) % B9) rfl ?_ w.heap.size _ k f rfl rfl HWn.out (by omega) hsz ?_; (focus (exact congrArg (Value.int .u32) (by unfold B9; omega))); intro v' w' hown2 hb2)
      go_roundw
      case rel =>
        refine ⟨k + 1, 1 - (dx + B9 - dy - q) / B9, upd f k ((dx + B9 - dy - q) % B9), by go_num, ?_, Nat.sub_le _ _, by omega, hown2, HB.out.trans hb2, fun j hj => ?_, Hst.out⟩
        · exact congrArg (Value.int .u64) (by unfold B9; omega)
        · by_cases e : j = k
          · subst e; rw [upd_same]; exact hHD.out
          · rw [upd_ne _ _ _ _ e]; exact HF.out.1 j (by omega)
      case measure => simp [intOf]; omega
    · obtain rfl : k = nw9 x := by omega
      have hl := vl_lt9 f _ HF.out.1
      have hval : vl9 f (nw9 x) = x - y ∧ q = 0 := by
        have h9 := HF.out.2
        rw [vl_dig_lt9 x _ (lt_nw9 x), vl_dig_lt9 y _ HY.out] at h9
        have h8 := lt_nw9 x
        rcases (by omega : q = 0 ∨ q = 1) with h7 | h7
        · subst h7; omega
        · subst h7; omega
      have HG : Hid (x - y < B9 ^ nw9 x) := by
        show _ < _
        rw [← hval.1]; exact hl
      have hown2 := hown.congr (g := dig9 (x - y)) fun j hj => by rw [← hval.1, dig_vl9 _ _ HF.out.1 j hj]
      obtain ⟨A2, c2', rfl, h5, h6, h7⟩ := hown2.out
      have HD := Lib.hid h7
      have HB := Lib.hid hb
      clear hown hown2 h7 hval hb HD1 HD2 HF HY hl
      unfold maxLen at h6
      go_wp2_with fail
      refine (r_trim _ wr.heap.size _ _ _ (x - y) HD.out HG.out h5 (by omega)).mono ?_
      rintro e w' ⟨rfl, rfl⟩
      go_wp2
      go_ret
      exact ⟨_, rfl, ⟨A2, c2', rfl, Nat.le_trans ((nw_le9 _ _).2 HG.out) h5, by omega, HD.out.take ((nw_le9 _ _).2 HG.out)⟩, HB.out⟩
end Go.Proofs.YtnfncdalneifnaaGreatDoor
end

/- Comparing the reference's natural numbers. -/
section
namespace Go.Proofs.YtnfncdalneifnaaGreatDoor
open Go.RowKit Go.Deep

set_option maxHeartbeats 400000 in
theorem r_compare (w : World) (B : Nat) (A A' : Option Addr) (c c' x y : Nat) (h : D9 w B A (nw9 x) (dig9 x)) (h' : D9 w B A' (nw9 y) (dig9 y)) (hn : nw9 x ≤ 9223372036854775807) :
    Calls Tryz.prog 65 #[.slice A (nw9 x) c, .slice A' (nw9 y) c'] w fun e w' => e = .returned (.int .i64 (cmpN x y)) ∧ ∃ n, w' = w.drewN n := by
  rcases Nat.lt_trichotomy (nw9 x) (nw9 y) with hlt | heq | hgt
  · have H : Hid (cmpN x y = -1) := cmpN_lt (lt_of_nw9 hlt)
    have h2 : ((nw9 x : Int) != (nw9 y : Int)) = true := by rw [bne_iff_ne]; omega
    generalize nw9 x = m at *
    generalize nw9 y = m' at *
    clear h h'
    go_enter Tryz.func65, Tryz.ntmps65
    go_wp2
    go_ret
    exact ⟨by rw [H.out]; rfl, 0, rfl⟩
  · rw [← heq] at h' ⊢
    have HX : Hid (x < B9 ^ nw9 x) := lt_nw9 x
    have HY : Hid (y < B9 ^ nw9 x) := by show y < B9 ^ nw9 x; rw [heq]; exact lt_nw9 y
    clear heq
    generalize nw9 x = m at *
    have h2 : ((m : Int) != (m : Int)) = false := by simp
    go_enter Tryz.func65, Tryz.ntmps65
    go_wp2
    go_loopw [5] (fun i wr => (i = .int .i64 (-1) ∧ x = y ∧ ∃ n, wr = w.drewN n) ∨ ∃ j : Nat, j < m ∧ i = .int .i64 j ∧ x / B9 ^ (j + 1) = y / B9 ^ (j + 1) ∧ ∃ n, wr = w.drewN n) (fun i _ => (intOf i + 1).toNat)
    case atStart =>
      by_cases hm : m = 0
      · subst hm
        have := HX.out
        have := HY.out
        refine .inl ⟨by simp, ?_, 0, rfl⟩
        simp at *
        omega
      · refine .inr ⟨m - 1, by omega, by rw [show ((m - 1 : Nat) : Int) = (m : Int) - 1 by omega], ?_, 0, rfl⟩
        rw [show m - 1 + 1 = m by omega, Nat.div_eq_of_lt HX.out, Nat.div_eq_of_lt HY.out]
    case round =>
      rcases hrel with ⟨rfl, hxy, n, rfl⟩ | ⟨j, hj, rfl, hd, n, rfl⟩
      · have H : Hid (cmpN x y = 0) := by show cmpN x y = 0; rw [hxy]; exact cmpN_eq y
        clear hxy
        go_wp2
        go_ret
        exact ⟨by rw [H.out]; rfl, n, rfl⟩
      · obtain ⟨b, o, rfl, hc⟩ := h.at_ hj
        obtain ⟨b', o', rfl, hc'⟩ := h'.at_ hj
        have HD := Lib.hid hd; clear hd
        rcases Nat.lt_trichotomy (dig9 x j) (dig9 y j) with hl | he | hl
        · have H : Hid (cmpN x y = -1) := cmpN_lt (lt_of_dig9 x y j HD.out hl)
          generalize dig9 x j = u at *
          generalize dig9 y j = v at *
          clear h h'
          go_wp2
          go_quiet (fail)
          go_wp2
          go_ret
          exact ⟨by rw [H.out]; rfl, by first | exact ⟨_, rfl⟩ | exact dr2 _ _ _ | exact dr3 _ _ _ _⟩
        · have HE := Lib.hid (div_of_dig9 x y j HD.out he)
          rw [← he] at hc'
          clear he
          generalize dig9 x j = u at *
          clear h h'
          go_wp2
          go_quiet (fail)
          go_wp2
          go_quiet (fail)
          go_wp2
          go_roundw
          case rel =>
            by_cases hj0 : j = 0
            · subst hj0
              exact .inl ⟨by simp, by simpa using HE.out, by first | exact ⟨_, rfl⟩ | exact dr2 _ _ _ | exact dr3 _ _ _ _⟩
            · refine .inr ⟨j - 1, by omega, by rw [show ((j - 1 : Nat) : Int) = (j : Int) - 1 by omega], ?_, by first | exact ⟨_, rfl⟩ | exact dr2 _ _ _ | exact dr3 _ _ _ _⟩
              rw [show j - 1 + 1 = j by omega]
              exact HE.out
          case measure => simp [intOf]
        · have H : Hid (cmpN x y = 1) := by
            show cmpN x y = 1
            exact cmpN_gt (lt_of_dig9 y x j HD.out.symm hl)
          generalize dig9 x j = u at *
          generalize dig9 y j = v at *
          clear h h'
          go_wp2
          go_quiet (fail)
          go_wp2
          go_quiet (fail)
          go_wp2
          go_ret
          exact ⟨by rw [H.out]; rfl, by first | exact ⟨_, rfl⟩ | exact dr2 _ _ _ | exact dr3 _ _ _ _⟩
  · have H : Hid (cmpN x y = 1) := cmpN_gt (lt_of_nw9 hgt)
    have h2 : ((nw9 x : Int) != (nw9 y : Int)) = true := by rw [bne_iff_ne]; omega
    generalize nw9 x = m at *
    generalize nw9 y = m' at *
    clear h h'
    go_enter Tryz.func65, Tryz.ntmps65
    go_wp2
    go_ret
    exact ⟨by rw [H.out]; rfl, 0, rfl⟩

theorem r_cmpN (w : World) (u v : Value) (x y : Nat) (hu : N9At w u x) (hv : N9At w v y) :
    Calls Tryz.prog 65 #[u, v] w fun e w' => e = .returned (.int .i64 (cmpN x y)) ∧ ∃ n, w' = w.drewN n := by
  obtain ⟨A, c, rfl, h1, h2, h3⟩ := hu
  obtain ⟨A', c', rfl, h1', h2', h3'⟩ := hv
  exact r_compare w _ A A' c c' x y h3 h3' (by omega)
end Go.Proofs.YtnfncdalneifnaaGreatDoor
end

/- The reference's natural numbers: sums. -/
section
namespace Go.Proofs.YtnfncdalneifnaaGreatDoor
open Go.RowKit Go.Deep

set_option maxRecDepth 100000 in
set_option maxHeartbeats 2000000 in
theorem r_plus (w : World) (u v : Value) (x y : Nat) (hu : N9At w u x) (hv : N9At w v y) (hn : nw9 x ≤ 1000000000) (hn' : nw9 y ≤ 1000000000) :
    Calls Tryz.prog 74 #[u, v] w (Nat9 (x + y) w) := by
  have HU := Lib.hid hu
  have HV := Lib.hid hv
  obtain ⟨A, c, rfl, h1, h2, h3⟩ := hu
  obtain ⟨A', c', rfl, h1', h2', h3'⟩ := hv
  obtain ⟨M, hM1, hM2, hM3⟩ : ∃ M, nw9 x ≤ M ∧ nw9 y ≤ M ∧ M ≤ 1000000000 := ⟨max (nw9 x) (nw9 y), by omega, by omega, by omega⟩
  clear h3 h3' h1 h2 h1' h2'
  go_enter Tryz.func74, Tryz.ntmps74
  go_wp2
  go_loopw [5, 6, 7] (fun out cy i wr => ∃ (k q : Nat) (f : Nat → Nat), i = .int .i64 k ∧ cy = U q ∧ q ≤ 1 ∧ k ≤ M + 1 ∧ Hid (k = M + 1 → q = 0) ∧ Own9 wr w.heap.size out k f ∧ Below w.heap.size w wr ∧
    Hid ((∀ j, j < k → f j < B9) ∧ vl9 f k + q * B9 ^ k = vl9 (dig9 x) k + vl9 (dig9 y) k)) (fun _ _ i _ => M + 1 - (intOf i).toNat)
  case atStart => exact ⟨0, 0, fun _ => 0, rfl, rfl, by omega, by omega, fun h => by rfl, Own9.nil _ _ _, Below.refl _ _, fun j hj => absurd hj (by omega), by simp [vl9]⟩
  case round =>
    obtain ⟨k, q, f, rfl, rfl, hq, hk, HQ, hown, hb, HF⟩ := hrel
    have HD1 := Lib.hid (fun n => r_digitN (wr.drewN n) _ k x ((HU.out.below hb).drewN n))
    have HD2 := Lib.hid (fun n => r_digitN (wr.drewN n) _ k y ((HV.out.below hb).drewN n))
    rcases (by omega : (nw9 x ≤ k ∧ nw9 y ≤ k ∧ q = 0) ∨ k < nw9 x ∨ (nw9 x ≤ k ∧ k < nw9 y) ∨ (nw9 x ≤ k ∧ nw9 y ≤ k ∧ 0 < q)) with ⟨c1, c2, c3⟩ | c1 | ⟨c1, c2⟩ | ⟨c1, c2, c3⟩
    · subst c3
      have hx : x < B9 ^ k := (nw_le9 _ _).1 c1
      have hy : y < B9 ^ k := (nw_le9 _ _).1 c2
      have hval : vl9 f k = x + y := by
        have h9 := HF.out.2
        rw [vl_dig_lt9 x k hx, vl_dig_lt9 y k hy] at h9
        omega
      have HG : Hid (x + y < B9 ^ k) := by
        show _ < _
        rw [← hval]; exact vl_lt9 _ _ HF.out.1
      have hown2 := hown.congr (g := dig9 (x + y)) fun j hj => by rw [← hval, dig_vl9 _ _ HF.out.1 j hj]
      obtain ⟨A2, c2', rfl, h5, h6, h7⟩ := hown2.out
      have HD := Lib.hid h7
      have HB := Lib.hid hb
      clear hown hown2 h7 hval hb HD1 HD2 HF HQ hx hy
      unfold maxLen at h6
      go_wp2_with fail
      refine (r_trim _ wr.heap.size _ _ _ (x + y) HD.out HG.out h5 (by omega)).mono ?_
      rintro e w' ⟨rfl, rfl⟩
      go_wp2
      go_ret
      exact ⟨_, rfl, ⟨A2, c2', rfl, Nat.le_trans ((nw_le9 _ _).2 HG.out) h5, by omega, HD.out.take ((nw_le9 _ _).2 HG.out)⟩, HB.out⟩
    all_goals
      have hkM : k ≤ M := by
        rcases Nat.lt_or_ge M k with h9 | h9
        · have h8 := HQ.out (by omega)
          omega
        · exact h9
      have hown' := hown
      obtain ⟨A2, c2', rfl, -, -, -⟩ := hown'.out
      have HWn := Lib.hid hown
      have HB := Lib.hid hb
      have hsz := hb.size
      have hdx := dig_lt9 x k
      have hdy := dig_lt9 y k
      clear hown hown' hb HQ
      unfold B9 at hdx hdy
      go_wp2_with fail
      refine (HD1.out 0).mono ?_
      rintro e w' ⟨rfl, rfl⟩
      go_wp2_with fail
      refine (HD2.out 0).mono ?_
      rintro e w' ⟨rfl, rfl⟩
      have Hst := Lib.hid (add_step9 f (dig9 x) (dig9 y) (upd f k ((dig9 x k + dig9 y k + q) % B9)) k q (fun j hj => upd_ne _ _ _ _ (by omega)) (upd_same _ _ _) HF.out.2)
      have HQ2 : Hid (k + 1 = M + 1 → (dig9 x k + dig9 y k + q) / B9 = 0) := by
        show _ → _
        intro h9
        rw [dig_ge9 x (nw9 x) k (lt_nw9 x) (by omega), dig_ge9 y (nw9 y) k (lt_nw9 y) (by omega)]
        unfold B9; omega
      clear HD1 HD2
      generalize dig9 x k = dx at *
      generalize dig9 y k = dy at *
      have hHD : Hid ((dx + dy + q) % B9 < B9) := Nat.mod_lt _ B9_pos
      go_wp2_with (at_builtin; refine wpList_app9 rfl _ _ rfl wr _ ((dx + dy + q) % B9) rfl ?_ w.heap.size _ k f rfl rfl HWn.out (by omega) hsz ?_; (focus (exact congrArg (Value.int .u32) (by unfold B9; omega))); intro v' w' hown2 hb2)
      go_roundw
      case rel =>
        refine ⟨k + 1, (dx + dy + q) / B9, upd f k ((dx + dy + q) % B9), by go_num, ?_, ?_, by omega, HQ2, hown2, HB.out.trans hb2, fun j hj => ?_, Hst.out⟩
        · exact congrArg (Value.int .u64) (by unfold B9; omega)
        · unfold B9; omega
        · by_cases e : j = k
          · subst e; rw [upd_same]; exact hHD.out
          · rw [upd_ne _ _ _ _ e]; exact HF.out.1 j (by omega)
      case measure => simp [intOf]; omega
end Go.Proofs.YtnfncdalneifnaaGreatDoor
end

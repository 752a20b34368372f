/- Greatest common divisors of natural numbers of any size: what the call returns. -/
import Derived.Test.YtnfncdalneifnaaGreatDoorZDone
namespace Go.Proofs.YtnfncdalneifnaaGreatDoor
open Go.RowKit Go.Deep

theorem NatAt.unique {w : World} {v : Value} {x y : Nat} (h : NatAt w v x) (h' : NatAt w v y) : x = y := by
  obtain ⟨A, c, rfl, _, _, h3⟩ := h
  obtain ⟨A', c', e, _, _, h3'⟩ := h'
  injection e with e1 e2 e3
  have e2' : nw x = nw y := e2
  subst e1
  rw [← vl_dig_lt x (nw x) (lt_nw x), ← vl_dig_lt y (nw y) (lt_nw y), ← e2']
  refine vl_congr _ _ _ fun k hk => ?_
  obtain ⟨b, o, e4, hc⟩ := h3.at_ hk
  obtain ⟨b', o', e5, hc'⟩ := h3'.at_ (by rw [← e2']; exact hk)
  rw [e4] at e5
  obtain ⟨rfl, rfl⟩ : b = b' ∧ o = o' := by simpa using e5
  rw [hc] at hc'
  have h9 : ((dig x k : Nat) : Int) = dig y k := by simpa using hc'
  omega
/-- The number that a value holds. -/
noncomputable def natOf (w : World) (v : Value) : Nat := Classical.epsilon (NatAt w v)
theorem natOf_eq {w : World} {v : Value} {x : Nat} (h : NatAt w v x) : natOf w v = x := (Classical.epsilon_spec ⟨x, h⟩ : NatAt w v (natOf w v)).unique h

set_option maxRecDepth 100000 in
set_option maxHeartbeats 4000000 in
theorem g_gcd_low (w : World) (v v' : Value) (x y : Nat) (h : NatAt w v x) (h' : NatAt w v' y) (hn : nw x ≤ 1000000000) (hx1 : x ≠ 1) (hy1 : y ≠ 1) (hle : y ≤ x) :
    Calls Tryz.prog 91 #[v, v'] w (NatRet w (Nat.gcd x y)) := by
  have HB : Hid (isOneB y = false) := by show (y == 1) = false; simp [hy1]
  have HBx : Hid (isOneB x = false) := by show (x == 1) = false; simp [hx1]
  have HCx := Lib.hid (n_isOne w v x h)
  have HCy := Lib.hid (n_isOne w v' y h')
  have HC := Lib.hid (n_compare w v v' x y h h' hn)
  have hcm0 : 0 ≤ cmpN x y := by
    rcases Nat.lt_or_eq_of_le hle with h5 | h5
    · rw [cmpN_gt h5]; omega
    · subst h5; rw [cmpN_eq]; omega
  generalize cmpN x y = cm at *
  have H := Lib.hid h
  have H' := Lib.hid h'
  have HN := Lib.hid hn
  have HLe : Hid (y ≤ x) := by show _ ≤ _; omega
  clear h h' hn hx1 hy1 hle
  go_enter Tryz.func91, Tryz.ntmps91
  go_wp2_with fail
  refine HCx.out.mono ?_
  rintro e w' ⟨rfl, rfl⟩
  rw [HBx.out]
  go_wp2_with fail
  refine HCy.out.mono ?_
  rintro e w' ⟨rfl, rfl⟩
  rw [HB.out]
  go_wp2_with fail
  refine HC.out.mono ?_
  rintro e w' ⟨rfl, n, rfl⟩
  clear HC HCx HCy HB HBx
  go_wp2_with fail
  go_loopw [0, 1, 5, 6, 7] (fun av bv _ _ _ wr => ∃ X Y : Nat, Hid (NatAt wr av X) ∧ Hid (NatAt wr bv Y) ∧ Hid (Y ≤ X ∧ Nat.gcd X Y = Nat.gcd x y ∧ nw X ≤ 1000000000) ∧ Below w.heap.size w wr) (fun _ bv _ _ _ wr => natOf wr bv)
  case atStart => exact ⟨x, y, H.out.drewN n, H'.out.drewN n, ⟨HLe.out, rfl, HN.out⟩, Below.drewN_ (Below.refl _ _) n⟩
  case round =>
    obtain ⟨X, Y, hX, hY, HXY, hb⟩ := hrel
    have hYv := hY.out
    obtain ⟨A', c', rfl, h1', h2', h3'⟩ := hYv
    have hXv := hX.out
    obtain ⟨A, c, rfl, h1, h2, h3⟩ := hXv
    have HV := Lib.hid (natOf_eq hY.out)
    rcases Nat.lt_or_ge 1 (nw Y) with hlen | hlen
    · have HF := Lib.hid (c_foresee wr A A' c c' X Y (nw X) (nw Y) h3 h3' rfl rfl (Nat.lt_of_lt_of_le hlen (nw_mono HXY.out.1)) HXY.out.1 HXY.out.2.2)
      have hl1 : (1 : Int) < (nw Y : Int) := by omega
      have HY1 : Hid (1 < nw Y) := hlen
      clear h1 h1' h2 h2' h3 h3' hlen
      generalize hmx : nw X = mx at *
      generalize hmy : nw Y = my at *
      have HMX := Lib.hid hmx
      have HMY := Lib.hid hmy
      clear hmx hmy
      have HDiv : Hid (∀ W, Below wr.heap.size wr W → Calls Tryz.prog 45 #[.slice A mx c, .slice A' my c'] W (NatRet2 W (X / Y) (X % Y))) := fun W hW =>
        g_divided W _ _ X Y (hX.out.below hW) (hY.out.below hW) (by have := HXY.out.2.2; have := HMX.out; omega) ((nw_pos Y).1 (by have := HMY.out; have := HY1.out; omega))
      go_wp2_with fail
      refine HF.out.mono ?_
      rintro e w1 ⟨cnt, a0, b0, a1, b1, x9, y9, P, Q, H9, rfl, q1, q2, q3, q4, q5, hS, hbF⟩
      have HDone : 0 < cnt → Hid (∀ W, Below w1.heap.size w1 W → Calls Tryz.prog 155 #[St cnt a0 b0 a1 b1, .slice A mx c, .slice A' my c'] W (NatRet2 W P Q)) := fun hc W hW =>
        n_done W _ _ X Y cnt a0 b0 a1 b1 P Q (hX.out.below (btr3 hbF hW)) (hY.out.below (btr3 hbF hW)) (by have := HXY.out.2.2; have := HMX.out; omega) (Nat.le_trans (nw_mono HXY.out.1) (by have := HXY.out.2.2; have := HMX.out; omega)) q1 q2 q3 q4 q5 (hS.some hc).2 (Nat.le_of_lt (hS.some hc).1) hS.even hS.odd
      have HS := Lib.hid hS
      clear q1 q2 q3 q4 hS HF
      rcases Nat.eq_zero_or_pos cnt with hcn | hcn
      · subst hcn
        clear HDone
        have B2 : Below w1.heap.size w1 (w1.alloc (.cells #[.int .i64 0, U a0, U b0, U a1, U b1] 166)) := (Below.refl _ _).alloc (Nat.le_refl _) _
        go_wp2_with fail
        generalize w1.alloc (.cells #[.int .i64 0, U a0, U b0, U a1, U b1] 166) = w2 at *
        refine (HDiv.out _ (btr3 hbF B2)).mono ?_
        rintro e w3 ⟨qq, rr, rfl, _, hr, hb3⟩
        have hYY : 0 < Y := (nw_pos Y).1 (by have := HMY.out; have := HY1.out; omega)
        have HFin : Hid (Below w.heap.size w w3 ∧ NatAt w3 (.slice A' my c') Y ∧ natOf w3 rr < Y) :=
          ⟨btr3 (btr3 (btr3 hb hbF) B2) hb3, hY.out.below (btr3 (btr3 hbF B2) hb3), by rw [natOf_eq hr]; exact Nat.mod_lt _ hYY⟩
        have HR := Lib.hid hr
        clear hr hb3 hbF B2 hb
        go_wp2
        refine ⟨⟨Y, X % Y, HFin.out.2.1, HR.out, ⟨Nat.le_of_lt (Nat.mod_lt _ hYY), ?_, Nat.le_trans (nw_mono HXY.out.1) (by have := HXY.out.2.2; have := HMX.out; omega)⟩, HFin.out.1⟩, ?_⟩
        · rw [← HXY.out.2.1, Nat.gcd_comm X Y, Nat.gcd_rec Y X, Nat.gcd_comm]
        · show natOf w3 rr < natOf wr (.slice A' my c')
          rw [HV.out]; exact HFin.out.2.2
      · have hcn1 : decide ((0 : Int) < (cnt : Int)) = true := by simp; omega
        have HDone1 := Lib.hid (HDone hcn)
        clear HDone
        have B2 : Below w1.heap.size w1 (w1.alloc (.cells #[.int .i64 cnt, U a0, U b0, U a1, U b1] 166)) := (Below.refl _ _).alloc (Nat.le_refl _) _
        go_wp2_with fail
        generalize w1.alloc (.cells #[.int .i64 cnt, U a0, U b0, U a1, U b1] 166) = w2 at *
        refine (HDone1.out _ B2).mono ?_
        rintro e w3 ⟨pp, rr, rfl, hp, hr, hb3⟩
        have HFin : Hid (Below w.heap.size w w3 ∧ natOf w3 rr < Y ∧ Q ≤ P ∧ Nat.gcd P Q = Nat.gcd x y ∧ nw P ≤ 1000000000) :=
          ⟨btr3 (btr3 (btr3 hb hbF) B2) hb3, by rw [natOf_eq hr]; exact (HS.out.some hcn).1, HS.out.AB, by rw [HS.out.g]; exact HXY.out.2.1, Nat.le_trans (nw_mono (Nat.le_trans (HS.out.some hcn).2 HXY.out.1)) (by have := HXY.out.2.2; have := HMX.out; omega)⟩
        have HR := Lib.hid hr
        have HP := Lib.hid hp
        clear hr hp hb3 hbF B2 hb
        go_wp2
        refine ⟨⟨P, Q, HP.out, HR.out, HFin.out.2.2, HFin.out.1⟩, ?_⟩
        show natOf w3 rr < natOf wr (.slice A' my c')
        rw [HV.out]; exact HFin.out.2.1
    · have hl1 : ¬ (1 : Int) < (nw Y : Int) := by omega
      have hYW : Y < W64 := (nw_le_one Y).1 hlen
      by_cases hy0 : Y = 0
      · have HG : Hid (Nat.gcd X Y = X) := by show _ = _; rw [hy0, Nat.gcd_zero_right]
        have hn0 : nw Y = 0 := by rw [hy0, nw_zero]
        have HXY9 := Lib.hid HXY.out.2.1
        have HX9 := Lib.hid hX.out
        rw [hn0]
        clear HXY hX hY h1 h1' h2 h2' h3 h3' hlen hl1 hYW hy0 hn0 HV
        generalize hmx : nw X = mx at *
        have HMX := Lib.hid hmx
        clear hmx
        go_wp2
        go_ret
        exact ⟨_, rfl, by rw [← HXY9.out, HG.out]; exact HX9.out, hb⟩
      · have hnw : nw Y = 1 := nw_one Y (by omega) hYW
        have HG : Hid (Nat.gcd Y (X % Y) = Nat.gcd x y) := by
          show _ = _
          rw [← HXY.out.2.1, Nat.gcd_comm X Y, Nat.gcd_rec Y X, Nat.gcd_comm]
        have hgl : Nat.gcd Y (X % Y) < W64 := Nat.lt_of_le_of_lt (Nat.gcd_le_left _ (by omega)) hYW
        have hrl : X % Y < W64 := Nat.lt_trans (Nat.mod_lt X (by omega)) hYW
        have HDv := Lib.hid (g_divided wr _ _ X Y hX.out hY.out HXY.out.2.2 (by omega))
        obtain ⟨b', o', rfl, hlt', hcc⟩ := h3' (by omega)
        have hc' := hcc 0 (by omega)
        clear hcc h3'
        rw [dig_small Y hYW, Nat.add_zero] at hc'
        rw [hnw] at HDv ⊢
        clear hnw h1' hlen h1 h2 h2' h3 hX hY HXY HV hl1
        generalize nw X = mx at *
        go_wp2_with fail
        refine HDv.out.mono ?_
        rintro e w1 ⟨q, r, rfl, _, hr, hb1⟩
        have hc1 : w1.cell? ⟨b', o', none⟩ = some (U Y) := (hb1.cell (p := ⟨b', o', none⟩) hlt').trans hc'
        have HBW : Hid (Below w.heap.size w w1) := btr3 hb hb1
        have HR : Hid (Calls Tryz.prog 90 #[r, .int .i64 0] w1.drew fun e w' => e = .returned (U (X % Y)) ∧ w1.drew = w') := by
          have h9 := n_at w1.drew r (X % Y) 0 hr
          rw [dig_small _ hrl] at h9
          exact h9
        clear hc' HDv hb hb1
        go_wp2_with fail
        go_region_with (first | (go_at_call 90; refine HR.out.mono ?_; rintro e w' ⟨rfl, rfl⟩) | (go_at_call 39; refine (c_commonWord Y (X % Y) _).mono ?_; rintro e w' ⟨rfl, n2, rfl⟩) | (go_at_call 41; refine (n_word _ _ hgl).mono ?_; rintro e w2 ⟨u, rfl, hu, hbu⟩))
        all_goals
          go_wp2
          go_ret
          refine ⟨u, rfl, by rw [← HG.out]; exact hu, ?_⟩
          exact HBW.out.trans ((Below.drewN_ (Below.refl _ _) _).trans (hbu.mono HBW.out.size))

set_option maxRecDepth 100000 in
set_option maxHeartbeats 4000000 in
theorem g_gcd_swap (w : World) (v v' : Value) (x y : Nat) (h : NatAt w v x) (h' : NatAt w v' y) (hn : nw x ≤ 1000000000) (hx1 : x ≠ 1) (hy1 : y ≠ 1) (hlt : y < x) :
    Calls Tryz.prog 91 #[v', v] w (NatRet w (Nat.gcd x y)) := by
  have HB : Hid (isOneB y = false) := by show (y == 1) = false; simp [hy1]
  have HBx : Hid (isOneB x = false) := by show (x == 1) = false; simp [hx1]
  have HCx := Lib.hid (n_isOne w v x h)
  have HCy := Lib.hid (n_isOne w v' y h')
  have HC := Lib.hid (n_compare w v' v y x h' h (Nat.le_trans (nw_mono (by omega)) hn))
  rw [cmpN_lt hlt] at HC
  have H := Lib.hid h
  have H' := Lib.hid h'
  have HN := Lib.hid hn
  have HLe : Hid (y ≤ x) := by show _ ≤ _; omega
  clear h h' hn hx1 hy1 hlt
  go_enter Tryz.func91, Tryz.ntmps91
  go_wp2_with fail
  refine HCy.out.mono ?_
  rintro e w' ⟨rfl, rfl⟩
  rw [HB.out]
  go_wp2_with fail
  refine HCx.out.mono ?_
  rintro e w' ⟨rfl, rfl⟩
  rw [HBx.out]
  go_wp2_with fail
  refine HC.out.mono ?_
  rintro e w' ⟨rfl, n, rfl⟩
  clear HC HCx HCy HB HBx
  go_wp2_with fail
  go_loopw [0, 1, 5, 6, 7] (fun av bv _ _ _ wr => ∃ X Y : Nat, Hid (NatAt wr av X) ∧ Hid (NatAt wr bv Y) ∧ Hid (Y ≤ X ∧ Nat.gcd X Y = Nat.gcd x y ∧ nw X ≤ 1000000000) ∧ Below w.heap.size w wr) (fun _ bv _ _ _ wr => natOf wr bv)
  case atStart => exact ⟨x, y, H.out.drewN n, H'.out.drewN n, ⟨HLe.out, rfl, HN.out⟩, Below.drewN_ (Below.refl _ _) n⟩
  case round =>
    obtain ⟨X, Y, hX, hY, HXY, hb⟩ := hrel
    have hYv := hY.out
    obtain ⟨A', c', rfl, h1', h2', h3'⟩ := hYv
    have hXv := hX.out
    obtain ⟨A, c, rfl, h1, h2, h3⟩ := hXv
    have HV := Lib.hid (natOf_eq hY.out)
    rcases Nat.lt_or_ge 1 (nw Y) with hlen | hlen
    · have HF := Lib.hid (c_foresee wr A A' c c' X Y (nw X) (nw Y) h3 h3' rfl rfl (Nat.lt_of_lt_of_le hlen (nw_mono HXY.out.1)) HXY.out.1 HXY.out.2.2)
      have hl1 : (1 : Int) < (nw Y : Int) := by omega
      have HY1 : Hid (1 < nw Y) := hlen
      clear h1 h1' h2 h2' h3 h3' hlen
      generalize hmx : nw X = mx at *
      generalize hmy : nw Y = my at *
      have HMX := Lib.hid hmx
      have HMY := Lib.hid hmy
      clear hmx hmy
      have HDiv : Hid (∀ W, Below wr.heap.size wr W → Calls Tryz.prog 45 #[.slice A mx c, .slice A' my c'] W (NatRet2 W (X / Y) (X % Y))) := fun W hW =>
        g_divided W _ _ X Y (hX.out.below hW) (hY.out.below hW) (by have := HXY.out.2.2; have := HMX.out; omega) ((nw_pos Y).1 (by have := HMY.out; have := HY1.out; omega))
      go_wp2_with fail
      refine HF.out.mono ?_
      rintro e w1 ⟨cnt, a0, b0, a1, b1, x9, y9, P, Q, H9, rfl, q1, q2, q3, q4, q5, hS, hbF⟩
      have HDone : 0 < cnt → Hid (∀ W, Below w1.heap.size w1 W → Calls Tryz.prog 155 #[St cnt a0 b0 a1 b1, .slice A mx c, .slice A' my c'] W (NatRet2 W P Q)) := fun hc W hW =>
        n_done W _ _ X Y cnt a0 b0 a1 b1 P Q (hX.out.below (btr3 hbF hW)) (hY.out.below (btr3 hbF hW)) (by have := HXY.out.2.2; have := HMX.out; omega) (Nat.le_trans (nw_mono HXY.out.1) (by have := HXY.out.2.2; have := HMX.out; omega)) q1 q2 q3 q4 q5 (hS.some hc).2 (Nat.le_of_lt (hS.some hc).1) hS.even hS.odd
      have HS := Lib.hid hS
      clear q1 q2 q3 q4 hS HF
      rcases Nat.eq_zero_or_pos cnt with hcn | hcn
      · subst hcn
        clear HDone
        have B2 : Below w1.heap.size w1 (w1.alloc (.cells #[.int .i64 0, U a0, U b0, U a1, U b1] 166)) := (Below.refl _ _).alloc (Nat.le_refl _) _
        go_wp2_with fail
        generalize w1.alloc (.cells #[.int .i64 0, U a0, U b0, U a1, U b1] 166) = w2 at *
        refine (HDiv.out _ (btr3 hbF B2)).mono ?_
        rintro e w3 ⟨qq, rr, rfl, _, hr, hb3⟩
        have hYY : 0 < Y := (nw_pos Y).1 (by have := HMY.out; have := HY1.out; omega)
        have HFin : Hid (Below w.heap.size w w3 ∧ NatAt w3 (.slice A' my c') Y ∧ natOf w3 rr < Y) :=
          ⟨btr3 (btr3 (btr3 hb hbF) B2) hb3, hY.out.below (btr3 (btr3 hbF B2) hb3), by rw [natOf_eq hr]; exact Nat.mod_lt _ hYY⟩
        have HR := Lib.hid hr
        clear hr hb3 hbF B2 hb
        go_wp2
        refine ⟨⟨Y, X % Y, HFin.out.2.1, HR.out, ⟨Nat.le_of_lt (Nat.mod_lt _ hYY), ?_, Nat.le_trans (nw_mono HXY.out.1) (by have := HXY.out.2.2; have := HMX.out; omega)⟩, HFin.out.1⟩, ?_⟩
        · rw [← HXY.out.2.1, Nat.gcd_comm X Y, Nat.gcd_rec Y X, Nat.gcd_comm]
        · show natOf w3 rr < natOf wr (.slice A' my c')
          rw [HV.out]; exact HFin.out.2.2
      · have hcn1 : decide ((0 : Int) < (cnt : Int)) = true := by simp; omega
        have HDone1 := Lib.hid (HDone hcn)
        clear HDone
        have B2 : Below w1.heap.size w1 (w1.alloc (.cells #[.int .i64 cnt, U a0, U b0, U a1, U b1] 166)) := (Below.refl _ _).alloc (Nat.le_refl _) _
        go_wp2_with fail
        generalize w1.alloc (.cells #[.int .i64 cnt, U a0, U b0, U a1, U b1] 166) = w2 at *
        refine (HDone1.out _ B2).mono ?_
        rintro e w3 ⟨pp, rr, rfl, hp, hr, hb3⟩
        have HFin : Hid (Below w.heap.size w w3 ∧ natOf w3 rr < Y ∧ Q ≤ P ∧ Nat.gcd P Q = Nat.gcd x y ∧ nw P ≤ 1000000000) :=
          ⟨btr3 (btr3 (btr3 hb hbF) B2) hb3, by rw [natOf_eq hr]; exact (HS.out.some hcn).1, HS.out.AB, by rw [HS.out.g]; exact HXY.out.2.1, Nat.le_trans (nw_mono (Nat.le_trans (HS.out.some hcn).2 HXY.out.1)) (by have := HXY.out.2.2; have := HMX.out; omega)⟩
        have HR := Lib.hid hr
        have HP := Lib.hid hp
        clear hr hp hb3 hbF B2 hb
        go_wp2
        refine ⟨⟨P, Q, HP.out, HR.out, HFin.out.2.2, HFin.out.1⟩, ?_⟩
        show natOf w3 rr < natOf wr (.slice A' my c')
        rw [HV.out]; exact HFin.out.2.1
    · have hl1 : ¬ (1 : Int) < (nw Y : Int) := by omega
      have hYW : Y < W64 := (nw_le_one Y).1 hlen
      by_cases hy0 : Y = 0
      · have HG : Hid (Nat.gcd X Y = X) := by show _ = _; rw [hy0, Nat.gcd_zero_right]
        have hn0 : nw Y = 0 := by rw [hy0, nw_zero]
        have HXY9 := Lib.hid HXY.out.2.1
        have HX9 := Lib.hid hX.out
        rw [hn0]
        clear HXY hX hY h1 h1' h2 h2' h3 h3' hlen hl1 hYW hy0 hn0 HV
        generalize hmx : nw X = mx at *
        have HMX := Lib.hid hmx
        clear hmx
        go_wp2
        go_ret
        exact ⟨_, rfl, by rw [← HXY9.out, HG.out]; exact HX9.out, hb⟩
      · have hnw : nw Y = 1 := nw_one Y (by omega) hYW
        have HG : Hid (Nat.gcd Y (X % Y) = Nat.gcd x y) := by
          show _ = _
          rw [← HXY.out.2.1, Nat.gcd_comm X Y, Nat.gcd_rec Y X, Nat.gcd_comm]
        have hgl : Nat.gcd Y (X % Y) < W64 := Nat.lt_of_le_of_lt (Nat.gcd_le_left _ (by omega)) hYW
        have hrl : X % Y < W64 := Nat.lt_trans (Nat.mod_lt X (by omega)) hYW
        have HDv := Lib.hid (g_divided wr _ _ X Y hX.out hY.out HXY.out.2.2 (by omega))
        obtain ⟨b', o', rfl, hlt', hcc⟩ := h3' (by omega)
        have hc' := hcc 0 (by omega)
        clear hcc h3'
        rw [dig_small Y hYW, Nat.add_zero] at hc'
        rw [hnw] at HDv ⊢
        clear hnw h1' hlen h1 h2 h2' h3 hX hY HXY HV hl1
        generalize nw X = mx at *
        go_wp2_with fail
        refine HDv.out.mono ?_
        rintro e w1 ⟨q, r, rfl, _, hr, hb1⟩
        have hc1 : w1.cell? ⟨b', o', none⟩ = some (U Y) := (hb1.cell (p := ⟨b', o', none⟩) hlt').trans hc'
        have HBW : Hid (Below w.heap.size w w1) := btr3 hb hb1
        have HR : Hid (Calls Tryz.prog 90 #[r, .int .i64 0] w1.drew fun e w' => e = .returned (U (X % Y)) ∧ w1.drew = w') := by
          have h9 := n_at w1.drew r (X % Y) 0 hr
          rw [dig_small _ hrl] at h9
          exact h9
        clear hc' HDv hb hb1
        go_wp2_with fail
        go_region_with (first | (go_at_call 90; refine HR.out.mono ?_; rintro e w' ⟨rfl, rfl⟩) | (go_at_call 39; refine (c_commonWord Y (X % Y) _).mono ?_; rintro e w' ⟨rfl, n2, rfl⟩) | (go_at_call 41; refine (n_word _ _ hgl).mono ?_; rintro e w2 ⟨u, rfl, hu, hbu⟩))
        all_goals
          go_wp2
          go_ret
          refine ⟨u, rfl, by rw [← HG.out]; exact hu, ?_⟩
          exact HBW.out.trans ((Below.drewN_ (Below.refl _ _) _).trans (hbu.mono HBW.out.size))

theorem g_gcd (w : World) (v v' : Value) (x y : Nat) (h : NatAt w v x) (h' : NatAt w v' y) (hn : nw x ≤ 1000000000) (hn' : nw y ≤ 1000000000) :
    Calls Tryz.prog 91 #[v, v'] w (NatRet w (Nat.gcd x y)) := by
  by_cases h1 : x = 1 ∨ y = 1
  · exact n_gcd_one w v v' x y h h' h1
  · rcases Nat.lt_or_ge x y with hl | hl
    · rw [Nat.gcd_comm]
      exact g_gcd_swap w v' v y x h' h hn' (by omega) (by omega) hl
    · exact g_gcd_low w v v' x y h h' hn (by omega) (by omega) hl
end Go.Proofs.YtnfncdalneifnaaGreatDoor

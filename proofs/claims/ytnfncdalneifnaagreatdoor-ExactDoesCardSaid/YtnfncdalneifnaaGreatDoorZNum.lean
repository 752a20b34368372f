/- Numbers of values, and values of numbers. -/
import Derived.Test.YtnfncdalneifnaaGreatDoorZOrd
import Derived.Laws.Rows
import Derived.Test.YtnfncdalneifnaaGreatDoorZClo

/- Numbers of values, and values of numbers. -/
section
namespace Go.Proofs.YtnfncdalneifnaaGreatDoor
open Go.RowKit Go.Deep

set_option maxRecDepth 100000 in
set_option maxHeartbeats 4000000 in
theorem c_rat (w : World) (n d : Int) (h : Low n d) :
    Calls Tryz.prog 57 #[V 2 n d noS] w (RatRet w (sgn (decide (n < 0)) n.natAbs) n.natAbs d.natAbs) := by
  obtain ⟨W, b, hW, hb, hlt, hbel, K⟩ := box_facts w 2 n d noS
  have HW := Lib.hid hW
  have HB := Lib.hid hb
  obtain ⟨h1, h2, h3, h4, _⟩ := h
  have HA := Lib.hid (fun X => c_absolute n X (by omega) (by omega))
  have HN := Lib.hid (fun X => n_word X n.natAbs (by unfold W64; omega))
  have HD : Hid (∀ X, Calls Tryz.prog 41 #[.int .u64 d] X (NatRet X d.natAbs)) := fun X => by
    have h9 := n_word X d.natAbs (by unfold W64; omega)
    rw [show U d.natAbs = .int .u64 d from by show Value.int _ _ = _; congr 1; omega] at h9
    exact h9
  have HD2 : Hid (∀ X, Calls Tryz.prog 41 #[.int .u64 (IntKind.u64.wrap d)] X (NatRet X d.natAbs)) := fun X => by
    have h9 := HD.out X
    rw [show Value.int .u64 d = .int .u64 (IntKind.u64.wrap d) from by rw [IntKind.wrap_u64]; congr 1; omega] at h9
    exact h9
  clear hW hb
  go_enter Tryz.func57, Tryz.ntmps57
  go_wp2_with fail
  rw [HW.out, HB.out]
  rw [HB.out] at hbel
  have B0 : Below W.heap.size W W.drew := Below.drew (Below.refl _ _)
  go_region_held3 (fun w' => w'.cell? ⟨b, 0, none⟩ = some (.int .i64 2) ∧ w'.cell? ⟨b, 1, none⟩ = some (.int .i64 n) ∧ w'.cell? ⟨b, 2, none⟩ = some (.int .i64 d) ∧ w'.cell? ⟨b, 3, none⟩ = some (.string noS))
    (first | exact K.out _ BM | exact K.out _ BD | exact K.out _ BN | exact K.out _ B0 | exact K.out _ (Below.refl _ _)) (first
      | (go_at_call 38; refine (HA.out _).mono ?_; rintro e w' ⟨rfl, rfl⟩)
      | (go_at_call_of 41 n; refine (HN.out _).mono ?_; rintro e w1 ⟨u, rfl, hu, hb1⟩; have BN : Below W.heap.size W w1 := (by first | exact btr BD hb1 | exact btr B0 hb1))
      | (go_at_call_of 41 d; refine (HD.out _).mono ?_; rintro e w2 ⟨u', rfl, hu', hb2⟩; have BD : Below W.heap.size W w2 := (by first | exact btr BN hb2 | exact btr B0 hb2))
      | (go_at_call_of 41 d; refine (HD2.out _).mono ?_; rintro e w2 ⟨u', rfl, hu', hb2⟩; have BD : Below W.heap.size W w2 := (by first | exact btr BN hb2 | exact btr B0 hb2))
      | (go_at_call 40; refine (c_made _ u u' (decide (n < 0)) _ _ (by first | exact hu.below hb2 | exact hu) (by first | exact hu'.below hb1 | exact hu')).mono ?_; rintro e w3 ⟨rr, rfl, hrr, hb3⟩; have BM : Below W.heap.size W w3 := (by first | exact btr BD hb3 | exact btr BN hb3)))
  all_goals
    go_wp2
    go_ret
    refine ⟨rr, rfl, hrr, ?_⟩
    have e9 := HB.out
    rw [e9]
    exact hbel.trans (BM.mono (by have := hbel.size; omega))
end Go.Proofs.YtnfncdalneifnaaGreatDoor
end

/- The chapter's examples of sums and quotients of values. -/
section
namespace Go.Proofs.YtnfncdalneifnaaGreatDoor
open Go.RowKit Go.Deep

theorem gcds_small (x y : Nat) (hx : x < W64) (hy : y < W64) (hx0 : 0 < x) (hy0 : 0 < y) : Gcds x y :=
  .inr ⟨by omega, divAll_one _ _ (by omega) (by omega)⟩
theorem divs_small (x y : Nat) (hx : x < W64) (hy : y < W64) (hy0 : 0 < y) : Divs x y := ⟨hy, divAll_one _ _ hx hy0⟩
theorem addOk_small (num d1 d2 : Nat) (hn : num < W64) (hn0 : 0 < num) (h1 : d1 < W64) (h10 : 0 < d1) (h2 : d2 < W64) (h20 : 0 < d2) : AddOk num d1 d2 := by
  have g0 : 0 < Nat.gcd d1 d2 := Nat.gcd_pos_of_pos_left _ h10
  have g1 : Nat.gcd d1 d2 < W64 := Nat.lt_of_le_of_lt (Nat.gcd_le_left _ h10) h1
  have c0 : 0 < Nat.gcd num (Nat.gcd d1 d2) := Nat.gcd_pos_of_pos_left _ hn0
  have c1 : Nat.gcd num (Nat.gcd d1 d2) < W64 := Nat.lt_of_le_of_lt (Nat.gcd_le_left _ hn0) hn
  exact ⟨gcds_small _ _ h1 h2 h10 h20, divs_small _ _ h1 g1 g0, divs_small _ _ h2 g1 g0, gcds_small _ _ hn g1 hn0 g0, divs_small _ _ hn c1 c0, divs_small _ _ h2 c1 c0⟩
theorem nw_small (x : Nat) (h : x < W64) : nw x ≤ 100000 := Nat.le_trans ((nw_le_one x).2 h) (by omega)

theorem add_big (w : World) (x y : Value) (hx : RatAt w x false 1099511627776 1) (hy : RatAt w y false 1 1) :
    Calls Tryz.prog 10 #[x, y] w (RatRet w false 1099511627777 1) := by
  have e : addNum false 1099511627776 1 false 1 1 = 1099511627777 := by decide
  have h := c_Add w x y false false 1099511627776 1 1 1 hx hy (by omega) (nw_small _ (by decide)) (nw_small _ (by decide)) (nw_small _ (by decide)) (nw_small _ (by decide)) (by rw [e]; exact addOk_small _ _ _ (by decide) (by omega) (by decide) (by omega) (by decide) (by omega))
  rw [e] at h
  exact h
theorem add_three (w : World) (x : Value) (hx : RatAt w x true 3 2) :
    Calls Tryz.prog 10 #[x, x] w (RatRet w true 3 1) := by
  have e : addNum true 3 2 true 3 2 = 6 := by decide
  have h := c_Add w x x true true 3 2 3 2 hx hx (by omega) (nw_small _ (by decide)) (nw_small _ (by decide)) (nw_small _ (by decide)) (nw_small _ (by decide)) (by rw [e]; exact addOk_small _ _ _ (by decide) (by omega) (by decide) (by omega) (by decide) (by omega))
  rw [e] at h
  exact h

set_option maxRecDepth 100000 in
set_option maxHeartbeats 4000000 in
theorem value_over (w : World) (x : Value) (neg : Bool) (n d : Nat) (h : RatAt w x neg n d) (h1 : 1099511627776 < n) (h2 : n < W64) (h3 : 0 < d) (h4 : d < W64) :
    Calls Tryz.prog 109 #[x] w fun e w' => e = .returned (V 0 2 0 noS) ∧ Below w.heap.size w w' := by
  have HV := Lib.hid (fun W (hW : Below w.heap.size w W) => c_valid W x neg n d (h.below hW))
  obtain ⟨b, nv, dv, rfl, hlt, _, c1, c2, c3, hn, hd⟩ := h
  have HN := Lib.hid hn
  obtain ⟨A, c, rfl, _, _, _⟩ := hn
  obtain ⟨A', c', rfl, _, _, _⟩ := hd
  have e1 : nw n = 1 := nw_one n (by omega) h2
  have e2 : nw d = 1 := nw_one d h3 h4
  rw [e1] at c2 HN
  rw [e2] at c3
  have HA : Hid (∀ W, Below w.heap.size w W → Calls Tryz.prog 90 #[.slice A 1 c, .int .i64 0] W fun e w' => e = .returned (U n) ∧ W = w') := fun W hW => by
    have h9 := n_at W (.slice A 1 c) n 0 (HN.out.below hW)
    rw [dig_small n h2] at h9
    exact h9
  have h1' : (1099511627776 : Int) < (n : Int) := by omega
  clear e1 e2 h1 h2 h4 h3
  have HR0 := Lib.hid (heap_alloc_new w (.cells #[.int .i64 0, .int .i64 0, .int .i64 0, .string ⟨#[]⟩] 25))
  have HC : Hid (∀ W, Below w.heap.size w W → W.cell? ⟨b, 2, none⟩ = some (.slice A 1 c) ∧ W.cell? ⟨b, 3, none⟩ = some (.slice A' 1 c')) := fun W hW => ⟨(hW.cell (p := ⟨b, 2, none⟩) hlt).trans c2, (hW.cell (p := ⟨b, 3, none⟩) hlt).trans c3⟩
  clear c1 c2 c3 HN
  go_enter Tryz.func109, Tryz.ntmps109
  go_wp2_with fail
  generalize HW : w.alloc (.cells #[.int .i64 0, .int .i64 0, .int .i64 0, .string ⟨#[]⟩] 25) = W0 at *
  have B0 : Below w.heap.size w W0 := by rw [← HW]; exact (Below.refl _ _).alloc (Nat.le_refl _) _
  have hz0 : w.heap.size < W0.heap.size := by rw [← HW]; simp
  clear HW
  refine (HV.out _ B0).mono ?_
  rintro e w' ⟨rfl, rfl⟩
  obtain ⟨c2, c3⟩ := HC.out _ B0
  clear HV
  go_wp2_with fail
  refine (HA.out _ B0).mono ?_
  rintro e w' ⟨rfl, rfl⟩
  clear HA
  go_wp2_with fail
  refine (c_missing 2 _).mono ?_
  rintro e w1 ⟨rfl, hb1⟩
  have hh1 := (hb1.block _ hz0).trans HR0.out
  obtain ⟨r0, r1, r2, r3, f0, f1, f2, f3⟩ := res_at hh1
  have HH1 := Lib.hid hh1
  clear hh1 c2 c3
  go_wp2
  exact bodyPost_ret (v := V 0 2 0 noS) (results_cell_row Tryz.results109 _ _ w.heap.size 25 _ (0, 0) _ rfl (put4 HH1.out _ _ _ _) Tryz.underlying25 rfl (by rw [info_v4]; rfl)) rfl ⟨rfl, below4 (btr B0 hb1) _ (Nat.le_refl _) _ _ _ _⟩
set_option maxRecDepth 100000 in
set_option maxHeartbeats 400000 in
theorem value_nil (w : World) :
    Calls Tryz.prog 109 #[.pointer none] w fun e w' => e = .returned (V 0 0 0 noS) ∧ Below w.heap.size w w' := by
  have HV := Lib.hid (fun W => c_valid_nil W)
  go_enter Tryz.func109, Tryz.ntmps109
  go_wp2_with fail
  refine (HV.out _).mono ?_
  rintro e w' ⟨rfl, rfl⟩
  clear HV
  go_wp2
  exact bodyPost_ret (v := V 0 0 0 noS) (by simp [results, Tryz.results109, go_sem]) rfl ⟨rfl, (Below.refl _ _).alloc (Nat.le_refl _) _⟩
end Go.Proofs.YtnfncdalneifnaaGreatDoor
end

/- The operations' runs at the chapter's examples. -/
section
namespace Go.Proofs.YtnfncdalneifnaaGreatDoor
open Go.RowKit Go.Deep

theorem rat_big (w : World) : Calls Tryz.prog 57 #[V 2 1099511627776 1 noS] w (RatRet w false 1099511627776 1) := c_rat w 1099511627776 1 (low1 _ (by omega) (by omega))
theorem rat_one (w : World) : Calls Tryz.prog 57 #[V 2 1 1 noS] w (RatRet w false 1 1) := c_rat w 1 1 (low1 _ (by omega) (by omega))
theorem rat_zero (w : World) : Calls Tryz.prog 57 #[V 2 0 1 noS] w (RatRet w false 0 1) := c_rat w 0 1 (low1 _ (by omega) (by omega))

set_option maxRecDepth 100000 in
set_option maxHeartbeats 4000000 in
theorem r_add (w : World) (b c : Nat) (hb : b < w.heap.size) (h1 : ValIn w b 0 2 1099511627776 1 noS) (h2 : ValIn w b 4 2 1 1 noS) :
    Calls Tryz.prog 117 #[.slice (some ⟨b, 0, none⟩) 2 c] w fun e w' => e = .returned (V 0 2 0 noS) ∧ Below w.heap.size w w' := by
  have K := Lib.hid (two_of hb h1 h2)
  have HR0 := Lib.hid (heap_alloc_new w (.cells #[.int .i64 0, .int .i64 0, .int .i64 0, .string ⟨#[]⟩] 25))
  clear h1 h2
  go_enter Tryz.func117, Tryz.ntmps117
  go_wp2_with fail
  generalize HW : w.alloc (.cells #[.int .i64 0, .int .i64 0, .int .i64 0, .string ⟨#[]⟩] 25) = W0 at *
  have B0 : Below w.heap.size w W0 := by rw [← HW]; exact (Below.refl _ _).alloc (Nat.le_refl _) _
  have hz0 : w.heap.size < W0.heap.size := by rw [← HW]; simp
  clear HW
  have KH : Hid (∀ W, Below W0.heap.size W0 W → W.heap[w.heap.size]? = some (.cells #[.int .i64 0, .int .i64 0, .int .i64 0, .string ⟨#[]⟩] 25 (0, 0))) := fun W hW => (hW.block _ hz0).trans HR0.out
  have KR : Hid (∀ W, Below W0.heap.size W0 W → ResAt W w.heap.size) := fun W hW => res_at ((hW.block _ hz0).trans HR0.out)
  have B0d : Below W0.heap.size W0 W0.drew := Below.drew (Below.refl _ _)
  go_region_held3 (fun w' => (w'.cell? ⟨b, 0, none⟩ = some (.int .i64 2) ∧ w'.cell? ⟨b, 1, none⟩ = some (.int .i64 1099511627776) ∧ w'.cell? ⟨b, 2, none⟩ = some (.int .i64 1) ∧ w'.cell? ⟨b, 3, none⟩ = some (.string noS)) ∧
  (w'.cell? ⟨b, 4, none⟩ = some (.int .i64 2) ∧ w'.cell? ⟨b, 5, none⟩ = some (.int .i64 1) ∧ w'.cell? ⟨b, 6, none⟩ = some (.int .i64 1) ∧ w'.cell? ⟨b, 7, none⟩ = some (.string noS)))
    (first | exact K.out _ (below4 (btr B0 B4) _ (Nat.le_refl w.heap.size) _ _ _ _) | exact K.out _ (btr B0 B4) | exact K.out _ (btr B0 B3) | exact K.out _ (btr B0 B2) | exact K.out _ (btr B0 B1) | exact K.out _ (btr B0 B0d) | exact K.out _ B0) (first
      | (go_at_call 57; (with_reducible refine (rat_big _).mono ?_); rintro e w1 ⟨u, rfl, hu, hb1⟩; have B1 : Below W0.heap.size W0 w1 := (by first | exact btr B2 hb1 | exact btr B0d hb1))
      | (go_at_call 57; (with_reducible refine (rat_one _).mono ?_); rintro e w2 ⟨u', rfl, hu', hb2⟩; have B2 : Below W0.heap.size W0 w2 := (by first | exact btr B1 hb2 | exact btr B0d hb2))
      | (go_at_call 10; refine (add_big _ u u' (by first | exact hu.below hb2 | exact hu) (by first | exact hu'.below hb1 | exact hu')).mono ?_; rintro e w3 ⟨q, rfl, hq, hb3⟩; have B3 : Below W0.heap.size W0 w3 := (by first | exact btr B2 hb3 | exact btr B1 hb3))
      | (go_at_call 109; refine (value_over _ q false 1099511627777 1 hq (by omega) (by decide) (by omega) (by decide)).mono ?_; rintro e w4 ⟨rfl, hb4⟩; have B4 : Below W0.heap.size W0 w4 := btr B3 hb4; obtain ⟨r0, r1, r2, r3, f0, f1, f2, f3⟩ := KR.out _ B4))
  all_goals
    go_wp2
    exact bodyPost_ret (v := V 0 2 0 noS) (results_cell_row Tryz.results117 _ _ w.heap.size 25 _ (0, 0) _ rfl (put4 (KH.out _ B4) _ _ _ _) Tryz.underlying25 rfl (by rw [info_v4]; rfl)) rfl ⟨rfl, below4 (btr B0 B4) _ (Nat.le_refl _) _ _ _ _⟩

set_option maxHeartbeats 1000000 in
theorem quo_zero (w : World) (x y : Value) (hx : RatAt w x false 1 1) (hy : RatAt w y false 0 1) :
    Calls Tryz.prog 173 #[x, y] w fun e w' => e = .returned (.tuple #[.pointer none, .int .i64 2]) ∧ w = w' := by
  have HV1 := Lib.hid (c_valid w x false 1 1 hx)
  have HV2 := Lib.hid (c_valid w y false 0 1 hy)
  obtain ⟨b, nv, dv, rfl, hlt, _, c1, c2, c3, hn, hd⟩ := hy
  obtain ⟨A, c, rfl, _, _, _⟩ := hn
  rw [nw_zero] at c2
  clear hd hx c3
  go_enter Tryz.func173, Tryz.ntmps173
  go_wp2_with fail
  refine HV1.out.mono ?_
  rintro e w' ⟨rfl, rfl⟩
  go_wp2_with fail
  refine HV2.out.mono ?_
  rintro e w' ⟨rfl, rfl⟩
  clear HV1 HV2
  go_wp2
  go_ret2
  exact ⟨rfl, rfl⟩

set_option maxRecDepth 100000 in
set_option maxHeartbeats 4000000 in
theorem r_div (w : World) (b c : Nat) (hb : b < w.heap.size) (h1 : ValIn w b 0 2 1 1 noS) (h2 : ValIn w b 4 2 0 1 noS) :
    Calls Tryz.prog 121 #[.slice (some ⟨b, 0, none⟩) 2 c] w fun e w' => e = .returned (V 0 3 0 noS) ∧ Below w.heap.size w w' := by
  have K := Lib.hid (two_of hb h1 h2)
  have HR0 := Lib.hid (heap_alloc_new w (.cells #[.int .i64 0, .int .i64 0, .int .i64 0, .string ⟨#[]⟩] 25))
  clear h1 h2
  go_enter Tryz.func121, Tryz.ntmps121
  go_wp2_with fail
  generalize HW : w.alloc (.cells #[.int .i64 0, .int .i64 0, .int .i64 0, .string ⟨#[]⟩] 25) = W0 at *
  have B0 : Below w.heap.size w W0 := by rw [← HW]; exact (Below.refl _ _).alloc (Nat.le_refl _) _
  have hz0 : w.heap.size < W0.heap.size := by rw [← HW]; simp
  clear HW
  have KH : Hid (∀ W, Below W0.heap.size W0 W → W.heap[w.heap.size]? = some (.cells #[.int .i64 0, .int .i64 0, .int .i64 0, .string ⟨#[]⟩] 25 (0, 0))) := fun W hW => (hW.block _ hz0).trans HR0.out
  have KR : Hid (∀ W, Below W0.heap.size W0 W → ResAt W w.heap.size) := fun W hW => res_at ((hW.block _ hz0).trans HR0.out)
  have B0d : Below W0.heap.size W0 W0.drew := Below.drew (Below.refl _ _)
  go_region_held3 (fun w' => (w'.cell? ⟨b, 0, none⟩ = some (.int .i64 2) ∧ w'.cell? ⟨b, 1, none⟩ = some (.int .i64 1) ∧ w'.cell? ⟨b, 2, none⟩ = some (.int .i64 1) ∧ w'.cell? ⟨b, 3, none⟩ = some (.string noS)) ∧
  (w'.cell? ⟨b, 4, none⟩ = some (.int .i64 2) ∧ w'.cell? ⟨b, 5, none⟩ = some (.int .i64 0) ∧ w'.cell? ⟨b, 6, none⟩ = some (.int .i64 1) ∧ w'.cell? ⟨b, 7, none⟩ = some (.string noS)))
    (first | exact K.out _ (btr B0 B2) | exact K.out _ (btr B0 B1) | exact K.out _ (btr B0 B0d) | exact K.out _ B0) (first
      | (go_at_call 57; (with_reducible refine (rat_one _).mono ?_); rintro e w1 ⟨u, rfl, hu, hb1⟩; have B1 : Below W0.heap.size W0 w1 := (by first | exact btr B2 hb1 | exact btr B0d hb1))
      | (go_at_call 57; (with_reducible refine (rat_zero _).mono ?_); rintro e w2 ⟨u', rfl, hu', hb2⟩; have B2 : Below W0.heap.size W0 w2 := (by first | exact btr B1 hb2 | exact btr B0d hb2))
      | (go_at_call 173; refine (quo_zero _ u u' (by first | exact hu.below hb2 | exact hu) (by first | exact hu'.below hb1 | exact hu')).mono ?_; rintro e w3 ⟨rfl, rfl⟩))
  all_goals
    go_wp2_with fail
    refine (c_missing 3 _).mono ?_
    rintro e w4 ⟨rfl, hb4⟩
    have B4 : Below W0.heap.size W0 w4 := (by first | exact btr B2 hb4 | exact btr B1 hb4)
    obtain ⟨r0, r1, r2, r3, f0, f1, f2, f3⟩ := KR.out _ B4
    go_wp2
    exact bodyPost_ret (v := V 0 3 0 noS) (results_cell_row Tryz.results121 _ _ w.heap.size 25 _ (0, 0) _ rfl (put4 (KH.out _ B4) _ _ _ _) Tryz.underlying25 rfl (by rw [info_v4]; rfl)) rfl ⟨rfl, below4 (btr B0 B4) _ (Nat.le_refl _) _ _ _ _⟩
end Go.Proofs.YtnfncdalneifnaaGreatDoor
end

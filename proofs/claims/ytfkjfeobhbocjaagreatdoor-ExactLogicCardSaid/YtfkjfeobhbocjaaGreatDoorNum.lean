/- The chapter's examples of sums and quotients of values. -/
import Derived.Test.YtfkjfeobhbocjaaGreatDoorRv
import Derived.Test.YtfkjfeobhbocjaaGreatDoorClo
namespace Go.Proofs.YtfkjfeobhbocjaaGreatDoor
open Go.RowKit Go.Deep

theorem gcds_small (x y : Nat) (hx : x < W64) (hy : y < W64) (hx0 : 0 < x) (hy0 : 0 < y) : Gcds x y :=
  .inr ⟨by omega, divAll_one _ _ (by omega) (by omega)⟩
theorem divs_small (x y : Nat) (hx : x < W64) (hy : y < W64) (hy0 : 0 < y) : Divs x y := ⟨hy, divAll_one _ _ hx hy0⟩
theorem addOk_small (num d1 d2 : Nat) (hn : num < W64) (hn0 : 0 < num) (h1 : d1 < W64) (h10 : 0 < d1) (h2 : d2 < W64) (h20 : 0 < d2) : AddOk num d1 d2 := by
  have g0 : 0 < Nat.gcd d1 d2 := Nat.gcd_pos_of_pos_left _ h10
  have g1 : Nat.gcd d1 d2 < W64 := Nat.lt_of_le_of_lt (Nat.gcd_le_left _ h10) h1
  have c0 : 0 < Nat.gcd num (Nat.gcd d1 d2) := Nat.gcd_pos_of_pos_left _ hn0
  have c1 : Nat.gcd num (Nat.gcd d1 d2) < W64 := Nat.lt_of_le_of_lt (Nat.gcd_le_left _ hn0) hn
  exact ⟨gcds_small _ _ h1 h2 h10 h20, divs_small _ _ h1 g1 g0, divs_small _ _ h2 g1 g0, gcds_small _ _ hn g1 hn0 g0, divs_small _ _ hn c1 c0, divs_small _ _ h2 c1 c0⟩
theorem addOk_one (num d2 : Nat) (hn : num < W64) (h2 : d2 < W64) : AddOk num 1 d2 := by
  have e1 : Nat.gcd 1 d2 = 1 := Nat.gcd_one_left _
  refine ⟨.inl (.inl rfl), ?_, ?_, ?_, ?_, ?_⟩ <;> rw [e1]
  · exact divs_small _ _ (by decide) (by decide) (by omega)
  · exact divs_small _ _ h2 (by decide) (by omega)
  · exact .inl (.inr rfl)
  · rw [Nat.gcd_one_right]; exact divs_small _ _ hn (by decide) (by omega)
  · rw [Nat.gcd_one_right]; exact divs_small _ _ h2 (by decide) (by omega)
theorem nw_small (x : Nat) (h : x < W64) : nw x ≤ 100000 := Nat.le_trans ((nw_le_one x).2 h) (by omega)

theorem add_big (w : World) (x y : Value) (hx : RatAt w x false 1099511627776 1) (hy : RatAt w y false 1 1) :
    Calls Tryz.prog 16 #[x, y] w (RatRet w false 1099511627777 1) := by
  have e : addNum false 1099511627776 1 false 1 1 = 1099511627777 := by decide
  have h := c_Add w x y false false 1099511627776 1 1 1 hx hy (by omega) (nw_small _ (by decide)) (nw_small _ (by decide)) (nw_small _ (by decide)) (nw_small _ (by decide)) (by rw [e]; exact addOk_small _ _ _ (by decide) (by omega) (by decide) (by omega) (by decide) (by omega))
  rw [e] at h
  exact h
theorem add_three (w : World) (x : Value) (hx : RatAt w x true 3 2) :
    Calls Tryz.prog 16 #[x, x] w (RatRet w true 3 1) := by
  have e : addNum true 3 2 true 3 2 = 6 := by decide
  have h := c_Add w x x true true 3 2 3 2 hx hx (by omega) (nw_small _ (by decide)) (nw_small _ (by decide)) (nw_small _ (by decide)) (nw_small _ (by decide)) (by rw [e]; exact addOk_small _ _ _ (by decide) (by omega) (by decide) (by omega) (by decide) (by omega))
  rw [e] at h
  exact h

set_option maxRecDepth 100000 in
set_option maxHeartbeats 4000000 in
theorem value_over (w : World) (x : Value) (neg : Bool) (n d : Nat) (h : RatAt w x neg n d) (h1 : 1099511627776 < n) (h2 : n < W64) (h3 : 0 < d) (h4 : d < W64) :
    Calls Tryz.prog 21 #[x] w fun e w' => e = .returned (V 0 2 0 noS) ∧ Below w.heap.size w w' := by
  have HV := Lib.hid (fun W (hW : Below w.heap.size w W) => c_valid W x neg n d (h.below hW))
  obtain ⟨b, nv, dv, rfl, hlt, _, c1, c2, c3, hn, hd⟩ := h
  have HN := Lib.hid hn
  obtain ⟨A, c, rfl, _, _, _⟩ := hn
  obtain ⟨A', c', rfl, _, _, _⟩ := hd
  have e1 : nw n = 1 := nw_one n (by omega) h2
  have e2 : nw d = 1 := nw_one d h3 h4
  rw [e1] at c2 HN
  rw [e2] at c3
  have HA : Hid (∀ W, Below w.heap.size w W → Calls Tryz.prog 53 #[.slice A 1 c, .int .i64 0] W fun e w' => e = .returned (U n) ∧ W = w') := fun W hW => by
    have h9 := n_at W (.slice A 1 c) n 0 (HN.out.below hW)
    rw [dig_small n h2] at h9
    exact h9
  have h1' : (1099511627776 : Int) < (n : Int) := by omega
  clear e1 e2 h1 h2 h4 h3
  have HR0 := Lib.hid (heap_alloc_new w (.cells #[.int .i64 0, .int .i64 0, .int .i64 0, .string ⟨#[]⟩] 46))
  have HC : Hid (∀ W, Below w.heap.size w W → W.cell? ⟨b, 2, none⟩ = some (.slice A 1 c) ∧ W.cell? ⟨b, 3, none⟩ = some (.slice A' 1 c')) := fun W hW => ⟨(hW.cell (p := ⟨b, 2, none⟩) hlt).trans c2, (hW.cell (p := ⟨b, 3, none⟩) hlt).trans c3⟩
  clear c1 c2 c3 HN
  go_enter Tryz.func21, Tryz.ntmps21
  go_wp2_with fail
  generalize HW : w.alloc (.cells #[.int .i64 0, .int .i64 0, .int .i64 0, .string ⟨#[]⟩] 46) = W0 at *
  have B0 : Below w.heap.size w W0 := by rw [← HW]; exact (Below.refl _ _).alloc (Nat.le_refl _) _
  have hz0 : w.heap.size < W0.heap.size := by rw [← HW]; simp
  clear HW
  refine (HV.out _ B0).mono ?_
  rintro e w' ⟨rfl, rfl⟩
  obtain ⟨c2, c3⟩ := HC.out _ B0
  clear HV
  go_wp2_with fail
  refine (HA.out _ B0).mono ?_
  rintro e w' ⟨rfl, rfl⟩
  clear HA
  go_wp2_with fail
  refine (c_missing 2 _).mono ?_
  rintro e w1 ⟨rfl, hb1⟩
  have hh1 := (hb1.block _ hz0).trans HR0.out
  obtain ⟨r0, r1, r2, r3, f0, f1, f2, f3⟩ := res_at hh1
  have HH1 := Lib.hid hh1
  clear hh1 c2 c3
  go_wp2
  exact bodyPost_ret (v := V 0 2 0 noS) (results_cell_row Tryz.results21 _ _ w.heap.size 46 _ (0, 0) _ rfl (put4 HH1.out _ _ _ _) Tryz.underlying46 rfl (by rw [info_v4]; rfl)) rfl ⟨rfl, below4 (btr B0 hb1) _ (Nat.le_refl _) _ _ _ _⟩
set_option maxRecDepth 100000 in
set_option maxHeartbeats 400000 in
theorem value_nil (w : World) :
    Calls Tryz.prog 21 #[.pointer none] w fun e w' => e = .returned (V 0 0 0 noS) ∧ Below w.heap.size w w' := by
  have HV := Lib.hid (fun W => c_valid_nil W)
  go_enter Tryz.func21, Tryz.ntmps21
  go_wp2_with fail
  refine (HV.out _).mono ?_
  rintro e w' ⟨rfl, rfl⟩
  clear HV
  go_wp2
  exact bodyPost_ret (v := V 0 0 0 noS) (by simp [results, Tryz.results21, go_sem]) rfl ⟨rfl, (Below.refl _ _).alloc (Nat.le_refl _) _⟩
end Go.Proofs.YtfkjfeobhbocjaaGreatDoor

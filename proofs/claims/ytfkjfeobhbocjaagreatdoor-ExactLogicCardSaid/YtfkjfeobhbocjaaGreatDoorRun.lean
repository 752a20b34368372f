/- The operations' runs at the chapter's examples. -/
import Derived.Test.YtfkjfeobhbocjaaGreatDoorNum
namespace Go.Proofs.YtfkjfeobhbocjaaGreatDoor
open Go.RowKit Go.Deep

theorem rat_big (w : World) : Calls Tryz.prog 64 #[V 2 1099511627776 1 noS] w (RatRet w false 1099511627776 1) := c_rat w 1099511627776 1 (low1 _ (by omega) (by omega))
theorem rat_one (w : World) : Calls Tryz.prog 64 #[V 2 1 1 noS] w (RatRet w false 1 1) := c_rat w 1 1 (low1 _ (by omega) (by omega))
theorem rat_zero (w : World) : Calls Tryz.prog 64 #[V 2 0 1 noS] w (RatRet w false 0 1) := c_rat w 0 1 (low1 _ (by omega) (by omega))

set_option maxRecDepth 100000 in
set_option maxHeartbeats 4000000 in
theorem r_add (w : World) (b c : Nat) (hb : b < w.heap.size) (h1 : ValIn w b 0 2 1099511627776 1 noS) (h2 : ValIn w b 4 2 1 1 noS) :
    Calls Tryz.prog 107 #[.slice (some ⟨b, 0, none⟩) 2 c] w fun e w' => e = .returned (V 0 2 0 noS) ∧ Below w.heap.size w w' := by
  have K := Lib.hid (two_of hb h1 h2)
  have HR0 := Lib.hid (heap_alloc_new w (.cells #[.int .i64 0, .int .i64 0, .int .i64 0, .string ⟨#[]⟩] 46))
  clear h1 h2
  go_enter Tryz.func107, Tryz.ntmps107
  go_wp2_with fail
  generalize HW : w.alloc (.cells #[.int .i64 0, .int .i64 0, .int .i64 0, .string ⟨#[]⟩] 46) = W0 at *
  have B0 : Below w.heap.size w W0 := by rw [← HW]; exact (Below.refl _ _).alloc (Nat.le_refl _) _
  have hz0 : w.heap.size < W0.heap.size := by rw [← HW]; simp
  clear HW
  have KH : Hid (∀ W, Below W0.heap.size W0 W → W.heap[w.heap.size]? = some (.cells #[.int .i64 0, .int .i64 0, .int .i64 0, .string ⟨#[]⟩] 46 (0, 0))) := fun W hW => (hW.block _ hz0).trans HR0.out
  have KR : Hid (∀ W, Below W0.heap.size W0 W → ResAt W w.heap.size) := fun W hW => res_at ((hW.block _ hz0).trans HR0.out)
  have B0d : Below W0.heap.size W0 W0.drew := Below.drew (Below.refl _ _)
  go_region_held3 (fun w' => (w'.cell? ⟨b, 0, none⟩ = some (.int .i64 2) ∧ w'.cell? ⟨b, 1, none⟩ = some (.int .i64 1099511627776) ∧ w'.cell? ⟨b, 2, none⟩ = some (.int .i64 1) ∧ w'.cell? ⟨b, 3, none⟩ = some (.string noS)) ∧
  (w'.cell? ⟨b, 4, none⟩ = some (.int .i64 2) ∧ w'.cell? ⟨b, 5, none⟩ = some (.int .i64 1) ∧ w'.cell? ⟨b, 6, none⟩ = some (.int .i64 1) ∧ w'.cell? ⟨b, 7, none⟩ = some (.string noS)))
    (first | exact K.out _ (below4 (btr B0 B4) _ (Nat.le_refl w.heap.size) _ _ _ _) | exact K.out _ (btr B0 B4) | exact K.out _ (btr B0 B3) | exact K.out _ (btr B0 B2) | exact K.out _ (btr B0 B1) | exact K.out _ (btr B0 B0d) | exact K.out _ B0) (first
      | (go_at_call 64; (with_reducible refine (rat_big _).mono ?_); rintro e w1 ⟨u, rfl, hu, hb1⟩; have B1 : Below W0.heap.size W0 w1 := (by first | exact btr B2 hb1 | exact btr B0d hb1))
      | (go_at_call 64; (with_reducible refine (rat_one _).mono ?_); rintro e w2 ⟨u', rfl, hu', hb2⟩; have B2 : Below W0.heap.size W0 w2 := (by first | exact btr B1 hb2 | exact btr B0d hb2))
      | (go_at_call 16; refine (add_big _ u u' (by first | exact hu.below hb2 | exact hu) (by first | exact hu'.below hb1 | exact hu')).mono ?_; rintro e w3 ⟨q, rfl, hq, hb3⟩; have B3 : Below W0.heap.size W0 w3 := (by first | exact btr B2 hb3 | exact btr B1 hb3))
      | (go_at_call 21; refine (value_over _ q false 1099511627777 1 hq (by omega) (by decide) (by omega) (by decide)).mono ?_; rintro e w4 ⟨rfl, hb4⟩; have B4 : Below W0.heap.size W0 w4 := btr B3 hb4; obtain ⟨r0, r1, r2, r3, f0, f1, f2, f3⟩ := KR.out _ B4))
  all_goals
    go_wp2
    exact bodyPost_ret (v := V 0 2 0 noS) (results_cell_row Tryz.results107 _ _ w.heap.size 46 _ (0, 0) _ rfl (put4 (KH.out _ B4) _ _ _ _) Tryz.underlying46 rfl (by rw [info_v4]; rfl)) rfl ⟨rfl, below4 (btr B0 B4) _ (Nat.le_refl _) _ _ _ _⟩

set_option maxHeartbeats 1000000 in
theorem quo_zero (w : World) (x y : Value) (hx : RatAt w x false 1 1) (hy : RatAt w y false 0 1) :
    Calls Tryz.prog 10 #[x, y] w fun e w' => e = .returned (.tuple #[.pointer none, .int .i64 2]) ∧ w = w' := by
  have HV1 := Lib.hid (c_valid w x false 1 1 hx)
  have HV2 := Lib.hid (c_valid w y false 0 1 hy)
  obtain ⟨b, nv, dv, rfl, hlt, _, c1, c2, c3, hn, hd⟩ := hy
  obtain ⟨A, c, rfl, _, _, _⟩ := hn
  rw [nw_zero] at c2
  clear hd hx c3
  go_enter Tryz.func10, Tryz.ntmps10
  go_wp2_with fail
  refine HV1.out.mono ?_
  rintro e w' ⟨rfl, rfl⟩
  go_wp2_with fail
  refine HV2.out.mono ?_
  rintro e w' ⟨rfl, rfl⟩
  clear HV1 HV2
  go_wp2
  go_ret2
  exact ⟨rfl, rfl⟩

set_option maxRecDepth 100000 in
set_option maxHeartbeats 4000000 in
theorem r_div (w : World) (b c : Nat) (hb : b < w.heap.size) (h1 : ValIn w b 0 2 1 1 noS) (h2 : ValIn w b 4 2 0 1 noS) :
    Calls Tryz.prog 110 #[.slice (some ⟨b, 0, none⟩) 2 c] w fun e w' => e = .returned (V 0 3 0 noS) ∧ Below w.heap.size w w' := by
  have K := Lib.hid (two_of hb h1 h2)
  have HR0 := Lib.hid (heap_alloc_new w (.cells #[.int .i64 0, .int .i64 0, .int .i64 0, .string ⟨#[]⟩] 46))
  clear h1 h2
  go_enter Tryz.func110, Tryz.ntmps110
  go_wp2_with fail
  generalize HW : w.alloc (.cells #[.int .i64 0, .int .i64 0, .int .i64 0, .string ⟨#[]⟩] 46) = W0 at *
  have B0 : Below w.heap.size w W0 := by rw [← HW]; exact (Below.refl _ _).alloc (Nat.le_refl _) _
  have hz0 : w.heap.size < W0.heap.size := by rw [← HW]; simp
  clear HW
  have KH : Hid (∀ W, Below W0.heap.size W0 W → W.heap[w.heap.size]? = some (.cells #[.int .i64 0, .int .i64 0, .int .i64 0, .string ⟨#[]⟩] 46 (0, 0))) := fun W hW => (hW.block _ hz0).trans HR0.out
  have KR : Hid (∀ W, Below W0.heap.size W0 W → ResAt W w.heap.size) := fun W hW => res_at ((hW.block _ hz0).trans HR0.out)
  have B0d : Below W0.heap.size W0 W0.drew := Below.drew (Below.refl _ _)
  go_region_held3 (fun w' => (w'.cell? ⟨b, 0, none⟩ = some (.int .i64 2) ∧ w'.cell? ⟨b, 1, none⟩ = some (.int .i64 1) ∧ w'.cell? ⟨b, 2, none⟩ = some (.int .i64 1) ∧ w'.cell? ⟨b, 3, none⟩ = some (.string noS)) ∧
  (w'.cell? ⟨b, 4, none⟩ = some (.int .i64 2) ∧ w'.cell? ⟨b, 5, none⟩ = some (.int .i64 0) ∧ w'.cell? ⟨b, 6, none⟩ = some (.int .i64 1) ∧ w'.cell? ⟨b, 7, none⟩ = some (.string noS)))
    (first | exact K.out _ (btr B0 B2) | exact K.out _ (btr B0 B1) | exact K.out _ (btr B0 B0d) | exact K.out _ B0) (first
      | (go_at_call 64; (with_reducible refine (rat_one _).mono ?_); rintro e w1 ⟨u, rfl, hu, hb1⟩; have B1 : Below W0.heap.size W0 w1 := (by first | exact btr B2 hb1 | exact btr B0d hb1))
      | (go_at_call 64; (with_reducible refine (rat_zero _).mono ?_); rintro e w2 ⟨u', rfl, hu', hb2⟩; have B2 : Below W0.heap.size W0 w2 := (by first | exact btr B1 hb2 | exact btr B0d hb2))
      | (go_at_call 10; refine (quo_zero _ u u' (by first | exact hu.below hb2 | exact hu) (by first | exact hu'.below hb1 | exact hu')).mono ?_; rintro e w3 ⟨rfl, rfl⟩))
  all_goals
    go_wp2_with fail
    refine (c_missing 3 _).mono ?_
    rintro e w4 ⟨rfl, hb4⟩
    have B4 : Below W0.heap.size W0 w4 := (by first | exact btr B2 hb4 | exact btr B1 hb4)
    obtain ⟨r0, r1, r2, r3, f0, f1, f2, f3⟩ := KR.out _ B4
    go_wp2
    exact bodyPost_ret (v := V 0 3 0 noS) (results_cell_row Tryz.results110 _ _ w.heap.size 46 _ (0, 0) _ rfl (put4 (KH.out _ B4) _ _ _ _) Tryz.underlying46 rfl (by rw [info_v4]; rfl)) rfl ⟨rfl, below4 (btr B0 B4) _ (Nat.le_refl _) _ _ _ _⟩
end Go.Proofs.YtfkjfeobhbocjaaGreatDoor

/- Truth values: what decides, and what is passed on. -/
import Derived.Test.YtfkjfeobhbocjaaGreatDoorDoG
import Derived.Test.YtfkjfeobhbocjaaGreatDoorClo
namespace Go.Proofs.YtfkjfeobhbocjaaGreatDoor
open Go.RowKit Go.Deep

set_option maxRecDepth 100000 in
set_option maxHeartbeats 2000000 in
theorem x_dec0_T (w : World) (b c : Nat) (k1 n1 d1 : Int) (s1 : ByteArray) (hb : b < w.heap.size) (h1 : ValIn w b 0 1 0 0 noS) (h2 : ValIn w b 4 k1 n1 d1 s1) :
    Calls Tryz.prog 118 #[.slice (some ⟨b, 0, none⟩) 2 c, .bool false] w fun e w' => e = .returned (V 1 0 0 noS) ∧ Below w.heap.size w w' := by
  have K := Lib.hid (two_of hb h1 h2)
  have hr0 := heap_alloc_new w (.cells #[.int .i64 0, .int .i64 0, .int .i64 0, .string ⟨#[]⟩] 46)
  have HR0 := Lib.hid hr0
  clear h1 h2 hr0
  go_enter Tryz.func118, Tryz.ntmps118
  go_wp2_with fail
  generalize HW : w.alloc (.cells #[.int .i64 0, .int .i64 0, .int .i64 0, .string ⟨#[]⟩] 46) = W0 at *
  have B0 : Below w.heap.size w W0 := by rw [← HW]; exact (Below.refl _ _).alloc (Nat.le_refl _) _
  have hz0 : w.heap.size < W0.heap.size := by rw [← HW]; simp
  clear HW
  have KH : Hid (∀ W, Below W0.heap.size W0 W → W.heap[w.heap.size]? = some (.cells #[.int .i64 0, .int .i64 0, .int .i64 0, .string ⟨#[]⟩] 46 (0, 0))) := fun W hW => (hW.block _ hz0).trans HR0.out
  have KR : Hid (∀ W, Below W0.heap.size W0 W → ResAt W w.heap.size) := fun W hW => res_at ((hW.block _ hz0).trans HR0.out)
  have B0d : Below W0.heap.size W0 W0.drew := Below.drew (Below.refl _ _)
  obtain ⟨⟨a0, a1, a2, a3⟩, -⟩ := K.out _ B0
  first
    | go_region_with (first | (go_at_call 87; refine (c_truth0 _).mono ?_; rintro e w1 ⟨rfl, hb1⟩; have B1 : Below W0.heap.size W0 w1 := btr B0d hb1; obtain ⟨⟨e0, e1, e2, e3⟩, -⟩ := K.out _ (btr B0 B1)))
    | fail
  all_goals
    go_wp2_with fail
    refine (c_truth0 _).mono ?_
    rintro e w3 ⟨rfl, hb3⟩
    have B3 : Below W0.heap.size W0 w3 := btr B1 hb3
    obtain ⟨r0, r1, r2, r3, f0, f1, f2, f3⟩ := KR.out _ B3
    go_wp2
    exact bodyPost_ret (v := V 1 0 0 noS) (results_cell_row Tryz.results118 _ _ w.heap.size 46 _ (0, 0) _ rfl (put4 (KH.out _ B3) _ _ _ _) Tryz.underlying46 rfl (by rw [info_v4]; rfl)) rfl ⟨rfl, below4 (btr B0 B3) _ (Nat.le_refl _) _ _ _ _⟩

set_option maxRecDepth 100000 in
set_option maxHeartbeats 2000000 in
theorem x_dec0_MT (w : World) (b c : Nat) (n0 : Int) (hb : b < w.heap.size) (h1 : ValIn w b 0 0 n0 0 noS) (h2 : ValIn w b 4 1 0 0 noS) :
    Calls Tryz.prog 118 #[.slice (some ⟨b, 0, none⟩) 2 c, .bool false] w fun e w' => e = .returned (V 1 0 0 noS) ∧ Below w.heap.size w w' := by
  have K := Lib.hid (two_of hb h1 h2)
  have hr0 := heap_alloc_new w (.cells #[.int .i64 0, .int .i64 0, .int .i64 0, .string ⟨#[]⟩] 46)
  have HR0 := Lib.hid hr0
  clear h1 h2 hr0
  go_enter Tryz.func118, Tryz.ntmps118
  go_wp2_with fail
  generalize HW : w.alloc (.cells #[.int .i64 0, .int .i64 0, .int .i64 0, .string ⟨#[]⟩] 46) = W0 at *
  have B0 : Below w.heap.size w W0 := by rw [← HW]; exact (Below.refl _ _).alloc (Nat.le_refl _) _
  have hz0 : w.heap.size < W0.heap.size := by rw [← HW]; simp
  clear HW
  have KH : Hid (∀ W, Below W0.heap.size W0 W → W.heap[w.heap.size]? = some (.cells #[.int .i64 0, .int .i64 0, .int .i64 0, .string ⟨#[]⟩] 46 (0, 0))) := fun W hW => (hW.block _ hz0).trans HR0.out
  have KR : Hid (∀ W, Below W0.heap.size W0 W → ResAt W w.heap.size) := fun W hW => res_at ((hW.block _ hz0).trans HR0.out)
  have B0d : Below W0.heap.size W0 W0.drew := Below.drew (Below.refl _ _)
  go_region_held3 (fun w' => (w'.cell? ⟨b, 0, none⟩ = some (.int .i64 0) ∧ w'.cell? ⟨b, 1, none⟩ = some (.int .i64 n0) ∧ w'.cell? ⟨b, 2, none⟩ = some (.int .i64 0) ∧ w'.cell? ⟨b, 3, none⟩ = some (.string noS)) ∧ (w'.cell? ⟨b, 4, none⟩ = some (.int .i64 1) ∧ w'.cell? ⟨b, 5, none⟩ = some (.int .i64 0) ∧ w'.cell? ⟨b, 6, none⟩ = some (.int .i64 0) ∧ w'.cell? ⟨b, 7, none⟩ = some (.string noS)))
    (first | exact K.out _ (btr B0 B2) | exact K.out _ (btr B0 B1) | exact K.out _ (btr B0 B0d) | exact K.out _ B0) (first
      | (go_at_call 87; refine (c_truth0 W0.drew).mono ?_; rintro e w1 ⟨rfl, hb1⟩; have B1 : Below W0.heap.size W0 w1 := btr B0d hb1)
      | (go_at_call 87; refine (c_truth0 w1).mono ?_; rintro e w2 ⟨rfl, hb2⟩; have B2 : Below W0.heap.size W0 w2 := btr B1 hb2))
  go_wp2_with fail
  refine (c_truth0 _).mono ?_
  rintro e w3 ⟨rfl, hb3⟩
  have B3 : Below W0.heap.size W0 w3 := btr B2 hb3
  obtain ⟨r0, r1, r2, r3, f0, f1, f2, f3⟩ := KR.out _ B3
  go_wp2
  exact bodyPost_ret (v := V 1 0 0 noS) (results_cell_row Tryz.results118 _ _ w.heap.size 46 _ (0, 0) _ rfl (put4 (KH.out _ B3) _ _ _ _) Tryz.underlying46 rfl (by rw [info_v4]; rfl)) rfl ⟨rfl, below4 (btr B0 B3) _ (Nat.le_refl _) _ _ _ _⟩

set_option maxRecDepth 100000 in
set_option maxHeartbeats 2000000 in
theorem x_dec0_MM (w : World) (b c : Nat) (n0 : Int) (n1 : Int) (hb : b < w.heap.size) (h1 : ValIn w b 0 0 n0 0 noS) (h2 : ValIn w b 4 0 n1 0 noS) :
    Calls Tryz.prog 118 #[.slice (some ⟨b, 0, none⟩) 2 c, .bool false] w fun e w' => e = .returned (V 0 n0 0 noS) ∧ Below w.heap.size w w' := by
  have K := Lib.hid (two_of hb h1 h2)
  have hr0 := heap_alloc_new w (.cells #[.int .i64 0, .int .i64 0, .int .i64 0, .string ⟨#[]⟩] 46)
  have HR0 := Lib.hid hr0
  clear h1 h2 hr0
  go_enter Tryz.func118, Tryz.ntmps118
  go_wp2_with fail
  generalize HW : w.alloc (.cells #[.int .i64 0, .int .i64 0, .int .i64 0, .string ⟨#[]⟩] 46) = W0 at *
  have B0 : Below w.heap.size w W0 := by rw [← HW]; exact (Below.refl _ _).alloc (Nat.le_refl _) _
  have hz0 : w.heap.size < W0.heap.size := by rw [← HW]; simp
  clear HW
  have KH : Hid (∀ W, Below W0.heap.size W0 W → W.heap[w.heap.size]? = some (.cells #[.int .i64 0, .int .i64 0, .int .i64 0, .string ⟨#[]⟩] 46 (0, 0))) := fun W hW => (hW.block _ hz0).trans HR0.out
  have KR : Hid (∀ W, Below W0.heap.size W0 W → ResAt W w.heap.size) := fun W hW => res_at ((hW.block _ hz0).trans HR0.out)
  have B0d : Below W0.heap.size W0 W0.drew := Below.drew (Below.refl _ _)
  go_region_held3 (fun w' => (w'.cell? ⟨b, 0, none⟩ = some (.int .i64 0) ∧ w'.cell? ⟨b, 1, none⟩ = some (.int .i64 n0) ∧ w'.cell? ⟨b, 2, none⟩ = some (.int .i64 0) ∧ w'.cell? ⟨b, 3, none⟩ = some (.string noS)) ∧ (w'.cell? ⟨b, 4, none⟩ = some (.int .i64 0) ∧ w'.cell? ⟨b, 5, none⟩ = some (.int .i64 n1) ∧ w'.cell? ⟨b, 6, none⟩ = some (.int .i64 0) ∧ w'.cell? ⟨b, 7, none⟩ = some (.string noS)))
    (first | exact K.out _ (btr B0 B2) | exact K.out _ (btr B0 B1) | exact K.out _ (btr B0 B0d) | exact K.out _ B0) (first
      | (go_at_call 87; refine (c_truth0 W0.drew).mono ?_; rintro e w1 ⟨rfl, hb1⟩; have B1 : Below W0.heap.size W0 w1 := btr B0d hb1)
      | (go_at_call 87; refine (c_truth0 w1).mono ?_; rintro e w2 ⟨rfl, hb2⟩; have B2 : Below W0.heap.size W0 w2 := btr B1 hb2))
  go_wp2_with fail
  have B2d : Below W0.heap.size W0 w2.drew := Below.drew B2
  go_region_held3 (fun w' => (w'.cell? ⟨b, 0, none⟩ = some (.int .i64 0) ∧ w'.cell? ⟨b, 1, none⟩ = some (.int .i64 n0) ∧ w'.cell? ⟨b, 2, none⟩ = some (.int .i64 0) ∧ w'.cell? ⟨b, 3, none⟩ = some (.string noS)) ∧ (w'.cell? ⟨b, 4, none⟩ = some (.int .i64 0) ∧ w'.cell? ⟨b, 5, none⟩ = some (.int .i64 n1) ∧ w'.cell? ⟨b, 6, none⟩ = some (.int .i64 0) ∧ w'.cell? ⟨b, 7, none⟩ = some (.string noS)))
    (first | exact K.out _ (((((btr B0 B4).setCell (p := ⟨w.heap.size, 0, none⟩) (Nat.le_refl w.heap.size) _).setCell (p := ⟨w.heap.size, 1, none⟩) (Nat.le_refl w.heap.size) _).setCell (p := ⟨w.heap.size, 2, none⟩) (Nat.le_refl w.heap.size) _).setCell (p := ⟨w.heap.size, 3, none⟩) (Nat.le_refl w.heap.size) _) | exact K.out _ (btr B0 B4) | exact K.out _ (btr B0 B3) | exact K.out _ (btr B0 B2d) | exact K.out _ (btr B0 B2)) (first
      | (go_at_call 57; refine (c_isMissing0 n0 0 noS _).mono ?_; rintro e w3 ⟨rfl, hb3⟩; have B3 : Below W0.heap.size W0 w3 := btr B2d hb3)
      | (go_at_call 121; refine (c_chosen true 0 n0 0 noS 0 n1 0 noS _).mono ?_; rintro e w4 ⟨rfl, hb4⟩; have B4 : Below W0.heap.size W0 w4 := btr B3 hb4; obtain ⟨r0, r1, r2, r3, f0, f1, f2, f3⟩ := KR.out _ B4))
  go_wp2
  exact bodyPost_ret (v := V 0 n0 0 noS) (results_cell_row Tryz.results118 _ _ w.heap.size 46 _ (0, 0) _ rfl (put4 (KH.out _ B4) _ _ _ _) Tryz.underlying46 rfl (by rw [info_v4]; rfl)) rfl ⟨rfl, below4 (btr B0 B4) _ (Nat.le_refl _) _ _ _ _⟩

set_option maxRecDepth 100000 in
set_option maxHeartbeats 2000000 in
theorem x_dec0_MO (w : World) (b c : Nat) (n0 : Int) (hb : b < w.heap.size) (h1 : ValIn w b 0 0 n0 0 noS) (h2 : ValIn w b 4 1 1 0 noS) :
    Calls Tryz.prog 118 #[.slice (some ⟨b, 0, none⟩) 2 c, .bool false] w fun e w' => e = .returned (V 0 n0 0 noS) ∧ Below w.heap.size w w' := by
  have K := Lib.hid (two_of hb h1 h2)
  have hr0 := heap_alloc_new w (.cells #[.int .i64 0, .int .i64 0, .int .i64 0, .string ⟨#[]⟩] 46)
  have HR0 := Lib.hid hr0
  clear h1 h2 hr0
  go_enter Tryz.func118, Tryz.ntmps118
  go_wp2_with fail
  generalize HW : w.alloc (.cells #[.int .i64 0, .int .i64 0, .int .i64 0, .string ⟨#[]⟩] 46) = W0 at *
  have B0 : Below w.heap.size w W0 := by rw [← HW]; exact (Below.refl _ _).alloc (Nat.le_refl _) _
  have hz0 : w.heap.size < W0.heap.size := by rw [← HW]; simp
  clear HW
  have KH : Hid (∀ W, Below W0.heap.size W0 W → W.heap[w.heap.size]? = some (.cells #[.int .i64 0, .int .i64 0, .int .i64 0, .string ⟨#[]⟩] 46 (0, 0))) := fun W hW => (hW.block _ hz0).trans HR0.out
  have KR : Hid (∀ W, Below W0.heap.size W0 W → ResAt W w.heap.size) := fun W hW => res_at ((hW.block _ hz0).trans HR0.out)
  have B0d : Below W0.heap.size W0 W0.drew := Below.drew (Below.refl _ _)
  go_region_held3 (fun w' => (w'.cell? ⟨b, 0, none⟩ = some (.int .i64 0) ∧ w'.cell? ⟨b, 1, none⟩ = some (.int .i64 n0) ∧ w'.cell? ⟨b, 2, none⟩ = some (.int .i64 0) ∧ w'.cell? ⟨b, 3, none⟩ = some (.string noS)) ∧ (w'.cell? ⟨b, 4, none⟩ = some (.int .i64 1) ∧ w'.cell? ⟨b, 5, none⟩ = some (.int .i64 1) ∧ w'.cell? ⟨b, 6, none⟩ = some (.int .i64 0) ∧ w'.cell? ⟨b, 7, none⟩ = some (.string noS)))
    (first | exact K.out _ (btr B0 B2) | exact K.out _ (btr B0 B1) | exact K.out _ (btr B0 B0d) | exact K.out _ B0) (first
      | (go_at_call 87; refine (c_truth0 W0.drew).mono ?_; rintro e w1 ⟨rfl, hb1⟩; have B1 : Below W0.heap.size W0 w1 := btr B0d hb1)
      | (go_at_call 87; refine (c_truth0 w1).mono ?_; rintro e w2 ⟨rfl, hb2⟩; have B2 : Below W0.heap.size W0 w2 := btr B1 hb2))
  go_wp2_with fail
  have B2d : Below W0.heap.size W0 w2.drew := Below.drew B2
  go_region_held3 (fun w' => (w'.cell? ⟨b, 0, none⟩ = some (.int .i64 0) ∧ w'.cell? ⟨b, 1, none⟩ = some (.int .i64 n0) ∧ w'.cell? ⟨b, 2, none⟩ = some (.int .i64 0) ∧ w'.cell? ⟨b, 3, none⟩ = some (.string noS)) ∧ (w'.cell? ⟨b, 4, none⟩ = some (.int .i64 1) ∧ w'.cell? ⟨b, 5, none⟩ = some (.int .i64 1) ∧ w'.cell? ⟨b, 6, none⟩ = some (.int .i64 0) ∧ w'.cell? ⟨b, 7, none⟩ = some (.string noS)))
    (first | exact K.out _ (((((btr B0 B4).setCell (p := ⟨w.heap.size, 0, none⟩) (Nat.le_refl w.heap.size) _).setCell (p := ⟨w.heap.size, 1, none⟩) (Nat.le_refl w.heap.size) _).setCell (p := ⟨w.heap.size, 2, none⟩) (Nat.le_refl w.heap.size) _).setCell (p := ⟨w.heap.size, 3, none⟩) (Nat.le_refl w.heap.size) _) | exact K.out _ (btr B0 B4) | exact K.out _ (btr B0 B3) | exact K.out _ (btr B0 B2d) | exact K.out _ (btr B0 B2)) (first
      | (go_at_call 57; refine (c_isMissing0 n0 0 noS _).mono ?_; rintro e w3 ⟨rfl, hb3⟩; have B3 : Below W0.heap.size W0 w3 := btr B2d hb3)
      | (go_at_call 121; refine (c_chosen true 0 n0 0 noS 1 1 0 noS _).mono ?_; rintro e w4 ⟨rfl, hb4⟩; have B4 : Below W0.heap.size W0 w4 := btr B3 hb4; obtain ⟨r0, r1, r2, r3, f0, f1, f2, f3⟩ := KR.out _ B4))
  go_wp2
  exact bodyPost_ret (v := V 0 n0 0 noS) (results_cell_row Tryz.results118 _ _ w.heap.size 46 _ (0, 0) _ rfl (put4 (KH.out _ B4) _ _ _ _) Tryz.underlying46 rfl (by rw [info_v4]; rfl)) rfl ⟨rfl, below4 (btr B0 B4) _ (Nat.le_refl _) _ _ _ _⟩

set_option maxRecDepth 100000 in
set_option maxHeartbeats 2000000 in
theorem x_dec0_OT (w : World) (b c : Nat) (hb : b < w.heap.size) (h1 : ValIn w b 0 1 1 0 noS) (h2 : ValIn w b 4 1 0 0 noS) :
    Calls Tryz.prog 118 #[.slice (some ⟨b, 0, none⟩) 2 c, .bool false] w fun e w' => e = .returned (V 1 0 0 noS) ∧ Below w.heap.size w w' := by
  have K := Lib.hid (two_of hb h1 h2)
  have hr0 := heap_alloc_new w (.cells #[.int .i64 0, .int .i64 0, .int .i64 0, .string ⟨#[]⟩] 46)
  have HR0 := Lib.hid hr0
  clear h1 h2 hr0
  go_enter Tryz.func118, Tryz.ntmps118
  go_wp2_with fail
  generalize HW : w.alloc (.cells #[.int .i64 0, .int .i64 0, .int .i64 0, .string ⟨#[]⟩] 46) = W0 at *
  have B0 : Below w.heap.size w W0 := by rw [← HW]; exact (Below.refl _ _).alloc (Nat.le_refl _) _
  have hz0 : w.heap.size < W0.heap.size := by rw [← HW]; simp
  clear HW
  have KH : Hid (∀ W, Below W0.heap.size W0 W → W.heap[w.heap.size]? = some (.cells #[.int .i64 0, .int .i64 0, .int .i64 0, .string ⟨#[]⟩] 46 (0, 0))) := fun W hW => (hW.block _ hz0).trans HR0.out
  have KR : Hid (∀ W, Below W0.heap.size W0 W → ResAt W w.heap.size) := fun W hW => res_at ((hW.block _ hz0).trans HR0.out)
  have B0d : Below W0.heap.size W0 W0.drew := Below.drew (Below.refl _ _)
  go_region_held3 (fun w' => (w'.cell? ⟨b, 0, none⟩ = some (.int .i64 1) ∧ w'.cell? ⟨b, 1, none⟩ = some (.int .i64 1) ∧ w'.cell? ⟨b, 2, none⟩ = some (.int .i64 0) ∧ w'.cell? ⟨b, 3, none⟩ = some (.string noS)) ∧ (w'.cell? ⟨b, 4, none⟩ = some (.int .i64 1) ∧ w'.cell? ⟨b, 5, none⟩ = some (.int .i64 0) ∧ w'.cell? ⟨b, 6, none⟩ = some (.int .i64 0) ∧ w'.cell? ⟨b, 7, none⟩ = some (.string noS)))
    (first | exact K.out _ (btr B0 B2) | exact K.out _ (btr B0 B1) | exact K.out _ (btr B0 B0d) | exact K.out _ B0) (first
      | (go_at_call 87; refine (c_truth0 W0.drew).mono ?_; rintro e w1 ⟨rfl, hb1⟩; have B1 : Below W0.heap.size W0 w1 := btr B0d hb1)
      | (go_at_call 87; refine (c_truth0 w1).mono ?_; rintro e w2 ⟨rfl, hb2⟩; have B2 : Below W0.heap.size W0 w2 := btr B1 hb2))
  go_wp2_with fail
  refine (c_truth0 _).mono ?_
  rintro e w3 ⟨rfl, hb3⟩
  have B3 : Below W0.heap.size W0 w3 := btr B2 hb3
  obtain ⟨r0, r1, r2, r3, f0, f1, f2, f3⟩ := KR.out _ B3
  go_wp2
  exact bodyPost_ret (v := V 1 0 0 noS) (results_cell_row Tryz.results118 _ _ w.heap.size 46 _ (0, 0) _ rfl (put4 (KH.out _ B3) _ _ _ _) Tryz.underlying46 rfl (by rw [info_v4]; rfl)) rfl ⟨rfl, below4 (btr B0 B3) _ (Nat.le_refl _) _ _ _ _⟩

set_option maxRecDepth 100000 in
set_option maxHeartbeats 2000000 in
theorem x_dec0_OM (w : World) (b c : Nat) (n1 : Int) (hb : b < w.heap.size) (h1 : ValIn w b 0 1 1 0 noS) (h2 : ValIn w b 4 0 n1 0 noS) :
    Calls Tryz.prog 118 #[.slice (some ⟨b, 0, none⟩) 2 c, .bool false] w fun e w' => e = .returned (V 0 n1 0 noS) ∧ Below w.heap.size w w' := by
  have K := Lib.hid (two_of hb h1 h2)
  have hr0 := heap_alloc_new w (.cells #[.int .i64 0, .int .i64 0, .int .i64 0, .string ⟨#[]⟩] 46)
  have HR0 := Lib.hid hr0
  clear h1 h2 hr0
  go_enter Tryz.func118, Tryz.ntmps118
  go_wp2_with fail
  generalize HW : w.alloc (.cells #[.int .i64 0, .int .i64 0, .int .i64 0, .string ⟨#[]⟩] 46) = W0 at *
  have B0 : Below w.heap.size w W0 := by rw [← HW]; exact (Below.refl _ _).alloc (Nat.le_refl _) _
  have hz0 : w.heap.size < W0.heap.size := by rw [← HW]; simp
  clear HW
  have KH : Hid (∀ W, Below W0.heap.size W0 W → W.heap[w.heap.size]? = some (.cells #[.int .i64 0, .int .i64 0, .int .i64 0, .string ⟨#[]⟩] 46 (0, 0))) := fun W hW => (hW.block _ hz0).trans HR0.out
  have KR : Hid (∀ W, Below W0.heap.size W0 W → ResAt W w.heap.size) := fun W hW => res_at ((hW.block _ hz0).trans HR0.out)
  have B0d : Below W0.heap.size W0 W0.drew := Below.drew (Below.refl _ _)
  go_region_held3 (fun w' => (w'.cell? ⟨b, 0, none⟩ = some (.int .i64 1) ∧ w'.cell? ⟨b, 1, none⟩ = some (.int .i64 1) ∧ w'.cell? ⟨b, 2, none⟩ = some (.int .i64 0) ∧ w'.cell? ⟨b, 3, none⟩ = some (.string noS)) ∧ (w'.cell? ⟨b, 4, none⟩ = some (.int .i64 0) ∧ w'.cell? ⟨b, 5, none⟩ = some (.int .i64 n1) ∧ w'.cell? ⟨b, 6, none⟩ = some (.int .i64 0) ∧ w'.cell? ⟨b, 7, none⟩ = some (.string noS)))
    (first | exact K.out _ (btr B0 B2) | exact K.out _ (btr B0 B1) | exact K.out _ (btr B0 B0d) | exact K.out _ B0) (first
      | (go_at_call 87; refine (c_truth0 W0.drew).mono ?_; rintro e w1 ⟨rfl, hb1⟩; have B1 : Below W0.heap.size W0 w1 := btr B0d hb1)
      | (go_at_call 87; refine (c_truth0 w1).mono ?_; rintro e w2 ⟨rfl, hb2⟩; have B2 : Below W0.heap.size W0 w2 := btr B1 hb2))
  go_wp2_with fail
  have B2d : Below W0.heap.size W0 w2.drew := Below.drew B2
  go_region_held3 (fun w' => (w'.cell? ⟨b, 0, none⟩ = some (.int .i64 1) ∧ w'.cell? ⟨b, 1, none⟩ = some (.int .i64 1) ∧ w'.cell? ⟨b, 2, none⟩ = some (.int .i64 0) ∧ w'.cell? ⟨b, 3, none⟩ = some (.string noS)) ∧ (w'.cell? ⟨b, 4, none⟩ = some (.int .i64 0) ∧ w'.cell? ⟨b, 5, none⟩ = some (.int .i64 n1) ∧ w'.cell? ⟨b, 6, none⟩ = some (.int .i64 0) ∧ w'.cell? ⟨b, 7, none⟩ = some (.string noS)))
    (first | exact K.out _ (((((btr B0 B4).setCell (p := ⟨w.heap.size, 0, none⟩) (Nat.le_refl w.heap.size) _).setCell (p := ⟨w.heap.size, 1, none⟩) (Nat.le_refl w.heap.size) _).setCell (p := ⟨w.heap.size, 2, none⟩) (Nat.le_refl w.heap.size) _).setCell (p := ⟨w.heap.size, 3, none⟩) (Nat.le_refl w.heap.size) _) | exact K.out _ (btr B0 B4) | exact K.out _ (btr B0 B3) | exact K.out _ (btr B0 B2d) | exact K.out _ (btr B0 B2)) (first
      | (go_at_call 57; refine (c_isMissing1 1 0 noS _).mono ?_; rintro e w3 ⟨rfl, hb3⟩; have B3 : Below W0.heap.size W0 w3 := btr B2d hb3)
      | (go_at_call 121; refine (c_chosen false 1 1 0 noS 0 n1 0 noS _).mono ?_; rintro e w4 ⟨rfl, hb4⟩; have B4 : Below W0.heap.size W0 w4 := btr B3 hb4; obtain ⟨r0, r1, r2, r3, f0, f1, f2, f3⟩ := KR.out _ B4))
  go_wp2
  exact bodyPost_ret (v := V 0 n1 0 noS) (results_cell_row Tryz.results118 _ _ w.heap.size 46 _ (0, 0) _ rfl (put4 (KH.out _ B4) _ _ _ _) Tryz.underlying46 rfl (by rw [info_v4]; rfl)) rfl ⟨rfl, below4 (btr B0 B4) _ (Nat.le_refl _) _ _ _ _⟩

set_option maxRecDepth 100000 in
set_option maxHeartbeats 2000000 in
theorem x_dec0_OO (w : World) (b c : Nat) (hb : b < w.heap.size) (h1 : ValIn w b 0 1 1 0 noS) (h2 : ValIn w b 4 1 1 0 noS) :
    Calls Tryz.prog 118 #[.slice (some ⟨b, 0, none⟩) 2 c, .bool false] w fun e w' => e = .returned (V 1 1 0 noS) ∧ Below w.heap.size w w' := by
  have K := Lib.hid (two_of hb h1 h2)
  have hr0 := heap_alloc_new w (.cells #[.int .i64 0, .int .i64 0, .int .i64 0, .string ⟨#[]⟩] 46)
  have HR0 := Lib.hid hr0
  clear h1 h2 hr0
  go_enter Tryz.func118, Tryz.ntmps118
  go_wp2_with fail
  generalize HW : w.alloc (.cells #[.int .i64 0, .int .i64 0, .int .i64 0, .string ⟨#[]⟩] 46) = W0 at *
  have B0 : Below w.heap.size w W0 := by rw [← HW]; exact (Below.refl _ _).alloc (Nat.le_refl _) _
  have hz0 : w.heap.size < W0.heap.size := by rw [← HW]; simp
  clear HW
  have KH : Hid (∀ W, Below W0.heap.size W0 W → W.heap[w.heap.size]? = some (.cells #[.int .i64 0, .int .i64 0, .int .i64 0, .string ⟨#[]⟩] 46 (0, 0))) := fun W hW => (hW.block _ hz0).trans HR0.out
  have KR : Hid (∀ W, Below W0.heap.size W0 W → ResAt W w.heap.size) := fun W hW => res_at ((hW.block _ hz0).trans HR0.out)
  have B0d : Below W0.heap.size W0 W0.drew := Below.drew (Below.refl _ _)
  go_region_held3 (fun w' => (w'.cell? ⟨b, 0, none⟩ = some (.int .i64 1) ∧ w'.cell? ⟨b, 1, none⟩ = some (.int .i64 1) ∧ w'.cell? ⟨b, 2, none⟩ = some (.int .i64 0) ∧ w'.cell? ⟨b, 3, none⟩ = some (.string noS)) ∧ (w'.cell? ⟨b, 4, none⟩ = some (.int .i64 1) ∧ w'.cell? ⟨b, 5, none⟩ = some (.int .i64 1) ∧ w'.cell? ⟨b, 6, none⟩ = some (.int .i64 0) ∧ w'.cell? ⟨b, 7, none⟩ = some (.string noS)))
    (first | exact K.out _ (btr B0 B2) | exact K.out _ (btr B0 B1) | exact K.out _ (btr B0 B0d) | exact K.out _ B0) (first
      | (go_at_call 87; refine (c_truth0 W0.drew).mono ?_; rintro e w1 ⟨rfl, hb1⟩; have B1 : Below W0.heap.size W0 w1 := btr B0d hb1)
      | (go_at_call 87; refine (c_truth0 w1).mono ?_; rintro e w2 ⟨rfl, hb2⟩; have B2 : Below W0.heap.size W0 w2 := btr B1 hb2))
  go_wp2_with fail
  have B2d : Below W0.heap.size W0 w2.drew := Below.drew B2
  go_region_held3 (fun w' => (w'.cell? ⟨b, 0, none⟩ = some (.int .i64 1) ∧ w'.cell? ⟨b, 1, none⟩ = some (.int .i64 1) ∧ w'.cell? ⟨b, 2, none⟩ = some (.int .i64 0) ∧ w'.cell? ⟨b, 3, none⟩ = some (.string noS)) ∧ (w'.cell? ⟨b, 4, none⟩ = some (.int .i64 1) ∧ w'.cell? ⟨b, 5, none⟩ = some (.int .i64 1) ∧ w'.cell? ⟨b, 6, none⟩ = some (.int .i64 0) ∧ w'.cell? ⟨b, 7, none⟩ = some (.string noS)))
    (first | exact K.out _ (((((btr B0 B4).setCell (p := ⟨w.heap.size, 0, none⟩) (Nat.le_refl w.heap.size) _).setCell (p := ⟨w.heap.size, 1, none⟩) (Nat.le_refl w.heap.size) _).setCell (p := ⟨w.heap.size, 2, none⟩) (Nat.le_refl w.heap.size) _).setCell (p := ⟨w.heap.size, 3, none⟩) (Nat.le_refl w.heap.size) _) | exact K.out _ (btr B0 B4) | exact K.out _ (btr B0 B3) | exact K.out _ (btr B0 B2d) | exact K.out _ (btr B0 B2)) (first
      | (go_at_call 57; refine (c_isMissing1 1 0 noS _).mono ?_; rintro e w3 ⟨rfl, hb3⟩; have B3 : Below W0.heap.size W0 w3 := btr B2d hb3)
      | (go_at_call 121; refine (c_chosen false 1 1 0 noS 1 1 0 noS _).mono ?_; rintro e w4 ⟨rfl, hb4⟩; have B4 : Below W0.heap.size W0 w4 := btr B3 hb4; obtain ⟨r0, r1, r2, r3, f0, f1, f2, f3⟩ := KR.out _ B4))
  go_wp2
  exact bodyPost_ret (v := V 1 1 0 noS) (results_cell_row Tryz.results118 _ _ w.heap.size 46 _ (0, 0) _ rfl (put4 (KH.out _ B4) _ _ _ _) Tryz.underlying46 rfl (by rw [info_v4]; rfl)) rfl ⟨rfl, below4 (btr B0 B4) _ (Nat.le_refl _) _ _ _ _⟩

set_option maxRecDepth 100000 in
set_option maxHeartbeats 2000000 in
theorem x_dec1_T (w : World) (b c : Nat) (k1 n1 d1 : Int) (s1 : ByteArray) (hb : b < w.heap.size) (h1 : ValIn w b 0 1 1 0 noS) (h2 : ValIn w b 4 k1 n1 d1 s1) :
    Calls Tryz.prog 118 #[.slice (some ⟨b, 0, none⟩) 2 c, .bool true] w fun e w' => e = .returned (V 1 1 0 noS) ∧ Below w.heap.size w w' := by
  have K := Lib.hid (two_of hb h1 h2)
  have hr0 := heap_alloc_new w (.cells #[.int .i64 0, .int .i64 0, .int .i64 0, .string ⟨#[]⟩] 46)
  have HR0 := Lib.hid hr0
  clear h1 h2 hr0
  go_enter Tryz.func118, Tryz.ntmps118
  go_wp2_with fail
  generalize HW : w.alloc (.cells #[.int .i64 0, .int .i64 0, .int .i64 0, .string ⟨#[]⟩] 46) = W0 at *
  have B0 : Below w.heap.size w W0 := by rw [← HW]; exact (Below.refl _ _).alloc (Nat.le_refl _) _
  have hz0 : w.heap.size < W0.heap.size := by rw [← HW]; simp
  clear HW
  have KH : Hid (∀ W, Below W0.heap.size W0 W → W.heap[w.heap.size]? = some (.cells #[.int .i64 0, .int .i64 0, .int .i64 0, .string ⟨#[]⟩] 46 (0, 0))) := fun W hW => (hW.block _ hz0).trans HR0.out
  have KR : Hid (∀ W, Below W0.heap.size W0 W → ResAt W w.heap.size) := fun W hW => res_at ((hW.block _ hz0).trans HR0.out)
  have B0d : Below W0.heap.size W0 W0.drew := Below.drew (Below.refl _ _)
  obtain ⟨⟨a0, a1, a2, a3⟩, -⟩ := K.out _ B0
  first
    | go_region_with (first | (go_at_call 87; refine (c_truth1 _).mono ?_; rintro e w1 ⟨rfl, hb1⟩; have B1 : Below W0.heap.size W0 w1 := btr B0d hb1; obtain ⟨⟨e0, e1, e2, e3⟩, -⟩ := K.out _ (btr B0 B1)))
    | fail
  all_goals
    go_wp2_with fail
    refine (c_truth1 _).mono ?_
    rintro e w3 ⟨rfl, hb3⟩
    have B3 : Below W0.heap.size W0 w3 := btr B1 hb3
    obtain ⟨r0, r1, r2, r3, f0, f1, f2, f3⟩ := KR.out _ B3
    go_wp2
    exact bodyPost_ret (v := V 1 1 0 noS) (results_cell_row Tryz.results118 _ _ w.heap.size 46 _ (0, 0) _ rfl (put4 (KH.out _ B3) _ _ _ _) Tryz.underlying46 rfl (by rw [info_v4]; rfl)) rfl ⟨rfl, below4 (btr B0 B3) _ (Nat.le_refl _) _ _ _ _⟩

set_option maxRecDepth 100000 in
set_option maxHeartbeats 2000000 in
theorem x_dec1_MT (w : World) (b c : Nat) (n0 : Int) (hb : b < w.heap.size) (h1 : ValIn w b 0 0 n0 0 noS) (h2 : ValIn w b 4 1 1 0 noS) :
    Calls Tryz.prog 118 #[.slice (some ⟨b, 0, none⟩) 2 c, .bool true] w fun e w' => e = .returned (V 1 1 0 noS) ∧ Below w.heap.size w w' := by
  have K := Lib.hid (two_of hb h1 h2)
  have hr0 := heap_alloc_new w (.cells #[.int .i64 0, .int .i64 0, .int .i64 0, .string ⟨#[]⟩] 46)
  have HR0 := Lib.hid hr0
  clear h1 h2 hr0
  go_enter Tryz.func118, Tryz.ntmps118
  go_wp2_with fail
  generalize HW : w.alloc (.cells #[.int .i64 0, .int .i64 0, .int .i64 0, .string ⟨#[]⟩] 46) = W0 at *
  have B0 : Below w.heap.size w W0 := by rw [← HW]; exact (Below.refl _ _).alloc (Nat.le_refl _) _
  have hz0 : w.heap.size < W0.heap.size := by rw [← HW]; simp
  clear HW
  have KH : Hid (∀ W, Below W0.heap.size W0 W → W.heap[w.heap.size]? = some (.cells #[.int .i64 0, .int .i64 0, .int .i64 0, .string ⟨#[]⟩] 46 (0, 0))) := fun W hW => (hW.block _ hz0).trans HR0.out
  have KR : Hid (∀ W, Below W0.heap.size W0 W → ResAt W w.heap.size) := fun W hW => res_at ((hW.block _ hz0).trans HR0.out)
  have B0d : Below W0.heap.size W0 W0.drew := Below.drew (Below.refl _ _)
  go_region_held3 (fun w' => (w'.cell? ⟨b, 0, none⟩ = some (.int .i64 0) ∧ w'.cell? ⟨b, 1, none⟩ = some (.int .i64 n0) ∧ w'.cell? ⟨b, 2, none⟩ = some (.int .i64 0) ∧ w'.cell? ⟨b, 3, none⟩ = some (.string noS)) ∧ (w'.cell? ⟨b, 4, none⟩ = some (.int .i64 1) ∧ w'.cell? ⟨b, 5, none⟩ = some (.int .i64 1) ∧ w'.cell? ⟨b, 6, none⟩ = some (.int .i64 0) ∧ w'.cell? ⟨b, 7, none⟩ = some (.string noS)))
    (first | exact K.out _ (btr B0 B2) | exact K.out _ (btr B0 B1) | exact K.out _ (btr B0 B0d) | exact K.out _ B0) (first
      | (go_at_call 87; refine (c_truth1 W0.drew).mono ?_; rintro e w1 ⟨rfl, hb1⟩; have B1 : Below W0.heap.size W0 w1 := btr B0d hb1)
      | (go_at_call 87; refine (c_truth1 w1).mono ?_; rintro e w2 ⟨rfl, hb2⟩; have B2 : Below W0.heap.size W0 w2 := btr B1 hb2))
  go_wp2_with fail
  refine (c_truth1 _).mono ?_
  rintro e w3 ⟨rfl, hb3⟩
  have B3 : Below W0.heap.size W0 w3 := btr B2 hb3
  obtain ⟨r0, r1, r2, r3, f0, f1, f2, f3⟩ := KR.out _ B3
  go_wp2
  exact bodyPost_ret (v := V 1 1 0 noS) (results_cell_row Tryz.results118 _ _ w.heap.size 46 _ (0, 0) _ rfl (put4 (KH.out _ B3) _ _ _ _) Tryz.underlying46 rfl (by rw [info_v4]; rfl)) rfl ⟨rfl, below4 (btr B0 B3) _ (Nat.le_refl _) _ _ _ _⟩

set_option maxRecDepth 100000 in
set_option maxHeartbeats 2000000 in
theorem x_dec1_MM (w : World) (b c : Nat) (n0 : Int) (n1 : Int) (hb : b < w.heap.size) (h1 : ValIn w b 0 0 n0 0 noS) (h2 : ValIn w b 4 0 n1 0 noS) :
    Calls Tryz.prog 118 #[.slice (some ⟨b, 0, none⟩) 2 c, .bool true] w fun e w' => e = .returned (V 0 n0 0 noS) ∧ Below w.heap.size w w' := by
  have K := Lib.hid (two_of hb h1 h2)
  have hr0 := heap_alloc_new w (.cells #[.int .i64 0, .int .i64 0, .int .i64 0, .string ⟨#[]⟩] 46)
  have HR0 := Lib.hid hr0
  clear h1 h2 hr0
  go_enter Tryz.func118, Tryz.ntmps118
  go_wp2_with fail
  generalize HW : w.alloc (.cells #[.int .i64 0, .int .i64 0, .int .i64 0, .string ⟨#[]⟩] 46) = W0 at *
  have B0 : Below w.heap.size w W0 := by rw [← HW]; exact (Below.refl _ _).alloc (Nat.le_refl _) _
  have hz0 : w.heap.size < W0.heap.size := by rw [← HW]; simp
  clear HW
  have KH : Hid (∀ W, Below W0.heap.size W0 W → W.heap[w.heap.size]? = some (.cells #[.int .i64 0, .int .i64 0, .int .i64 0, .string ⟨#[]⟩] 46 (0, 0))) := fun W hW => (hW.block _ hz0).trans HR0.out
  have KR : Hid (∀ W, Below W0.heap.size W0 W → ResAt W w.heap.size) := fun W hW => res_at ((hW.block _ hz0).trans HR0.out)
  have B0d : Below W0.heap.size W0 W0.drew := Below.drew (Below.refl _ _)
  go_region_held3 (fun w' => (w'.cell? ⟨b, 0, none⟩ = some (.int .i64 0) ∧ w'.cell? ⟨b, 1, none⟩ = some (.int .i64 n0) ∧ w'.cell? ⟨b, 2, none⟩ = some (.int .i64 0) ∧ w'.cell? ⟨b, 3, none⟩ = some (.string noS)) ∧ (w'.cell? ⟨b, 4, none⟩ = some (.int .i64 0) ∧ w'.cell? ⟨b, 5, none⟩ = some (.int .i64 n1) ∧ w'.cell? ⟨b, 6, none⟩ = some (.int .i64 0) ∧ w'.cell? ⟨b, 7, none⟩ = some (.string noS)))
    (first | exact K.out _ (btr B0 B2) | exact K.out _ (btr B0 B1) | exact K.out _ (btr B0 B0d) | exact K.out _ B0) (first
      | (go_at_call 87; refine (c_truth1 W0.drew).mono ?_; rintro e w1 ⟨rfl, hb1⟩; have B1 : Below W0.heap.size W0 w1 := btr B0d hb1)
      | (go_at_call 87; refine (c_truth1 w1).mono ?_; rintro e w2 ⟨rfl, hb2⟩; have B2 : Below W0.heap.size W0 w2 := btr B1 hb2))
  go_wp2_with fail
  have B2d : Below W0.heap.size W0 w2.drew := Below.drew B2
  go_region_held3 (fun w' => (w'.cell? ⟨b, 0, none⟩ = some (.int .i64 0) ∧ w'.cell? ⟨b, 1, none⟩ = some (.int .i64 n0) ∧ w'.cell? ⟨b, 2, none⟩ = some (.int .i64 0) ∧ w'.cell? ⟨b, 3, none⟩ = some (.string noS)) ∧ (w'.cell? ⟨b, 4, none⟩ = some (.int .i64 0) ∧ w'.cell? ⟨b, 5, none⟩ = some (.int .i64 n1) ∧ w'.cell? ⟨b, 6, none⟩ = some (.int .i64 0) ∧ w'.cell? ⟨b, 7, none⟩ = some (.string noS)))
    (first | exact K.out _ (((((btr B0 B4).setCell (p := ⟨w.heap.size, 0, none⟩) (Nat.le_refl w.heap.size) _).setCell (p := ⟨w.heap.size, 1, none⟩) (Nat.le_refl w.heap.size) _).setCell (p := ⟨w.heap.size, 2, none⟩) (Nat.le_refl w.heap.size) _).setCell (p := ⟨w.heap.size, 3, none⟩) (Nat.le_refl w.heap.size) _) | exact K.out _ (btr B0 B4) | exact K.out _ (btr B0 B3) | exact K.out _ (btr B0 B2d) | exact K.out _ (btr B0 B2)) (first
      | (go_at_call 57; refine (c_isMissing0 n0 0 noS _).mono ?_; rintro e w3 ⟨rfl, hb3⟩; have B3 : Below W0.heap.size W0 w3 := btr B2d hb3)
      | (go_at_call 121; refine (c_chosen true 0 n0 0 noS 0 n1 0 noS _).mono ?_; rintro e w4 ⟨rfl, hb4⟩; have B4 : Below W0.heap.size W0 w4 := btr B3 hb4; obtain ⟨r0, r1, r2, r3, f0, f1, f2, f3⟩ := KR.out _ B4))
  go_wp2
  exact bodyPost_ret (v := V 0 n0 0 noS) (results_cell_row Tryz.results118 _ _ w.heap.size 46 _ (0, 0) _ rfl (put4 (KH.out _ B4) _ _ _ _) Tryz.underlying46 rfl (by rw [info_v4]; rfl)) rfl ⟨rfl, below4 (btr B0 B4) _ (Nat.le_refl _) _ _ _ _⟩

set_option maxRecDepth 100000 in
set_option maxHeartbeats 2000000 in
theorem x_dec1_MO (w : World) (b c : Nat) (n0 : Int) (hb : b < w.heap.size) (h1 : ValIn w b 0 0 n0 0 noS) (h2 : ValIn w b 4 1 0 0 noS) :
    Calls Tryz.prog 118 #[.slice (some ⟨b, 0, none⟩) 2 c, .bool true] w fun e w' => e = .returned (V 0 n0 0 noS) ∧ Below w.heap.size w w' := by
  have K := Lib.hid (two_of hb h1 h2)
  have hr0 := heap_alloc_new w (.cells #[.int .i64 0, .int .i64 0, .int .i64 0, .string ⟨#[]⟩] 46)
  have HR0 := Lib.hid hr0
  clear h1 h2 hr0
  go_enter Tryz.func118, Tryz.ntmps118
  go_wp2_with fail
  generalize HW : w.alloc (.cells #[.int .i64 0, .int .i64 0, .int .i64 0, .string ⟨#[]⟩] 46) = W0 at *
  have B0 : Below w.heap.size w W0 := by rw [← HW]; exact (Below.refl _ _).alloc (Nat.le_refl _) _
  have hz0 : w.heap.size < W0.heap.size := by rw [← HW]; simp
  clear HW
  have KH : Hid (∀ W, Below W0.heap.size W0 W → W.heap[w.heap.size]? = some (.cells #[.int .i64 0, .int .i64 0, .int .i64 0, .string ⟨#[]⟩] 46 (0, 0))) := fun W hW => (hW.block _ hz0).trans HR0.out
  have KR : Hid (∀ W, Below W0.heap.size W0 W → ResAt W w.heap.size) := fun W hW => res_at ((hW.block _ hz0).trans HR0.out)
  have B0d : Below W0.heap.size W0 W0.drew := Below.drew (Below.refl _ _)
  go_region_held3 (fun w' => (w'.cell? ⟨b, 0, none⟩ = some (.int .i64 0) ∧ w'.cell? ⟨b, 1, none⟩ = some (.int .i64 n0) ∧ w'.cell? ⟨b, 2, none⟩ = some (.int .i64 0) ∧ w'.cell? ⟨b, 3, none⟩ = some (.string noS)) ∧ (w'.cell? ⟨b, 4, none⟩ = some (.int .i64 1) ∧ w'.cell? ⟨b, 5, none⟩ = some (.int .i64 0) ∧ w'.cell? ⟨b, 6, none⟩ = some (.int .i64 0) ∧ w'.cell? ⟨b, 7, none⟩ = some (.string noS)))
    (first | exact K.out _ (btr B0 B2) | exact K.out _ (btr B0 B1) | exact K.out _ (btr B0 B0d) | exact K.out _ B0) (first
      | (go_at_call 87; refine (c_truth1 W0.drew).mono ?_; rintro e w1 ⟨rfl, hb1⟩; have B1 : Below W0.heap.size W0 w1 := btr B0d hb1)
      | (go_at_call 87; refine (c_truth1 w1).mono ?_; rintro e w2 ⟨rfl, hb2⟩; have B2 : Below W0.heap.size W0 w2 := btr B1 hb2))
  go_wp2_with fail
  have B2d : Below W0.heap.size W0 w2.drew := Below.drew B2
  go_region_held3 (fun w' => (w'.cell? ⟨b, 0, none⟩ = some (.int .i64 0) ∧ w'.cell? ⟨b, 1, none⟩ = some (.int .i64 n0) ∧ w'.cell? ⟨b, 2, none⟩ = some (.int .i64 0) ∧ w'.cell? ⟨b, 3, none⟩ = some (.string noS)) ∧ (w'.cell? ⟨b, 4, none⟩ = some (.int .i64 1) ∧ w'.cell? ⟨b, 5, none⟩ = some (.int .i64 0) ∧ w'.cell? ⟨b, 6, none⟩ = some (.int .i64 0) ∧ w'.cell? ⟨b, 7, none⟩ = some (.string noS)))
    (first | exact K.out _ (((((btr B0 B4).setCell (p := ⟨w.heap.size, 0, none⟩) (Nat.le_refl w.heap.size) _).setCell (p := ⟨w.heap.size, 1, none⟩) (Nat.le_refl w.heap.size) _).setCell (p := ⟨w.heap.size, 2, none⟩) (Nat.le_refl w.heap.size) _).setCell (p := ⟨w.heap.size, 3, none⟩) (Nat.le_refl w.heap.size) _) | exact K.out _ (btr B0 B4) | exact K.out _ (btr B0 B3) | exact K.out _ (btr B0 B2d) | exact K.out _ (btr B0 B2)) (first
      | (go_at_call 57; refine (c_isMissing0 n0 0 noS _).mono ?_; rintro e w3 ⟨rfl, hb3⟩; have B3 : Below W0.heap.size W0 w3 := btr B2d hb3)
      | (go_at_call 121; refine (c_chosen true 0 n0 0 noS 1 0 0 noS _).mono ?_; rintro e w4 ⟨rfl, hb4⟩; have B4 : Below W0.heap.size W0 w4 := btr B3 hb4; obtain ⟨r0, r1, r2, r3, f0, f1, f2, f3⟩ := KR.out _ B4))
  go_wp2
  exact bodyPost_ret (v := V 0 n0 0 noS) (results_cell_row Tryz.results118 _ _ w.heap.size 46 _ (0, 0) _ rfl (put4 (KH.out _ B4) _ _ _ _) Tryz.underlying46 rfl (by rw [info_v4]; rfl)) rfl ⟨rfl, below4 (btr B0 B4) _ (Nat.le_refl _) _ _ _ _⟩

set_option maxRecDepth 100000 in
set_option maxHeartbeats 2000000 in
theorem x_dec1_OT (w : World) (b c : Nat) (hb : b < w.heap.size) (h1 : ValIn w b 0 1 0 0 noS) (h2 : ValIn w b 4 1 1 0 noS) :
    Calls Tryz.prog 118 #[.slice (some ⟨b, 0, none⟩) 2 c, .bool true] w fun e w' => e = .returned (V 1 1 0 noS) ∧ Below w.heap.size w w' := by
  have K := Lib.hid (two_of hb h1 h2)
  have hr0 := heap_alloc_new w (.cells #[.int .i64 0, .int .i64 0, .int .i64 0, .string ⟨#[]⟩] 46)
  have HR0 := Lib.hid hr0
  clear h1 h2 hr0
  go_enter Tryz.func118, Tryz.ntmps118
  go_wp2_with fail
  generalize HW : w.alloc (.cells #[.int .i64 0, .int .i64 0, .int .i64 0, .string ⟨#[]⟩] 46) = W0 at *
  have B0 : Below w.heap.size w W0 := by rw [← HW]; exact (Below.refl _ _).alloc (Nat.le_refl _) _
  have hz0 : w.heap.size < W0.heap.size := by rw [← HW]; simp
  clear HW
  have KH : Hid (∀ W, Below W0.heap.size W0 W → W.heap[w.heap.size]? = some (.cells #[.int .i64 0, .int .i64 0, .int .i64 0, .string ⟨#[]⟩] 46 (0, 0))) := fun W hW => (hW.block _ hz0).trans HR0.out
  have KR : Hid (∀ W, Below W0.heap.size W0 W → ResAt W w.heap.size) := fun W hW => res_at ((hW.block _ hz0).trans HR0.out)
  have B0d : Below W0.heap.size W0 W0.drew := Below.drew (Below.refl _ _)
  go_region_held3 (fun w' => (w'.cell? ⟨b, 0, none⟩ = some (.int .i64 1) ∧ w'.cell? ⟨b, 1, none⟩ = some (.int .i64 0) ∧ w'.cell? ⟨b, 2, none⟩ = some (.int .i64 0) ∧ w'.cell? ⟨b, 3, none⟩ = some (.string noS)) ∧ (w'.cell? ⟨b, 4, none⟩ = some (.int .i64 1) ∧ w'.cell? ⟨b, 5, none⟩ = some (.int .i64 1) ∧ w'.cell? ⟨b, 6, none⟩ = some (.int .i64 0) ∧ w'.cell? ⟨b, 7, none⟩ = some (.string noS)))
    (first | exact K.out _ (btr B0 B2) | exact K.out _ (btr B0 B1) | exact K.out _ (btr B0 B0d) | exact K.out _ B0) (first
      | (go_at_call 87; refine (c_truth1 W0.drew).mono ?_; rintro e w1 ⟨rfl, hb1⟩; have B1 : Below W0.heap.size W0 w1 := btr B0d hb1)
      | (go_at_call 87; refine (c_truth1 w1).mono ?_; rintro e w2 ⟨rfl, hb2⟩; have B2 : Below W0.heap.size W0 w2 := btr B1 hb2))
  go_wp2_with fail
  refine (c_truth1 _).mono ?_
  rintro e w3 ⟨rfl, hb3⟩
  have B3 : Below W0.heap.size W0 w3 := btr B2 hb3
  obtain ⟨r0, r1, r2, r3, f0, f1, f2, f3⟩ := KR.out _ B3
  go_wp2
  exact bodyPost_ret (v := V 1 1 0 noS) (results_cell_row Tryz.results118 _ _ w.heap.size 46 _ (0, 0) _ rfl (put4 (KH.out _ B3) _ _ _ _) Tryz.underlying46 rfl (by rw [info_v4]; rfl)) rfl ⟨rfl, below4 (btr B0 B3) _ (Nat.le_refl _) _ _ _ _⟩

set_option maxRecDepth 100000 in
set_option maxHeartbeats 2000000 in
theorem x_dec1_OM (w : World) (b c : Nat) (n1 : Int) (hb : b < w.heap.size) (h1 : ValIn w b 0 1 0 0 noS) (h2 : ValIn w b 4 0 n1 0 noS) :
    Calls Tryz.prog 118 #[.slice (some ⟨b, 0, none⟩) 2 c, .bool true] w fun e w' => e = .returned (V 0 n1 0 noS) ∧ Below w.heap.size w w' := by
  have K := Lib.hid (two_of hb h1 h2)
  have hr0 := heap_alloc_new w (.cells #[.int .i64 0, .int .i64 0, .int .i64 0, .string ⟨#[]⟩] 46)
  have HR0 := Lib.hid hr0
  clear h1 h2 hr0
  go_enter Tryz.func118, Tryz.ntmps118
  go_wp2_with fail
  generalize HW : w.alloc (.cells #[.int .i64 0, .int .i64 0, .int .i64 0, .string ⟨#[]⟩] 46) = W0 at *
  have B0 : Below w.heap.size w W0 := by rw [← HW]; exact (Below.refl _ _).alloc (Nat.le_refl _) _
  have hz0 : w.heap.size < W0.heap.size := by rw [← HW]; simp
  clear HW
  have KH : Hid (∀ W, Below W0.heap.size W0 W → W.heap[w.heap.size]? = some (.cells #[.int .i64 0, .int .i64 0, .int .i64 0, .string ⟨#[]⟩] 46 (0, 0))) := fun W hW => (hW.block _ hz0).trans HR0.out
  have KR : Hid (∀ W, Below W0.heap.size W0 W → ResAt W w.heap.size) := fun W hW => res_at ((hW.block _ hz0).trans HR0.out)
  have B0d : Below W0.heap.size W0 W0.drew := Below.drew (Below.refl _ _)
  go_region_held3 (fun w' => (w'.cell? ⟨b, 0, none⟩ = some (.int .i64 1) ∧ w'.cell? ⟨b, 1, none⟩ = some (.int .i64 0) ∧ w'.cell? ⟨b, 2, none⟩ = some (.int .i64 0) ∧ w'.cell? ⟨b, 3, none⟩ = some (.string noS)) ∧ (w'.cell? ⟨b, 4, none⟩ = some (.int .i64 0) ∧ w'.cell? ⟨b, 5, none⟩ = some (.int .i64 n1) ∧ w'.cell? ⟨b, 6, none⟩ = some (.int .i64 0) ∧ w'.cell? ⟨b, 7, none⟩ = some (.string noS)))
    (first | exact K.out _ (btr B0 B2) | exact K.out _ (btr B0 B1) | exact K.out _ (btr B0 B0d) | exact K.out _ B0) (first
      | (go_at_call 87; refine (c_truth1 W0.drew).mono ?_; rintro e w1 ⟨rfl, hb1⟩; have B1 : Below W0.heap.size W0 w1 := btr B0d hb1)
      | (go_at_call 87; refine (c_truth1 w1).mono ?_; rintro e w2 ⟨rfl, hb2⟩; have B2 : Below W0.heap.size W0 w2 := btr B1 hb2))
  go_wp2_with fail
  have B2d : Below W0.heap.size W0 w2.drew := Below.drew B2
  go_region_held3 (fun w' => (w'.cell? ⟨b, 0, none⟩ = some (.int .i64 1) ∧ w'.cell? ⟨b, 1, none⟩ = some (.int .i64 0) ∧ w'.cell? ⟨b, 2, none⟩ = some (.int .i64 0) ∧ w'.cell? ⟨b, 3, none⟩ = some (.string noS)) ∧ (w'.cell? ⟨b, 4, none⟩ = some (.int .i64 0) ∧ w'.cell? ⟨b, 5, none⟩ = some (.int .i64 n1) ∧ w'.cell? ⟨b, 6, none⟩ = some (.int .i64 0) ∧ w'.cell? ⟨b, 7, none⟩ = some (.string noS)))
    (first | exact K.out _ (((((btr B0 B4).setCell (p := ⟨w.heap.size, 0, none⟩) (Nat.le_refl w.heap.size) _).setCell (p := ⟨w.heap.size, 1, none⟩) (Nat.le_refl w.heap.size) _).setCell (p := ⟨w.heap.size, 2, none⟩) (Nat.le_refl w.heap.size) _).setCell (p := ⟨w.heap.size, 3, none⟩) (Nat.le_refl w.heap.size) _) | exact K.out _ (btr B0 B4) | exact K.out _ (btr B0 B3) | exact K.out _ (btr B0 B2d) | exact K.out _ (btr B0 B2)) (first
      | (go_at_call 57; refine (c_isMissing1 0 0 noS _).mono ?_; rintro e w3 ⟨rfl, hb3⟩; have B3 : Below W0.heap.size W0 w3 := btr B2d hb3)
      | (go_at_call 121; refine (c_chosen false 1 0 0 noS 0 n1 0 noS _).mono ?_; rintro e w4 ⟨rfl, hb4⟩; have B4 : Below W0.heap.size W0 w4 := btr B3 hb4; obtain ⟨r0, r1, r2, r3, f0, f1, f2, f3⟩ := KR.out _ B4))
  go_wp2
  exact bodyPost_ret (v := V 0 n1 0 noS) (results_cell_row Tryz.results118 _ _ w.heap.size 46 _ (0, 0) _ rfl (put4 (KH.out _ B4) _ _ _ _) Tryz.underlying46 rfl (by rw [info_v4]; rfl)) rfl ⟨rfl, below4 (btr B0 B4) _ (Nat.le_refl _) _ _ _ _⟩

set_option maxRecDepth 100000 in
set_option maxHeartbeats 2000000 in
theorem x_dec1_OO (w : World) (b c : Nat) (hb : b < w.heap.size) (h1 : ValIn w b 0 1 0 0 noS) (h2 : ValIn w b 4 1 0 0 noS) :
    Calls Tryz.prog 118 #[.slice (some ⟨b, 0, none⟩) 2 c, .bool true] w fun e w' => e = .returned (V 1 0 0 noS) ∧ Below w.heap.size w w' := by
  have K := Lib.hid (two_of hb h1 h2)
  have hr0 := heap_alloc_new w (.cells #[.int .i64 0, .int .i64 0, .int .i64 0, .string ⟨#[]⟩] 46)
  have HR0 := Lib.hid hr0
  clear h1 h2 hr0
  go_enter Tryz.func118, Tryz.ntmps118
  go_wp2_with fail
  generalize HW : w.alloc (.cells #[.int .i64 0, .int .i64 0, .int .i64 0, .string ⟨#[]⟩] 46) = W0 at *
  have B0 : Below w.heap.size w W0 := by rw [← HW]; exact (Below.refl _ _).alloc (Nat.le_refl _) _
  have hz0 : w.heap.size < W0.heap.size := by rw [← HW]; simp
  clear HW
  have KH : Hid (∀ W, Below W0.heap.size W0 W → W.heap[w.heap.size]? = some (.cells #[.int .i64 0, .int .i64 0, .int .i64 0, .string ⟨#[]⟩] 46 (0, 0))) := fun W hW => (hW.block _ hz0).trans HR0.out
  have KR : Hid (∀ W, Below W0.heap.size W0 W → ResAt W w.heap.size) := fun W hW => res_at ((hW.block _ hz0).trans HR0.out)
  have B0d : Below W0.heap.size W0 W0.drew := Below.drew (Below.refl _ _)
  go_region_held3 (fun w' => (w'.cell? ⟨b, 0, none⟩ = some (.int .i64 1) ∧ w'.cell? ⟨b, 1, none⟩ = some (.int .i64 0) ∧ w'.cell? ⟨b, 2, none⟩ = some (.int .i64 0) ∧ w'.cell? ⟨b, 3, none⟩ = some (.string noS)) ∧ (w'.cell? ⟨b, 4, none⟩ = some (.int .i64 1) ∧ w'.cell? ⟨b, 5, none⟩ = some (.int .i64 0) ∧ w'.cell? ⟨b, 6, none⟩ = some (.int .i64 0) ∧ w'.cell? ⟨b, 7, none⟩ = some (.string noS)))
    (first | exact K.out _ (btr B0 B2) | exact K.out _ (btr B0 B1) | exact K.out _ (btr B0 B0d) | exact K.out _ B0) (first
      | (go_at_call 87; refine (c_truth1 W0.drew).mono ?_; rintro e w1 ⟨rfl, hb1⟩; have B1 : Below W0.heap.size W0 w1 := btr B0d hb1)
      | (go_at_call 87; refine (c_truth1 w1).mono ?_; rintro e w2 ⟨rfl, hb2⟩; have B2 : Below W0.heap.size W0 w2 := btr B1 hb2))
  go_wp2_with fail
  have B2d : Below W0.heap.size W0 w2.drew := Below.drew B2
  go_region_held3 (fun w' => (w'.cell? ⟨b, 0, none⟩ = some (.int .i64 1) ∧ w'.cell? ⟨b, 1, none⟩ = some (.int .i64 0) ∧ w'.cell? ⟨b, 2, none⟩ = some (.int .i64 0) ∧ w'.cell? ⟨b, 3, none⟩ = some (.string noS)) ∧ (w'.cell? ⟨b, 4, none⟩ = some (.int .i64 1) ∧ w'.cell? ⟨b, 5, none⟩ = some (.int .i64 0) ∧ w'.cell? ⟨b, 6, none⟩ = some (.int .i64 0) ∧ w'.cell? ⟨b, 7, none⟩ = some (.string noS)))
    (first | exact K.out _ (((((btr B0 B4).setCell (p := ⟨w.heap.size, 0, none⟩) (Nat.le_refl w.heap.size) _).setCell (p := ⟨w.heap.size, 1, none⟩) (Nat.le_refl w.heap.size) _).setCell (p := ⟨w.heap.size, 2, none⟩) (Nat.le_refl w.heap.size) _).setCell (p := ⟨w.heap.size, 3, none⟩) (Nat.le_refl w.heap.size) _) | exact K.out _ (btr B0 B4) | exact K.out _ (btr B0 B3) | exact K.out _ (btr B0 B2d) | exact K.out _ (btr B0 B2)) (first
      | (go_at_call 57; refine (c_isMissing1 0 0 noS _).mono ?_; rintro e w3 ⟨rfl, hb3⟩; have B3 : Below W0.heap.size W0 w3 := btr B2d hb3)
      | (go_at_call 121; refine (c_chosen false 1 0 0 noS 1 0 0 noS _).mono ?_; rintro e w4 ⟨rfl, hb4⟩; have B4 : Below W0.heap.size W0 w4 := btr B3 hb4; obtain ⟨r0, r1, r2, r3, f0, f1, f2, f3⟩ := KR.out _ B4))
  go_wp2
  exact bodyPost_ret (v := V 1 0 0 noS) (results_cell_row Tryz.results118 _ _ w.heap.size 46 _ (0, 0) _ rfl (put4 (KH.out _ B4) _ _ _ _) Tryz.underlying46 rfl (by rw [info_v4]; rfl)) rfl ⟨rfl, below4 (btr B0 B4) _ (Nat.le_refl _) _ _ _ _⟩
end Go.Proofs.YtfkjfeobhbocjaaGreatDoor

/- The type of a sum of a whole number and a rational one. -/
import Derived.Test.YtnfncdalneifnaaGreatDoorZDo
namespace Go.Proofs.YtnfncdalneifnaaGreatDoor
open Go.RowKit Go.Deep

theorem c_isType (t : Int) (h : 1 ≤ t ∧ t ≤ 4) (w : World) :
    Calls Tryz.prog 53 #[.int .i64 t] w fun e w' => e = .returned (.bool true) ∧ Below w.heap.size w w' := by
  have h1 : decide (1 ≤ t) = true := by simpa using h.1
  have h2 : decide (t ≤ 4) = true := by simpa using h.2
  go_enter Tryz.func53, Tryz.ntmps53
  go_wp2
  go_ret
  exact ⟨rfl, Below.refl _ _⟩
theorem c_isType2 (w : World) : Calls Tryz.prog 53 #[.int .i64 2] w fun e w' => e = .returned (.bool true) ∧ Below w.heap.size w w' := c_isType 2 (by omega) w
theorem c_isType3 (w : World) : Calls Tryz.prog 53 #[.int .i64 3] w fun e w' => e = .returned (.bool true) ∧ Below w.heap.size w w' := c_isType 3 (by omega) w

theorem c_isNumeric2 (w : World) :
    Calls Tryz.prog 101 #[.int .i64 2] w fun e w' => e = .returned (.bool true) ∧ Below w.heap.size w w' := by
  go_enter Tryz.func101, Tryz.ntmps101
  go_wp2
  go_ret
  exact ⟨rfl, Below.refl _ _⟩
theorem c_isNumeric3 (w : World) :
    Calls Tryz.prog 101 #[.int .i64 3] w fun e w' => e = .returned (.bool true) ∧ Below w.heap.size w w' := by
  go_enter Tryz.func101, Tryz.ntmps101
  go_wp2
  go_ret
  exact ⟨rfl, Below.refl _ _⟩

theorem c_commonType02 (w : World) :
    Calls Tryz.prog 102 #[.int .i64 0, .int .i64 2] w fun e w' => e = .returned (.int .i64 2) ∧ Below w.heap.size w w' := by
  go_enter Tryz.func102, Tryz.ntmps102
  go_wp2
  go_ret
  exact ⟨rfl, Below.refl _ _⟩
theorem c_commonType23 (w : World) :
    Calls Tryz.prog 102 #[.int .i64 2, .int .i64 3] w fun e w' => e = .returned (.int .i64 3) ∧ Below w.heap.size w w' := by
  go_enter Tryz.func102, Tryz.ntmps102
  go_wp2_with fail
  refine (c_isNumeric2 _).mono ?_
  rintro e w1 ⟨rfl, hb1⟩
  go_wp2_with fail
  refine (c_isNumeric3 _).mono ?_
  rintro e w2 ⟨rfl, hb2⟩
  go_wp2
  all_goals
    go_ret
    exact ⟨rfl, btr hb1 hb2⟩

theorem c_shared23 (w : World) (b c : Nat) (r : Int) (l : Bool) (F : Value) (hb : b < w.heap.size) (h0 : w.cell? ⟨b, 0, none⟩ = some (.int .i64 2)) (h1 : w.cell? ⟨b, 1, none⟩ = some (.int .i64 3)) :
    Calls Tryz.prog 54 #[.agg #[.int .i64 2, .int .i64 3, .int .i64 3, .int .i64 0, .int .i64 r, .bool l, F], .slice (some ⟨b, 0, none⟩) 2 c] w fun e w' => e = .returned (.tuple #[.int .i64 3, .bool true]) ∧ Below w.heap.size w w' := by
  have K : Hid (∀ W, Below w.heap.size w W → W.cell? ⟨b, 1, none⟩ = some (.int .i64 3)) := fun W hW => (hW.cell (p := ⟨b, 1, none⟩) hb).trans h1
  clear h1
  go_enter Tryz.func54, Tryz.ntmps54
  go_wp2
  refine wp_loop_rounds 3 ?_
  rw [rounds_succ]
  go_wp2_with fail
  refine (c_isNumeric2 _).mono ?_
  rintro e w1 ⟨rfl, hb1⟩
  go_wp2_with fail
  refine (c_commonType02 _).mono ?_
  rintro e w2 ⟨rfl, hb2⟩
  have B2 : Hid (Below w.heap.size w w2) := btr (btr ((Below.refl _ _).alloc (Nat.le_refl _) _) hb1) hb2
  have hb12 := btr hb1 hb2
  have g2 : w2.cell? ⟨w.heap.size, 2, none⟩ = some (.int .i64 3) := by rw [hb12.cell (p := ⟨w.heap.size, 2, none⟩) (by simp), cell_of_row _ _ _ _ _ _ (heap_alloc_new w _)]; rfl
  have e1 := K.out _ B2.out
  clear hb1 hb2 hb12
  go_wp2
  rw [rounds_succ]
  go_wp2_with fail
  refine (c_isNumeric3 _).mono ?_
  rintro e w3 ⟨rfl, hb3⟩
  have B3 : Hid (Below w.heap.size w w3) := btr B2.out hb3
  clear hb3 g2
  go_wp2_with fail
  refine (c_commonType23 _).mono ?_
  rintro e w4 ⟨rfl, hb4⟩
  have B4 : Hid (Below w.heap.size w w4) := btr B3.out hb4
  clear hb4
  go_wp2
  rw [rounds_succ]
  go_wp2
  go_ret2
  exact ⟨rfl, B4.out⟩

set_option maxRecDepth 100000 in
set_option maxHeartbeats 4000000 in
theorem t_add (w : World) (b c : Nat) (hb : b < w.heap.size) (h0 : w.cell? ⟨b, 0, none⟩ = some (.int .i64 2)) (h1 : w.cell? ⟨b, 1, none⟩ = some (.int .i64 3)) :
    Calls Tryz.prog 20 #[.int .i64 9, .slice (some ⟨b, 0, none⟩) 2 c] w fun e w' => e = .returned (.tuple #[.int .i64 3, .int .i64 0]) ∧ Below w.heap.size w w' := by
  have HF := Lib.hid (fun W => f_op9 W)
  have K0 : Hid (∀ W, Below w.heap.size w W → W.cell? ⟨b, 0, none⟩ = some (.int .i64 2) ∧ W.cell? ⟨b, 1, none⟩ = some (.int .i64 3)) := fun W hW => ⟨(hW.cell (p := ⟨b, 0, none⟩) hb).trans h0, (hW.cell (p := ⟨b, 1, none⟩) hb).trans h1⟩
  clear h0 h1
  go_enter Tryz.func20, Tryz.ntmps20
  go_wp2_with fail
  refine (HF.out _).mono ?_
  rintro e w1 ⟨rfl, hb1⟩
  have B1 : Hid (Below w.heap.size w w1) := hb1
  have hz1 : w.heap.size ≤ w1.heap.size := hb1.size
  clear hb1 HF
  simp only [o7]
  go_wp2_with (first | (refine wpList_store_row 53 _ _ rfl rfl rfl w1.heap.size 53 rfl (o7 2 3 3 0 0 false 117) rfl _ (heap_alloc_new w1 _) rfl info_op (o7_one _ _ _ _ _ _ _) ?_; intro w2 hh2 hg2 hz2; have B2 : Hid (Below w.heap.size w w2) := (B1.out.alloc (by omega) _).grown hg2 (by simp; omega) (fun j hj => by injection hj with hj; omega); have hl2 : w1.heap.size < w2.heap.size := (by rw [hz2]; simp); have HL2 := Lib.hid hh2; clear hz2 hg2 hh2))
  have K : Hid (∀ W, Below w2.heap.size w2 W → W.heap[w1.heap.size]? = some (.cells (o7 2 3 3 0 0 false 117).toArray 53 (0, 0))) := fun W hW => (hW.block _ hl2).trans HL2.out
  have KL : Hid (∀ W, Below w2.heap.size w2 W → W.cell? ⟨b, 0, none⟩ = some (.int .i64 2) ∧ W.cell? ⟨b, 1, none⟩ = some (.int .i64 3)) := fun W hW => K0.out _ (btr B2.out hW)
  have hz2 : w.heap.size < w2.heap.size := by omega
  clear HL2
  obtain ⟨a0, a1⟩ := KL.out _ (Below.refl w2.heap.size w2)
  go_wp2
  refine wp_loop_rounds 3 ?_
  rw [rounds_succ]
  go_wp2_with fail
  refine (c_isType2 _).mono ?_
  rintro e w3 ⟨rfl, hb3⟩
  have B3 : Below w2.heap.size w2 w3 := btr (Below.refl _ _) hb3
  clear hb3 a0 a1
  obtain ⟨a0, a1⟩ := KL.out _ B3
  go_wp2
  rw [rounds_succ]
  go_wp2_with fail
  refine (c_isType3 _).mono ?_
  rintro e w4 ⟨rfl, hb4⟩
  have B4 : Below w2.heap.size w2 w4 := btr B3 hb4
  clear hb4 a0 a1
  have hk4 := K.out _ B4
  have o0 : w4.cell? ⟨w1.heap.size, 0, none⟩ = some (.int .i64 2) := by rw [cell_of_row _ _ _ _ _ _ hk4]; rfl
  have o1 : w4.cell? ⟨w1.heap.size, 1, none⟩ = some (.int .i64 3) := by rw [cell_of_row _ _ _ _ _ _ hk4]; rfl
  have o2 : w4.cell? ⟨w1.heap.size, 2, none⟩ = some (.int .i64 3) := by rw [cell_of_row _ _ _ _ _ _ hk4]; rfl
  have o3 : w4.cell? ⟨w1.heap.size, 3, none⟩ = some (.int .i64 0) := by rw [cell_of_row _ _ _ _ _ _ hk4]; rfl
  have o4 : w4.cell? ⟨w1.heap.size, 4, none⟩ = some (.int .i64 0) := by rw [cell_of_row _ _ _ _ _ _ hk4]; rfl
  have o5 : w4.cell? ⟨w1.heap.size, 5, none⟩ = some (.bool false) := by rw [cell_of_row _ _ _ _ _ _ hk4]; rfl
  have o6 : w4.cell? ⟨w1.heap.size, 6, none⟩ = some (.func (.func 117) #[] #[]) := by rw [cell_of_row _ _ _ _ _ _ hk4]; rfl
  clear hk4
  go_wp2
  rw [rounds_succ]
  go_wp2_with fail
  refine (c_shared23 _ b c 0 false _ (by have := B4.size; omega) (KL.out _ B4).1 (KL.out _ B4).2).mono ?_
  rintro e w5 ⟨rfl, hb5⟩
  have B5 : Below w2.heap.size w2 w5 := btr B4 hb5
  clear hb5 o0 o1 o2 o3 o4 o5 o6
  have hk4 := K.out _ B5
  have o0 : w5.cell? ⟨w1.heap.size, 0, none⟩ = some (.int .i64 2) := by rw [cell_of_row _ _ _ _ _ _ hk4]; rfl
  have o1 : w5.cell? ⟨w1.heap.size, 1, none⟩ = some (.int .i64 3) := by rw [cell_of_row _ _ _ _ _ _ hk4]; rfl
  have o2 : w5.cell? ⟨w1.heap.size, 2, none⟩ = some (.int .i64 3) := by rw [cell_of_row _ _ _ _ _ _ hk4]; rfl
  have o3 : w5.cell? ⟨w1.heap.size, 3, none⟩ = some (.int .i64 0) := by rw [cell_of_row _ _ _ _ _ _ hk4]; rfl
  have o4 : w5.cell? ⟨w1.heap.size, 4, none⟩ = some (.int .i64 0) := by rw [cell_of_row _ _ _ _ _ _ hk4]; rfl
  have o5 : w5.cell? ⟨w1.heap.size, 5, none⟩ = some (.bool false) := by rw [cell_of_row _ _ _ _ _ _ hk4]; rfl
  have o6 : w5.cell? ⟨w1.heap.size, 6, none⟩ = some (.func (.func 117) #[] #[]) := by rw [cell_of_row _ _ _ _ _ _ hk4]; rfl
  clear hk4
  go_wp2
  go_ret2
  exact ⟨rfl, btr B2.out B5⟩
end Go.Proofs.YtnfncdalneifnaaGreatDoor

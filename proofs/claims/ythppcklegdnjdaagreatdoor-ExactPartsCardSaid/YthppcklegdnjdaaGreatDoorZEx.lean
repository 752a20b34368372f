/- The numbers of the chapter's examples. -/
import Derived.Test.YthppcklegdnjdaaGreatDoorZDoes
import Derived.Test.YthppcklegdnjdaaGreatDoorZRead
import Derived.Test.YthppcklegdnjdaaGreatDoorZTyp
import Derived.Test.YthppcklegdnjdaaGreatDoorZOrd
import Derived.Test.YthppcklegdnjdaaGreatDoorZNum
namespace Go.Proofs.YthppcklegdnjdaaGreatDoor
open Go.RowKit Go.Deep

theorem of_64 (w : World) : Calls Tryz.prog 19 #[.int .i64 6, .int .i64 (-4)] w fun e w' => ∃ u, e = .returned (.tuple #[u, .int .i64 0]) ∧ RatAt w' u true 3 2 ∧ Below w.heap.size w w' :=
  c_Of w 6 (-4) (by omega) (by omega) (by omega) (by omega) (by omega)
theorem of_07 (w : World) : Calls Tryz.prog 19 #[.int .i64 0, .int .i64 (-7)] w fun e w' => ∃ u, e = .returned (.tuple #[u, .int .i64 0]) ∧ RatAt w' u false 0 1 ∧ Below w.heap.size w w' :=
  c_Of w 0 (-7) (by omega) (by omega) (by omega) (by omega) (by omega)
theorem of_10 (x : Int) (w : World) : Calls Tryz.prog 19 #[.int .i64 x, .int .i64 0] w fun e w' => e = .returned (.tuple #[.pointer none, .int .i64 2]) ∧ w = w' := by
  go_enter Tryz.func19, Tryz.ntmps19
  go_wp2
  go_ret2
  exact ⟨rfl, rfl⟩
theorem tx_m32 (w : World) (v : Value) (h : RatAt w v true 3 2) : Calls Tryz.prog 9 #[v] w fun e w' => e = .returned (.string ⟨#[45, 51, 47, 50]⟩) ∧ Below w.heap.size w w' := by
  have e : (ratText true 3 2).toArray = #[45, 51, 47, 50] := by kernel_rfl
  rw [← e]; exact c_Text w v true 3 2 h (by omega) (by omega)
theorem tx_0 (w : World) (v : Value) (h : RatAt w v false 0 1) : Calls Tryz.prog 9 #[v] w fun e w' => e = .returned (.string ⟨#[48]⟩) ∧ Below w.heap.size w w' := by
  have e : (ratText false 0 1).toArray = #[48] := by kernel_rfl
  rw [← e]; exact c_Text w v false 0 1 h (by omega) (by omega)
theorem tx_m2 (w : World) (v : Value) (h : RatAt w v true 2 1) : Calls Tryz.prog 9 #[v] w fun e w' => e = .returned (.string ⟨#[45, 50]⟩) ∧ Below w.heap.size w w' := by
  have e : (ratText true 2 1).toArray = #[45, 50] := by kernel_rfl
  rw [← e]; exact c_Text w v true 2 1 h (by omega) (by omega)
theorem tx_m3 (w : World) (v : Value) (h : RatAt w v true 3 1) : Calls Tryz.prog 9 #[v] w fun e w' => e = .returned (.string ⟨#[45, 51]⟩) ∧ Below w.heap.size w w' := by
  have e : (ratText true 3 1).toArray = #[45, 51] := by kernel_rfl
  rw [← e]; exact c_Text w v true 3 1 h (by omega) (by omega)
theorem fl_m32 (w : World) (v : Value) (h : RatAt w v true 3 2) : Calls Tryz.prog 20 #[v] w (RatRet w true 2 1) := by
  have e : floorN true 3 2 = 2 := by decide
  have g := c_Floor w v true 3 2 h (by omega) (nw_small _ (by decide)) (divs_small 3 2 (by decide) (by decide) (by omega))
  rw [e] at g
  exact g
theorem bits_m32 (w : World) (v : Value) (h : RatAt w v true 3 2) : Calls Tryz.prog 21 #[v] w fun e w' => e = .returned (.tuple #[.int .i64 2, .int .i64 2]) ∧ ∃ k, w' = w.drewN k := by
  have e1 : (lenN 3 : Int) = 2 := by decide
  have e2 : (lenN 2 : Int) = 2 := by decide
  have g := c_Bits_small w v true 3 2 h (by decide) (by decide)
  rw [e1, e2] at g
  exact g
theorem bits_0 (w : World) (v : Value) (h : RatAt w v false 0 1) : Calls Tryz.prog 21 #[v] w fun e w' => e = .returned (.tuple #[.int .i64 0, .int .i64 1]) ∧ ∃ k, w' = w.drewN k := by
  have e1 : (lenN 0 : Int) = 0 := by decide
  have e2 : (lenN 1 : Int) = 1 := by decide
  have g := c_Bits_small w v false 0 1 h (by decide) (by decide)
  rw [e1, e2] at g
  exact g
theorem or_1 (w : World) : Calls Tryz.prog 24 #[V 0 9 0 noS, V 1 0 0 noS] w fun e w' => e = .returned (.int .i64 (-1)) ∧ Below w.heap.size w w' :=
  o_kinds w 0 9 0 noS 1 0 0 noS (.missing _ (by omega) (by omega)) (.truth false) (by omega)
theorem sg_m32 (w : World) (v : Value) (h : RatAt w v true 3 2) : Calls Tryz.prog 22 #[v] w fun e w' => e = .returned (.int .i64 (-1)) ∧ w = w' := by
  have e : signN true 3 = -1 := by decide
  have g := c_Sign w v true 3 2 h
  rw [e] at g
  exact g
theorem wh_m32 (w : World) (v : Value) (h : RatAt w v true 3 2) : Calls Tryz.prog 23 #[v] w fun e w' => e = .returned (.bool false) ∧ w = w' := c_Whole w v true 3 2 h
theorem wh_0 (w : World) (v : Value) (h : RatAt w v false 0 1) : Calls Tryz.prog 23 #[v] w fun e w' => e = .returned (.bool true) ∧ w = w' := c_Whole w v false 0 1 h
theorem at_alloc2 (w : World) (k0 n0 d0 : Int) (s0 : ByteArray) (k1 n1 d1 : Int) (s1 : ByteArray) : At (w.alloc (.cells #[.int .i64 k0, .int .i64 n0, .int .i64 d0, .string s0, .int .i64 k1, .int .i64 n1, .int .i64 d1, .string s1] 24)) w.heap.size [(k0, n0, d0, s0), (k1, n1, d1, s1)] := by
  refine ⟨by simp, ?_⟩
  have h := heap_alloc_new w (.cells #[.int .i64 k0, .int .i64 n0, .int .i64 d0, .string s0, .int .i64 k1, .int .i64 n1, .int .i64 d1, .string s1] 24)
  intro j hj
  have hj' : j < 2 := hj
  match j, hj' with
  | 0, _ => exact ⟨by rw [cell_of_row _ _ _ _ _ _ h]; rfl, by rw [cell_of_row _ _ _ _ _ _ h]; rfl, by rw [cell_of_row _ _ _ _ _ _ h]; rfl, by rw [cell_of_row _ _ _ _ _ _ h]; rfl⟩
  | 1, _ => exact ⟨by rw [cell_of_row _ _ _ _ _ _ h]; rfl, by rw [cell_of_row _ _ _ _ _ _ h]; rfl, by rw [cell_of_row _ _ _ _ _ _ h]; rfl, by rw [cell_of_row _ _ _ _ _ _ h]; rfl⟩
theorem at_alloc3 (w : World) (k0 n0 d0 : Int) (s0 : ByteArray) (k1 n1 d1 : Int) (s1 : ByteArray) (k2 n2 d2 : Int) (s2 : ByteArray) : At (w.alloc (.cells #[.int .i64 k0, .int .i64 n0, .int .i64 d0, .string s0, .int .i64 k1, .int .i64 n1, .int .i64 d1, .string s1, .int .i64 k2, .int .i64 n2, .int .i64 d2, .string s2] 24)) w.heap.size [(k0, n0, d0, s0), (k1, n1, d1, s1), (k2, n2, d2, s2)] := by
  refine ⟨by simp, ?_⟩
  have h := heap_alloc_new w (.cells #[.int .i64 k0, .int .i64 n0, .int .i64 d0, .string s0, .int .i64 k1, .int .i64 n1, .int .i64 d1, .string s1, .int .i64 k2, .int .i64 n2, .int .i64 d2, .string s2] 24)
  intro j hj
  have hj' : j < 3 := hj
  match j, hj' with
  | 0, _ => exact ⟨by rw [cell_of_row _ _ _ _ _ _ h]; rfl, by rw [cell_of_row _ _ _ _ _ _ h]; rfl, by rw [cell_of_row _ _ _ _ _ _ h]; rfl, by rw [cell_of_row _ _ _ _ _ _ h]; rfl⟩
  | 1, _ => exact ⟨by rw [cell_of_row _ _ _ _ _ _ h]; rfl, by rw [cell_of_row _ _ _ _ _ _ h]; rfl, by rw [cell_of_row _ _ _ _ _ _ h]; rfl, by rw [cell_of_row _ _ _ _ _ _ h]; rfl⟩
  | 2, _ => exact ⟨by rw [cell_of_row _ _ _ _ _ _ h]; rfl, by rw [cell_of_row _ _ _ _ _ _ h]; rfl, by rw [cell_of_row _ _ _ _ _ _ h]; rfl, by rw [cell_of_row _ _ _ _ _ _ h]; rfl⟩
theorem ea_add (w : World) : Calls Tryz.prog 29 #[.int .i64 9, V 0 2 0 noS, .int .i64 0, .slice (some ⟨w.heap.size, 0, none⟩) 2 2] (w.alloc (.cells #[.int .i64 2, .int .i64 1099511627776, .int .i64 1, .string noS, .int .i64 2, .int .i64 1, .int .i64 1, .string noS] 24)) fun e w' => e = .returned (.bool true) ∧ Below w.heap.size w w' :=
  (e_add _ _ 2 (at_alloc2 w _ _ _ _ _ _ _ _)).mono fun _ _ h => ⟨h.1, btr ((Below.refl _ _).alloc (Nat.le_refl _) _) h.2⟩
theorem ea_div (w : World) : Calls Tryz.prog 29 #[.int .i64 12, V 0 3 0 noS, .int .i64 0, .slice (some ⟨w.heap.size, 0, none⟩) 2 2] (w.alloc (.cells #[.int .i64 2, .int .i64 1, .int .i64 1, .string noS, .int .i64 2, .int .i64 0, .int .i64 1, .string noS] 24)) fun e w' => e = .returned (.bool true) ∧ Below w.heap.size w w' :=
  (e_div _ _ 2 (at_alloc2 w _ _ _ _ _ _ _ _)).mono fun _ _ h => ⟨h.1, btr ((Below.refl _ _).alloc (Nat.le_refl _) _) h.2⟩
theorem ea_and (w : World) : Calls Tryz.prog 29 #[.int .i64 19, V 1 0 0 noS, .int .i64 0, .slice (some ⟨w.heap.size, 0, none⟩) 2 2] (w.alloc (.cells #[.int .i64 0, .int .i64 7, .int .i64 0, .string noS, .int .i64 1, .int .i64 0, .int .i64 0, .string noS] 24)) fun e w' => e = .returned (.bool true) ∧ Below w.heap.size w w' :=
  (e_and _ _ 2 (at_alloc2 w _ _ _ _ _ _ _ _)).mono fun _ _ h => ⟨h.1, btr ((Below.refl _ _).alloc (Nat.le_refl _) _) h.2⟩
theorem ea_else (w : World) : Calls Tryz.prog 29 #[.int .i64 21, V 0 9 0 noS, .int .i64 0, .slice (some ⟨w.heap.size, 0, none⟩) 2 2] (w.alloc (.cells #[.int .i64 0, .int .i64 7, .int .i64 0, .string noS, .int .i64 0, .int .i64 9, .int .i64 0, .string noS] 24)) fun e w' => e = .returned (.bool true) ∧ Below w.heap.size w w' :=
  (e_else _ _ 2 (at_alloc2 w _ _ _ _ _ _ _ _)).mono fun _ _ h => ⟨h.1, btr ((Below.refl _ _).alloc (Nat.le_refl _) _) h.2⟩
theorem ea_if (w : World) : Calls Tryz.prog 29 #[.int .i64 22, V 2 1 1 noS, .int .i64 0, .slice (some ⟨w.heap.size, 0, none⟩) 3 3] (w.alloc (.cells #[.int .i64 1, .int .i64 1, .int .i64 0, .string noS, .int .i64 2, .int .i64 1, .int .i64 1, .string noS, .int .i64 0, .int .i64 5, .int .i64 0, .string noS] 24)) fun e w' => e = .returned (.bool true) ∧ Below w.heap.size w w' :=
  (e_if _ _ 3 (at_alloc3 w _ _ _ _ _ _ _ _ _ _ _ _)).mono fun _ _ h => ⟨h.1, btr ((Below.refl _ _).alloc (Nat.le_refl _) _) h.2⟩
theorem ea_bad (w : World) : Calls Tryz.prog 29 #[.int .i64 9, V 0 0 0 noS, .int .i64 12, .slice (some ⟨w.heap.size, 0, none⟩) 2 2] (w.alloc (.cells #[.int .i64 0, .int .i64 7, .int .i64 0, .string noS, .int .i64 3, .int .i64 0, .int .i64 0, .string ⟨#[97]⟩] 24)) fun e w' => e = .returned (.bool true) ∧ Below w.heap.size w w' :=
  (e_bad _ _ 2 (at_alloc2 w _ _ _ _ _ _ _ _)).mono fun _ _ h => ⟨h.1, btr ((Below.refl _ _).alloc (Nat.le_refl _) _) h.2⟩
theorem ea_type (w : World) : Calls Tryz.prog 16 #[.int .i64 9, .slice (some ⟨w.heap.size, 0, none⟩) 2 2] (w.alloc (.cells #[.int .i64 2, .int .i64 3] 3)) fun e w' => e = .returned (.tuple #[.int .i64 3, .int .i64 0]) ∧ Below w.heap.size w w' := by
  have h := heap_alloc_new w (.cells #[.int .i64 2, .int .i64 3] 3)
  exact (t_add _ w.heap.size 2 (by simp) (by rw [cell_of_row _ _ _ _ _ _ h]; rfl) (by rw [cell_of_row _ _ _ _ _ _ h]; rfl)).mono fun _ _ h => ⟨h.1, btr ((Below.refl _ _).alloc (Nat.le_refl _) _) h.2⟩
end Go.Proofs.YthppcklegdnjdaaGreatDoor

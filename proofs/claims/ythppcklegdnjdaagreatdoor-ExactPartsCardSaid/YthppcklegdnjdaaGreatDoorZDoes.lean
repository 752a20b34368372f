/- The examples of operations: what does returns, for whatever Do returns. -/
import Derived.Test.YthppcklegdnjdaaGreatDoorZVal
import Derived.Test.YthppcklegdnjdaaGreatDoorZDo
import Derived.Test.YthppcklegdnjdaaGreatDoorZIf
import Derived.Test.YthppcklegdnjdaaGreatDoorZNum
namespace Go.Proofs.YthppcklegdnjdaaGreatDoor
open Go.RowKit Go.Deep

theorem m_num (n d : Int) (w : World) :
    Calls Tryz.prog 27 #[.int .i64 n, .int .i64 d] w fun e w' => e = .returned (V 2 n d noS) ∧ Below w.heap.size w w' := by
  go_enter Tryz.func27, Tryz.ntmps27
  go_wp2
  exact bodyPost_ret (v := V 2 n d noS) (by simp [results, Tryz.results27, go_sem]) rfl ⟨rfl, (Below.refl _ _).alloc (Nat.le_refl _) _⟩
theorem m_text (s : ByteArray) (w : World) :
    Calls Tryz.prog 28 #[.string s] w fun e w' => e = .returned (V 3 0 0 s) ∧ Below w.heap.size w w' := by
  go_enter Tryz.func28, Tryz.ntmps28
  go_wp2
  exact bodyPost_ret (v := V 3 0 0 s) (by simp [results, Tryz.results28, go_sem]) rfl ⟨rfl, (Below.refl _ _).alloc (Nat.le_refl _) _⟩
theorem m_none (n : Int) (w : World) :
    Calls Tryz.prog 25 #[.int .i64 n] w fun e w' => e = .returned (V 0 n 0 noS) ∧ Below w.heap.size w w' := by
  go_enter Tryz.func25, Tryz.ntmps25
  go_wp2
  exact bodyPost_ret (v := V 0 n 0 noS) (by simp [results, Tryz.results25, go_sem]) rfl ⟨rfl, (Below.refl _ _).alloc (Nat.le_refl _) _⟩
theorem m_truth (n : Int) (w : World) :
    Calls Tryz.prog 26 #[.int .i64 n] w fun e w' => e = .returned (V 1 n 0 noS) ∧ Below w.heap.size w w' := by
  go_enter Tryz.func26, Tryz.ntmps26
  go_wp2
  exact bodyPost_ret (v := V 1 n 0 noS) (by simp [results, Tryz.results26, go_sem]) rfl ⟨rfl, (Below.refl _ _).alloc (Nat.le_refl _) _⟩

set_option maxHeartbeats 1000000 in
theorem c_does (op k n d : Int) (s : ByteArray) (er : Int) (sl : Value) (w : World)
    (HD : ∀ W, Below w.heap.size w W → Calls Tryz.prog 18 #[.int .i64 op, sl] W fun e w' => e = .returned (.tuple #[V k n d s, .int .i64 er]) ∧ Below W.heap.size W w') :
    Calls Tryz.prog 29 #[.int .i64 op, V k n d s, .int .i64 er, sl] w fun e w' => e = .returned (.bool true) ∧ Below w.heap.size w w' := by
  have H := Lib.hid HD
  obtain ⟨W, b, hW, hb, hlt, hbel, K⟩ := box_facts w k n d s
  have HW := Lib.hid hW
  have HB := Lib.hid hb
  clear HD hW hb
  go_enter Tryz.func29, Tryz.ntmps29
  go_wp2_with fail
  rw [HW.out]
  refine (H.out _ hbel).mono ?_
  rintro e w1 ⟨rfl, hb1⟩
  have B1 : Hid (Below w.heap.size w w1) := btr hbel hb1
  obtain ⟨W2, b2, hW2, hbb2, hlt2, hbel2, K2⟩ := box_facts w1 k n d s
  obtain ⟨k0, k1, k2, k3⟩ := K.out _ (btr hb1 hbel2)
  obtain ⟨j0, j1, j2, j3⟩ := K2.out _ (Below.refl _ _)
  rw [← HB.out] at k0 k1 k2 k3
  rw [← hbb2] at j0 j1 j2 j3
  have B2 : Hid (Below w.heap.size w W2) := btr B1.out hbel2
  subst hW2
  clear hbb2 H hb1 hbel2 hbel K K2 HB
  go_wp2_with fail
  go_ret
  exact ⟨rfl, B2.out⟩

def At (w : World) (b : Nat) (l : List (Int × Int × Int × ByteArray)) : Prop := b < w.heap.size ∧ ∀ j (h : j < l.length), ValIn w b (4 * j) l[j].1 l[j].2.1 l[j].2.2.1 l[j].2.2.2
theorem At.below {w W : World} {b : Nat} {l : List (Int × Int × Int × ByteArray)} (h : At w b l) (hW : Below w.heap.size w W) : At W b l :=
  ⟨Nat.lt_of_lt_of_le h.1 hW.size, fun j hj => (h.2 j hj).below hW h.1⟩

theorem e_add (w : World) (b c : Nat) (h : At w b [(2, 1099511627776, 1, noS), (2, 1, 1, noS)]) :
    Calls Tryz.prog 29 #[.int .i64 9, V 0 2 0 noS, .int .i64 0, .slice (some ⟨b, 0, none⟩) 2 c] w fun e w' => e = .returned (.bool true) ∧ Below w.heap.size w w' :=
  c_does _ _ _ _ _ _ _ w fun W hW => by
    obtain ⟨hb, g⟩ := h.below hW
    exact d_op9 W b c _ _ _ _ _ _ _ _ _ _ hb (g 0 (by decide)) (.num _ _ (low1 _ (by decide) (by decide))) (g 1 (by decide)) (.num _ _ (low1 _ (by decide) (by decide)))
      (fun W' hb' a0 a1 => s_nn W' b c _ _ _ _ _ _ _ _ _ hb' a0 a1) (fun W' hb' a0 a1 => r_add W' b c hb' a0 a1)
theorem e_div (w : World) (b c : Nat) (h : At w b [(2, 1, 1, noS), (2, 0, 1, noS)]) :
    Calls Tryz.prog 29 #[.int .i64 12, V 0 3 0 noS, .int .i64 0, .slice (some ⟨b, 0, none⟩) 2 c] w fun e w' => e = .returned (.bool true) ∧ Below w.heap.size w w' :=
  c_does _ _ _ _ _ _ _ w fun W hW => by
    obtain ⟨hb, g⟩ := h.below hW
    exact d_op12 W b c _ _ _ _ _ _ _ _ _ _ hb (g 0 (by decide)) (.num _ _ (low1 _ (by decide) (by decide))) (g 1 (by decide)) (.num _ _ (low1 _ (by decide) (by decide)))
      (fun W' hb' a0 a1 => s_nn W' b c _ _ _ _ _ _ _ _ _ hb' a0 a1) (fun W' hb' a0 a1 => r_div W' b c hb' a0 a1)
theorem e_and (w : World) (b c : Nat) (h : At w b [(0, 7, 0, noS), (1, 0, 0, noS)]) :
    Calls Tryz.prog 29 #[.int .i64 19, V 1 0 0 noS, .int .i64 0, .slice (some ⟨b, 0, none⟩) 2 c] w fun e w' => e = .returned (.bool true) ∧ Below w.heap.size w w' :=
  c_does _ _ _ _ _ _ _ w fun W hW => by
    obtain ⟨hb, g⟩ := h.below hW
    exact d_op19 W b c _ _ _ _ _ _ _ _ _ _ _ _ hb (g 0 (by decide)) (.missing _ (by decide) (by decide)) (g 1 (by decide)) (.truth false)
      (fun W' hb' a0 a1 => s_bb_01 W' b c _ _ _ _ _ _ _ _ _ hb' a0 a1)
      (fun W' hb' a0 a1 => x_and W' b c _ _ _ _ fun W'' hW'' => x_dec_mF W'' b c _ (Nat.lt_of_lt_of_le hb' hW''.size) (a0.below hW'' hb') (a1.below hW'' hb'))
theorem e_else (w : World) (b c : Nat) (h : At w b [(0, 7, 0, noS), (0, 9, 0, noS)]) :
    Calls Tryz.prog 29 #[.int .i64 21, V 0 9 0 noS, .int .i64 0, .slice (some ⟨b, 0, none⟩) 2 c] w fun e w' => e = .returned (.bool true) ∧ Below w.heap.size w w' :=
  c_does _ _ _ _ _ _ _ w fun W hW => by
    obtain ⟨hb, g⟩ := h.below hW
    exact d_op21 W b c _ _ _ _ _ _ _ _ _ _ _ _ hb (g 0 (by decide)) (.missing _ (by decide) (by decide)) (g 1 (by decide)) (.missing _ (by decide) (by decide))
      (fun W' hb' a0 a1 => s_aa_00 W' b c _ _ _ _ _ _ _ _ _ hb' a0 a1) (fun W' hb' a0 a1 => x_else W' b c _ _ hb' a0 a1)
theorem e_if (w : World) (b c : Nat) (h : At w b [(1, 1, 0, noS), (2, 1, 1, noS), (0, 5, 0, noS)]) :
    Calls Tryz.prog 29 #[.int .i64 22, V 2 1 1 noS, .int .i64 0, .slice (some ⟨b, 0, none⟩) 3 c] w fun e w' => e = .returned (.bool true) ∧ Below w.heap.size w w' :=
  c_does _ _ _ _ _ _ _ w fun W hW => by
    obtain ⟨hb, g⟩ := h.below hW
    exact d_op22 W b c _ _ _ _ _ _ _ _ _ _ _ _ _ _ _ _ hb (g 0 (by decide)) (.truth true) (g 1 (by decide)) (.num _ _ (low1 _ (by decide) (by decide))) (g 2 (by decide)) (.missing _ (by decide) (by decide))
      (fun W' hb' a0 a1 a2 => s_if_120 W' b c _ _ _ _ _ _ _ _ _ _ _ _ hb' a0 a1 a2) (fun W' hb' a0 a1 a2 => r_if W' b c hb' a0 a1 a2)
theorem e_bad (w : World) (b c : Nat) (h : At w b [(0, 7, 0, noS), (3, 0, 0, ⟨#[97]⟩)]) :
    Calls Tryz.prog 29 #[.int .i64 9, V 0 0 0 noS, .int .i64 12, .slice (some ⟨b, 0, none⟩) 2 c] w fun e w' => e = .returned (.bool true) ∧ Below w.heap.size w w' :=
  c_does _ _ _ _ _ _ _ w fun W hW => by
    obtain ⟨hb, g⟩ := h.below hW
    exact d_add03 W b c _ _ _ _ _ _ hb (g 0 (by decide)) (.missing _ (by decide) (by decide)) (g 1 (by decide)) (.text _ ⟨by decide, by decide⟩)
theorem e_not (w : World) :
    Calls Tryz.prog 29 #[.int .i64 4, V 0 0 0 noS, .int .i64 2, .slice none 0 0] w fun e w' => e = .returned (.bool true) ∧ Below w.heap.size w w' :=
  c_does _ _ _ _ _ _ _ w fun W _ => d_bad W
end Go.Proofs.YthppcklegdnjdaaGreatDoor

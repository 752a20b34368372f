/- The examples of operations: what does returns, for whatever Do returns. -/
import Derived.Test.YtnfncdalneifnaaGreatDoorZVal
import Derived.Test.YtnfncdalneifnaaGreatDoorZDo
import Derived.Test.YtnfncdalneifnaaGreatDoorZIf
import Derived.Test.YtnfncdalneifnaaGreatDoorZNum
import Derived.Test.YtnfncdalneifnaaGreatDoorZRead
import Derived.Test.YtnfncdalneifnaaGreatDoorZTyp
import Derived.Test.YtnfncdalneifnaaGreatDoorZOrd

/- The examples of operations: what does returns, for whatever Do returns. -/
section
namespace Go.Proofs.YtnfncdalneifnaaGreatDoor
open Go.RowKit Go.Deep

theorem m_num (n d : Int) (w : World) :
    Calls Tryz.prog 17 #[.int .i64 n, .int .i64 d] w fun e w' => e = .returned (V 2 n d noS) ∧ Below w.heap.size w w' := by
  go_enter Tryz.func17, Tryz.ntmps17
  go_wp2
  exact bodyPost_ret (v := V 2 n d noS) (by simp [results, Tryz.results17, go_sem]) rfl ⟨rfl, (Below.refl _ _).alloc (Nat.le_refl _) _⟩
theorem m_text (s : ByteArray) (w : World) :
    Calls Tryz.prog 18 #[.string s] w fun e w' => e = .returned (V 3 0 0 s) ∧ Below w.heap.size w w' := by
  go_enter Tryz.func18, Tryz.ntmps18
  go_wp2
  exact bodyPost_ret (v := V 3 0 0 s) (by simp [results, Tryz.results18, go_sem]) rfl ⟨rfl, (Below.refl _ _).alloc (Nat.le_refl _) _⟩
theorem m_none (n : Int) (w : World) :
    Calls Tryz.prog 15 #[.int .i64 n] w fun e w' => e = .returned (V 0 n 0 noS) ∧ Below w.heap.size w w' := by
  go_enter Tryz.func15, Tryz.ntmps15
  go_wp2
  exact bodyPost_ret (v := V 0 n 0 noS) (by simp [results, Tryz.results15, go_sem]) rfl ⟨rfl, (Below.refl _ _).alloc (Nat.le_refl _) _⟩
theorem m_truth (n : Int) (w : World) :
    Calls Tryz.prog 16 #[.int .i64 n] w fun e w' => e = .returned (V 1 n 0 noS) ∧ Below w.heap.size w w' := by
  go_enter Tryz.func16, Tryz.ntmps16
  go_wp2
  exact bodyPost_ret (v := V 1 n 0 noS) (by simp [results, Tryz.results16, go_sem]) rfl ⟨rfl, (Below.refl _ _).alloc (Nat.le_refl _) _⟩

set_option maxHeartbeats 1000000 in
theorem c_does (op k n d : Int) (s : ByteArray) (er : Int) (sl : Value) (w : World)
    (HD : ∀ W, Below w.heap.size w W → Calls Tryz.prog 5 #[.int .i64 op, sl] W fun e w' => e = .returned (.tuple #[V k n d s, .int .i64 er]) ∧ Below W.heap.size W w') :
    Calls Tryz.prog 19 #[.int .i64 op, V k n d s, .int .i64 er, sl] w fun e w' => e = .returned (.bool true) ∧ Below w.heap.size w w' := by
  have H := Lib.hid HD
  obtain ⟨W, b, hW, hb, hlt, hbel, K⟩ := box_facts w k n d s
  have HW := Lib.hid hW
  have HB := Lib.hid hb
  clear HD hW hb
  go_enter Tryz.func19, Tryz.ntmps19
  go_wp2_with fail
  rw [HW.out]
  refine (H.out _ hbel).mono ?_
  rintro e w1 ⟨rfl, hb1⟩
  have B1 : Hid (Below w.heap.size w w1) := btr hbel hb1
  obtain ⟨W2, b2, hW2, hbb2, hlt2, hbel2, K2⟩ := box_facts w1 k n d s
  obtain ⟨k0, k1, k2, k3⟩ := K.out _ (btr hb1 hbel2)
  obtain ⟨j0, j1, j2, j3⟩ := K2.out _ (Below.refl _ _)
  rw [← HB.out] at k0 k1 k2 k3
  rw [← hbb2] at j0 j1 j2 j3
  have B2 : Hid (Below w.heap.size w W2) := btr B1.out hbel2
  subst hW2
  clear hbb2 H hb1 hbel2 hbel K K2 HB
  go_wp2_with fail
  go_ret
  exact ⟨rfl, B2.out⟩

def At (w : World) (b : Nat) (l : List (Int × Int × Int × ByteArray)) : Prop := b < w.heap.size ∧ ∀ j (h : j < l.length), ValIn w b (4 * j) l[j].1 l[j].2.1 l[j].2.2.1 l[j].2.2.2
theorem At.below {w W : World} {b : Nat} {l : List (Int × Int × Int × ByteArray)} (h : At w b l) (hW : Below w.heap.size w W) : At W b l :=
  ⟨Nat.lt_of_lt_of_le h.1 hW.size, fun j hj => (h.2 j hj).below hW h.1⟩

theorem e_add (w : World) (b c : Nat) (h : At w b [(2, 1099511627776, 1, noS), (2, 1, 1, noS)]) :
    Calls Tryz.prog 19 #[.int .i64 9, V 0 2 0 noS, .int .i64 0, .slice (some ⟨b, 0, none⟩) 2 c] w fun e w' => e = .returned (.bool true) ∧ Below w.heap.size w w' :=
  c_does _ _ _ _ _ _ _ w fun W hW => by
    obtain ⟨hb, g⟩ := h.below hW
    exact d_op9 W b c _ _ _ _ _ _ _ _ _ _ hb (g 0 (by decide)) (.num _ _ (low1 _ (by decide) (by decide))) (g 1 (by decide)) (.num _ _ (low1 _ (by decide) (by decide)))
      (fun W' hb' a0 a1 => s_nn W' b c _ _ _ _ _ _ _ _ _ hb' a0 a1) (fun W' hb' a0 a1 => r_add W' b c hb' a0 a1)
theorem e_div (w : World) (b c : Nat) (h : At w b [(2, 1, 1, noS), (2, 0, 1, noS)]) :
    Calls Tryz.prog 19 #[.int .i64 12, V 0 3 0 noS, .int .i64 0, .slice (some ⟨b, 0, none⟩) 2 c] w fun e w' => e = .returned (.bool true) ∧ Below w.heap.size w w' :=
  c_does _ _ _ _ _ _ _ w fun W hW => by
    obtain ⟨hb, g⟩ := h.below hW
    exact d_op12 W b c _ _ _ _ _ _ _ _ _ _ hb (g 0 (by decide)) (.num _ _ (low1 _ (by decide) (by decide))) (g 1 (by decide)) (.num _ _ (low1 _ (by decide) (by decide)))
      (fun W' hb' a0 a1 => s_nn W' b c _ _ _ _ _ _ _ _ _ hb' a0 a1) (fun W' hb' a0 a1 => r_div W' b c hb' a0 a1)
theorem e_and (w : World) (b c : Nat) (h : At w b [(0, 7, 0, noS), (1, 0, 0, noS)]) :
    Calls Tryz.prog 19 #[.int .i64 19, V 1 0 0 noS, .int .i64 0, .slice (some ⟨b, 0, none⟩) 2 c] w fun e w' => e = .returned (.bool true) ∧ Below w.heap.size w w' :=
  c_does _ _ _ _ _ _ _ w fun W hW => by
    obtain ⟨hb, g⟩ := h.below hW
    exact d_op19 W b c _ _ _ _ _ _ _ _ _ _ _ _ hb (g 0 (by decide)) (.missing _ (by decide) (by decide)) (g 1 (by decide)) (.truth false)
      (fun W' hb' a0 a1 => s_bb_01 W' b c _ _ _ _ _ _ _ _ _ hb' a0 a1)
      (fun W' hb' a0 a1 => x_and W' b c _ _ _ _ fun W'' hW'' => x_dec_mF W'' b c _ (Nat.lt_of_lt_of_le hb' hW''.size) (a0.below hW'' hb') (a1.below hW'' hb'))
theorem e_else (w : World) (b c : Nat) (h : At w b [(0, 7, 0, noS), (0, 9, 0, noS)]) :
    Calls Tryz.prog 19 #[.int .i64 21, V 0 9 0 noS, .int .i64 0, .slice (some ⟨b, 0, none⟩) 2 c] w fun e w' => e = .returned (.bool true) ∧ Below w.heap.size w w' :=
  c_does _ _ _ _ _ _ _ w fun W hW => by
    obtain ⟨hb, g⟩ := h.below hW
    exact d_op21 W b c _ _ _ _ _ _ _ _ _ _ _ _ hb (g 0 (by decide)) (.missing _ (by decide) (by decide)) (g 1 (by decide)) (.missing _ (by decide) (by decide))
      (fun W' hb' a0 a1 => s_aa_00 W' b c _ _ _ _ _ _ _ _ _ hb' a0 a1) (fun W' hb' a0 a1 => x_else W' b c _ _ hb' a0 a1)
theorem e_if (w : World) (b c : Nat) (h : At w b [(1, 1, 0, noS), (2, 1, 1, noS), (0, 5, 0, noS)]) :
    Calls Tryz.prog 19 #[.int .i64 22, V 2 1 1 noS, .int .i64 0, .slice (some ⟨b, 0, none⟩) 3 c] w fun e w' => e = .returned (.bool true) ∧ Below w.heap.size w w' :=
  c_does _ _ _ _ _ _ _ w fun W hW => by
    obtain ⟨hb, g⟩ := h.below hW
    exact d_op22 W b c _ _ _ _ _ _ _ _ _ _ _ _ _ _ _ _ hb (g 0 (by decide)) (.truth true) (g 1 (by decide)) (.num _ _ (low1 _ (by decide) (by decide))) (g 2 (by decide)) (.missing _ (by decide) (by decide))
      (fun W' hb' a0 a1 a2 => s_if_120 W' b c _ _ _ _ _ _ _ _ _ _ _ _ hb' a0 a1 a2) (fun W' hb' a0 a1 a2 => r_if W' b c hb' a0 a1 a2)
theorem e_bad (w : World) (b c : Nat) (h : At w b [(0, 7, 0, noS), (3, 0, 0, ⟨#[97]⟩)]) :
    Calls Tryz.prog 19 #[.int .i64 9, V 0 0 0 noS, .int .i64 12, .slice (some ⟨b, 0, none⟩) 2 c] w fun e w' => e = .returned (.bool true) ∧ Below w.heap.size w w' :=
  c_does _ _ _ _ _ _ _ w fun W hW => by
    obtain ⟨hb, g⟩ := h.below hW
    exact d_add03 W b c _ _ _ _ _ _ hb (g 0 (by decide)) (.missing _ (by decide) (by decide)) (g 1 (by decide)) (.text _ ⟨by decide, by decide⟩)
theorem e_not (w : World) :
    Calls Tryz.prog 19 #[.int .i64 4, V 0 0 0 noS, .int .i64 2, .slice none 0 0] w fun e w' => e = .returned (.bool true) ∧ Below w.heap.size w w' :=
  c_does _ _ _ _ _ _ _ w fun W _ => d_bad W
end Go.Proofs.YtnfncdalneifnaaGreatDoor
end

/- The numbers of the chapter's examples. -/
section
namespace Go.Proofs.YtnfncdalneifnaaGreatDoor
open Go.RowKit Go.Deep

theorem of_64 (w : World) : Calls Tryz.prog 7 #[.int .i64 6, .int .i64 (-4)] w fun e w' => ∃ u, e = .returned (.tuple #[u, .int .i64 0]) ∧ RatAt w' u true 3 2 ∧ Below w.heap.size w w' :=
  c_Of w 6 (-4) (by omega) (by omega) (by omega) (by omega) (by omega)
theorem of_07 (w : World) : Calls Tryz.prog 7 #[.int .i64 0, .int .i64 (-7)] w fun e w' => ∃ u, e = .returned (.tuple #[u, .int .i64 0]) ∧ RatAt w' u false 0 1 ∧ Below w.heap.size w w' :=
  c_Of w 0 (-7) (by omega) (by omega) (by omega) (by omega) (by omega)
theorem of_10 (x : Int) (w : World) : Calls Tryz.prog 7 #[.int .i64 x, .int .i64 0] w fun e w' => e = .returned (.tuple #[.pointer none, .int .i64 2]) ∧ w = w' := by
  go_enter Tryz.func7, Tryz.ntmps7
  go_wp2
  go_ret2
  exact ⟨rfl, rfl⟩
theorem tx_m32 (w : World) (v : Value) (h : RatAt w v true 3 2) : Calls Tryz.prog 8 #[v] w fun e w' => e = .returned (.string ⟨#[45, 51, 47, 50]⟩) ∧ Below w.heap.size w w' := by
  have e : (ratText true 3 2).toArray = #[45, 51, 47, 50] := by kernel_rfl
  rw [← e]; exact c_Text w v true 3 2 h (by omega) (by omega)
theorem tx_0 (w : World) (v : Value) (h : RatAt w v false 0 1) : Calls Tryz.prog 8 #[v] w fun e w' => e = .returned (.string ⟨#[48]⟩) ∧ Below w.heap.size w w' := by
  have e : (ratText false 0 1).toArray = #[48] := by kernel_rfl
  rw [← e]; exact c_Text w v false 0 1 h (by omega) (by omega)
theorem tx_m2 (w : World) (v : Value) (h : RatAt w v true 2 1) : Calls Tryz.prog 8 #[v] w fun e w' => e = .returned (.string ⟨#[45, 50]⟩) ∧ Below w.heap.size w w' := by
  have e : (ratText true 2 1).toArray = #[45, 50] := by kernel_rfl
  rw [← e]; exact c_Text w v true 2 1 h (by omega) (by omega)
theorem tx_m3 (w : World) (v : Value) (h : RatAt w v true 3 1) : Calls Tryz.prog 8 #[v] w fun e w' => e = .returned (.string ⟨#[45, 51]⟩) ∧ Below w.heap.size w w' := by
  have e : (ratText true 3 1).toArray = #[45, 51] := by kernel_rfl
  rw [← e]; exact c_Text w v true 3 1 h (by omega) (by omega)
theorem fl_m32 (w : World) (v : Value) (h : RatAt w v true 3 2) : Calls Tryz.prog 9 #[v] w (RatRet w true 2 1) := by
  have e : floorN true 3 2 = 2 := by decide
  have g := c_Floor w v true 3 2 h (by omega) (nw_small _ (by decide)) (divs_small 3 2 (by decide) (by decide) (by omega))
  rw [e] at g
  exact g
theorem bits_m32 (w : World) (v : Value) (h : RatAt w v true 3 2) : Calls Tryz.prog 11 #[v] w fun e w' => e = .returned (.tuple #[.int .i64 2, .int .i64 2]) ∧ ∃ k, w' = w.drewN k := by
  have e1 : (lenN 3 : Int) = 2 := by decide
  have e2 : (lenN 2 : Int) = 2 := by decide
  have g := c_Bits_small w v true 3 2 h (by decide) (by decide)
  rw [e1, e2] at g
  exact g
theorem bits_0 (w : World) (v : Value) (h : RatAt w v false 0 1) : Calls Tryz.prog 11 #[v] w fun e w' => e = .returned (.tuple #[.int .i64 0, .int .i64 1]) ∧ ∃ k, w' = w.drewN k := by
  have e1 : (lenN 0 : Int) = 0 := by decide
  have e2 : (lenN 1 : Int) = 1 := by decide
  have g := c_Bits_small w v false 0 1 h (by decide) (by decide)
  rw [e1, e2] at g
  exact g
theorem or_1 (w : World) : Calls Tryz.prog 14 #[V 0 9 0 noS, V 1 0 0 noS] w fun e w' => e = .returned (.int .i64 (-1)) ∧ Below w.heap.size w w' :=
  o_kinds w 0 9 0 noS 1 0 0 noS (.missing _ (by omega) (by omega)) (.truth false) (by omega)
theorem sg_m32 (w : World) (v : Value) (h : RatAt w v true 3 2) : Calls Tryz.prog 12 #[v] w fun e w' => e = .returned (.int .i64 (-1)) ∧ w = w' := by
  have e : signN true 3 = -1 := by decide
  have g := c_Sign w v true 3 2 h
  rw [e] at g
  exact g
theorem wh_m32 (w : World) (v : Value) (h : RatAt w v true 3 2) : Calls Tryz.prog 13 #[v] w fun e w' => e = .returned (.bool false) ∧ w = w' := c_Whole w v true 3 2 h
theorem wh_0 (w : World) (v : Value) (h : RatAt w v false 0 1) : Calls Tryz.prog 13 #[v] w fun e w' => e = .returned (.bool true) ∧ w = w' := c_Whole w v false 0 1 h
theorem at_alloc2 (w : World) (k0 n0 d0 : Int) (s0 : ByteArray) (k1 n1 d1 : Int) (s1 : ByteArray) : At (w.alloc (.cells #[.int .i64 k0, .int .i64 n0, .int .i64 d0, .string s0, .int .i64 k1, .int .i64 n1, .int .i64 d1, .string s1] 25)) w.heap.size [(k0, n0, d0, s0), (k1, n1, d1, s1)] := by
  refine ⟨by simp, ?_⟩
  have h := heap_alloc_new w (.cells #[.int .i64 k0, .int .i64 n0, .int .i64 d0, .string s0, .int .i64 k1, .int .i64 n1, .int .i64 d1, .string s1] 25)
  intro j hj
  have hj' : j < 2 := hj
  match j, hj' with
  | 0, _ => exact ⟨by rw [cell_of_row _ _ _ _ _ _ h]; rfl, by rw [cell_of_row _ _ _ _ _ _ h]; rfl, by rw [cell_of_row _ _ _ _ _ _ h]; rfl, by rw [cell_of_row _ _ _ _ _ _ h]; rfl⟩
  | 1, _ => exact ⟨by rw [cell_of_row _ _ _ _ _ _ h]; rfl, by rw [cell_of_row _ _ _ _ _ _ h]; rfl, by rw [cell_of_row _ _ _ _ _ _ h]; rfl, by rw [cell_of_row _ _ _ _ _ _ h]; rfl⟩
theorem at_alloc3 (w : World) (k0 n0 d0 : Int) (s0 : ByteArray) (k1 n1 d1 : Int) (s1 : ByteArray) (k2 n2 d2 : Int) (s2 : ByteArray) : At (w.alloc (.cells #[.int .i64 k0, .int .i64 n0, .int .i64 d0, .string s0, .int .i64 k1, .int .i64 n1, .int .i64 d1, .string s1, .int .i64 k2, .int .i64 n2, .int .i64 d2, .string s2] 25)) w.heap.size [(k0, n0, d0, s0), (k1, n1, d1, s1), (k2, n2, d2, s2)] := by
  refine ⟨by simp, ?_⟩
  have h := heap_alloc_new w (.cells #[.int .i64 k0, .int .i64 n0, .int .i64 d0, .string s0, .int .i64 k1, .int .i64 n1, .int .i64 d1, .string s1, .int .i64 k2, .int .i64 n2, .int .i64 d2, .string s2] 25)
  intro j hj
  have hj' : j < 3 := hj
  match j, hj' with
  | 0, _ => exact ⟨by rw [cell_of_row _ _ _ _ _ _ h]; rfl, by rw [cell_of_row _ _ _ _ _ _ h]; rfl, by rw [cell_of_row _ _ _ _ _ _ h]; rfl, by rw [cell_of_row _ _ _ _ _ _ h]; rfl⟩
  | 1, _ => exact ⟨by rw [cell_of_row _ _ _ _ _ _ h]; rfl, by rw [cell_of_row _ _ _ _ _ _ h]; rfl, by rw [cell_of_row _ _ _ _ _ _ h]; rfl, by rw [cell_of_row _ _ _ _ _ _ h]; rfl⟩
  | 2, _ => exact ⟨by rw [cell_of_row _ _ _ _ _ _ h]; rfl, by rw [cell_of_row _ _ _ _ _ _ h]; rfl, by rw [cell_of_row _ _ _ _ _ _ h]; rfl, by rw [cell_of_row _ _ _ _ _ _ h]; rfl⟩
theorem ea_add (w : World) : Calls Tryz.prog 19 #[.int .i64 9, V 0 2 0 noS, .int .i64 0, .slice (some ⟨w.heap.size, 0, none⟩) 2 2] (w.alloc (.cells #[.int .i64 2, .int .i64 1099511627776, .int .i64 1, .string noS, .int .i64 2, .int .i64 1, .int .i64 1, .string noS] 25)) fun e w' => e = .returned (.bool true) ∧ Below w.heap.size w w' :=
  (e_add _ _ 2 (at_alloc2 w _ _ _ _ _ _ _ _)).mono fun _ _ h => ⟨h.1, btr ((Below.refl _ _).alloc (Nat.le_refl _) _) h.2⟩
theorem ea_div (w : World) : Calls Tryz.prog 19 #[.int .i64 12, V 0 3 0 noS, .int .i64 0, .slice (some ⟨w.heap.size, 0, none⟩) 2 2] (w.alloc (.cells #[.int .i64 2, .int .i64 1, .int .i64 1, .string noS, .int .i64 2, .int .i64 0, .int .i64 1, .string noS] 25)) fun e w' => e = .returned (.bool true) ∧ Below w.heap.size w w' :=
  (e_div _ _ 2 (at_alloc2 w _ _ _ _ _ _ _ _)).mono fun _ _ h => ⟨h.1, btr ((Below.refl _ _).alloc (Nat.le_refl _) _) h.2⟩
theorem ea_and (w : World) : Calls Tryz.prog 19 #[.int .i64 19, V 1 0 0 noS, .int .i64 0, .slice (some ⟨w.heap.size, 0, none⟩) 2 2] (w.alloc (.cells #[.int .i64 0, .int .i64 7, .int .i64 0, .string noS, .int .i64 1, .int .i64 0, .int .i64 0, .string noS] 25)) fun e w' => e = .returned (.bool true) ∧ Below w.heap.size w w' :=
  (e_and _ _ 2 (at_alloc2 w _ _ _ _ _ _ _ _)).mono fun _ _ h => ⟨h.1, btr ((Below.refl _ _).alloc (Nat.le_refl _) _) h.2⟩
theorem ea_else (w : World) : Calls Tryz.prog 19 #[.int .i64 21, V 0 9 0 noS, .int .i64 0, .slice (some ⟨w.heap.size, 0, none⟩) 2 2] (w.alloc (.cells #[.int .i64 0, .int .i64 7, .int .i64 0, .string noS, .int .i64 0, .int .i64 9, .int .i64 0, .string noS] 25)) fun e w' => e = .returned (.bool true) ∧ Below w.heap.size w w' :=
  (e_else _ _ 2 (at_alloc2 w _ _ _ _ _ _ _ _)).mono fun _ _ h => ⟨h.1, btr ((Below.refl _ _).alloc (Nat.le_refl _) _) h.2⟩
theorem ea_if (w : World) : Calls Tryz.prog 19 #[.int .i64 22, V 2 1 1 noS, .int .i64 0, .slice (some ⟨w.heap.size, 0, none⟩) 3 3] (w.alloc (.cells #[.int .i64 1, .int .i64 1, .int .i64 0, .string noS, .int .i64 2, .int .i64 1, .int .i64 1, .string noS, .int .i64 0, .int .i64 5, .int .i64 0, .string noS] 25)) fun e w' => e = .returned (.bool true) ∧ Below w.heap.size w w' :=
  (e_if _ _ 3 (at_alloc3 w _ _ _ _ _ _ _ _ _ _ _ _)).mono fun _ _ h => ⟨h.1, btr ((Below.refl _ _).alloc (Nat.le_refl _) _) h.2⟩
theorem ea_bad (w : World) : Calls Tryz.prog 19 #[.int .i64 9, V 0 0 0 noS, .int .i64 12, .slice (some ⟨w.heap.size, 0, none⟩) 2 2] (w.alloc (.cells #[.int .i64 0, .int .i64 7, .int .i64 0, .string noS, .int .i64 3, .int .i64 0, .int .i64 0, .string ⟨#[97]⟩] 25)) fun e w' => e = .returned (.bool true) ∧ Below w.heap.size w w' :=
  (e_bad _ _ 2 (at_alloc2 w _ _ _ _ _ _ _ _)).mono fun _ _ h => ⟨h.1, btr ((Below.refl _ _).alloc (Nat.le_refl _) _) h.2⟩
theorem ea_type (w : World) : Calls Tryz.prog 20 #[.int .i64 9, .slice (some ⟨w.heap.size, 0, none⟩) 2 2] (w.alloc (.cells #[.int .i64 2, .int .i64 3] 3)) fun e w' => e = .returned (.tuple #[.int .i64 3, .int .i64 0]) ∧ Below w.heap.size w w' := by
  have h := heap_alloc_new w (.cells #[.int .i64 2, .int .i64 3] 3)
  exact (t_add _ w.heap.size 2 (by simp) (by rw [cell_of_row _ _ _ _ _ _ h]; rfl) (by rw [cell_of_row _ _ _ _ _ _ h]; rfl)).mono fun _ _ h => ⟨h.1, btr ((Below.refl _ _).alloc (Nat.le_refl _) _) h.2⟩
end Go.Proofs.YtnfncdalneifnaaGreatDoor
end

/- The chapter's examples. -/
section
namespace Go.Proofs.YtnfncdalneifnaaGreatDoor
open Go.RowKit Go.Deep

set_option maxRecDepth 100000 in
set_option maxHeartbeats 4000000 in
theorem c_works (w : World) (m : Int) (hm : w.cell? ⟨3, 0, none⟩ = some (.int .i64 m)) :
    Calls Tryz.prog 4 #[] w fun e w' => e = .returned (.bool true) ∧ Below w.heap.size w w' := by
  have h0 : 3 < w.heap.size := by
    by_cases h : 3 < w.heap.size
    · exact h
    · exfalso
      have : w.heap[3]? = none := Array.getElem?_eq_none (by omega)
      simp [World.cell?, this] at hm
  have HM : Hid (∀ W', Below w.heap.size w W' → W'.cell? ⟨3, 0, none⟩ = some (.int .i64 m)) := fun W' hw => (hw.cell (p := ⟨3, 0, none⟩) h0).trans hm
  clear hm h0
  have B0 := Lib.hid (Below.refl w.heap.size w)
  go_enter Tryz.func4, Tryz.ntmps4
  go_wp2_with fail
  refine (of_64 _).mono ?_
  rintro e w1 ⟨x, rfl, hx, hb1⟩
  have B1 := Lib.hid (btr B0.out hb1)
  have HX1 := Lib.hid hx
  clear hx hb1 B0
  go_wp2_with fail
  refine (of_07 _).mono ?_
  rintro e w2 ⟨z, rfl, hz, hb2⟩
  have B2 := Lib.hid (btr B1.out hb2)
  have HX2 := Lib.hid (HX1.out.below hb2)
  have HZ2 := Lib.hid hz
  clear hz hb2 B1 HX1
  go_wp2_with fail
  refine (of_10 _ _).mono ?_
  rintro e w3 ⟨rfl, rfl⟩
  go_wp2_with fail
  refine (tx_m32 _ _ HX2.out).mono ?_
  rintro e w3 ⟨rfl, hb⟩
  have B3 := Lib.hid (btr B2.out hb)
  have HX3 := Lib.hid (HX2.out.below hb)
  have HZ3 := Lib.hid (HZ2.out.below hb)
  clear hb B2 HX2 HZ2
  go_wp2_with fail
  refine (tx_0 _ _ HZ3.out).mono ?_
  rintro e w4 ⟨rfl, hb⟩
  have B4 := Lib.hid (btr B3.out hb)
  have HX4 := Lib.hid (HX3.out.below hb)
  have HZ4 := Lib.hid (HZ3.out.below hb)
  clear hb B3 HX3 HZ3
  go_wp2_with fail
  refine (fl_m32 _ _ HX4.out).mono ?_
  rintro e w5 ⟨fl, rfl, hfl, hb⟩
  have B5 := Lib.hid (btr B4.out hb)
  have HX5 := Lib.hid (HX4.out.below hb)
  have HZ5 := Lib.hid (HZ4.out.below hb)
  have Hfl := Lib.hid hfl
  clear hb hfl B4 HX4 HZ4
  go_wp2_with fail
  refine (tx_m2 _ _ Hfl.out).mono ?_
  rintro e w6 ⟨rfl, hb⟩
  have B6 := Lib.hid (btr B5.out hb)
  have HX6 := Lib.hid (HX5.out.below hb)
  have HZ6 := Lib.hid (HZ5.out.below hb)
  clear hb B5 HX5 HZ5
  go_wp2_with fail
  refine (add_three _ _ HX6.out).mono ?_
  rintro e w7 ⟨su, rfl, hsu, hb⟩
  have B7 := Lib.hid (btr B6.out hb)
  have HX7 := Lib.hid (HX6.out.below hb)
  have HZ7 := Lib.hid (HZ6.out.below hb)
  have Hsu := Lib.hid hsu
  clear hb hsu B6 HX6 HZ6
  go_wp2_with fail
  refine (tx_m3 _ _ Hsu.out).mono ?_
  rintro e w8 ⟨rfl, hb⟩
  have B8 := Lib.hid (btr B7.out hb)
  have HX8 := Lib.hid (HX7.out.below hb)
  have HZ8 := Lib.hid (HZ7.out.below hb)
  clear hb B7 HX7 HZ7
  clear Hfl Hsu
  go_wp2_with fail
  refine (bits_m32 _ _ HX8.out).mono ?_
  rintro e w' ⟨rfl, k, rfl⟩
  have B9 := Lib.hid (Below.drewN_ B8.out k)
  have HX9 := Lib.hid (HX8.out.drewN k)
  have HZ9 := Lib.hid (HZ8.out.drewN k)
  generalize w8.drewN k = w9 at *
  clear B8 HX8 HZ8
  go_wp2_with fail
  refine (bits_0 _ _ HZ9.out).mono ?_
  rintro e w' ⟨rfl, k, rfl⟩
  have B10 := Lib.hid (Below.drewN_ B9.out k)
  have HX10 := Lib.hid (HX9.out.drewN k)
  have HZ10 := Lib.hid (HZ9.out.drewN k)
  generalize w9.drewN k = w10 at *
  clear B9 HX9 HZ9
  go_wp2_with fail
  refine (sg_m32 _ _ HX10.out).mono ?_
  rintro e w' ⟨rfl, rfl⟩
  go_wp2_with fail
  refine (wh_m32 _ _ HX10.out).mono ?_
  rintro e w' ⟨rfl, rfl⟩
  go_wp2_with fail
  refine (wh_0 _ _ HZ10.out).mono ?_
  rintro e w' ⟨rfl, rfl⟩
  clear HX10 HZ10
  go_wp2_with fail
  refine (m_none _ _).mono ?_
  rintro e w11 ⟨rfl, hb⟩
  have B11 := Lib.hid (btr B10.out hb)
  clear hb B10
  go_wp2_with fail
  refine (m_truth _ _).mono ?_
  rintro e w12 ⟨rfl, hb⟩
  have B12 := Lib.hid (btr B11.out hb)
  clear hb B11
  go_wp2_with fail
  refine (or_1 _).mono ?_
  rintro e w13 ⟨rfl, hb⟩
  have B13 := Lib.hid (btr B12.out hb)
  clear hb B12
  go_wp2_with fail
  refine (m_num _ _ _).mono ?_
  rintro e w14 ⟨rfl, hb⟩
  have B14 := Lib.hid (btr B13.out hb)
  clear hb B13
  go_wp2_with fail
  refine (m_num _ _ _).mono ?_
  rintro e w15 ⟨rfl, hb⟩
  have B15 := Lib.hid (btr B14.out hb)
  clear hb B14
  go_wp2_with fail
  refine (o_num _).mono ?_
  rintro e w16 ⟨rfl, hb⟩
  have B16 := Lib.hid (btr B15.out hb)
  clear hb B15
  go_wp2_with fail
  refine (m_text _ _).mono ?_
  rintro e w17 ⟨rfl, hb⟩
  have B17 := Lib.hid (btr B16.out hb)
  clear hb B16
  go_wp2_with fail
  refine (m_text _ _).mono ?_
  rintro e w18 ⟨rfl, hb⟩
  have B18 := Lib.hid (btr B17.out hb)
  clear hb B17
  go_wp2_with fail
  refine (o_text _).mono ?_
  rintro e w19 ⟨rfl, hb⟩
  have B19 := Lib.hid (btr B18.out hb)
  clear hb B18
  go_wp2_with fail
  refine (m_none _ _).mono ?_
  rintro e w20 ⟨rfl, hb⟩
  have B20 := Lib.hid (btr B19.out hb)
  clear hb B19
  go_wp2_with fail
  refine (m_num _ _ _).mono ?_
  rintro e w21 ⟨rfl, hb⟩
  have B21 := Lib.hid (btr B20.out hb)
  clear hb B20
  go_wp2_with fail
  refine (m_num _ _ _).mono ?_
  rintro e w22 ⟨rfl, hb⟩
  have B22 := Lib.hid (btr B21.out hb)
  clear hb B21
  go_wp2_with fail
  refine (ea_add w22).mono ?_
  rintro e w23 ⟨rfl, hb⟩
  have B23 := Lib.hid (btr B22.out hb)
  clear hb B22
  go_wp2_with fail
  refine (m_none _ _).mono ?_
  rintro e w24 ⟨rfl, hb⟩
  have B24 := Lib.hid (btr B23.out hb)
  clear hb B23
  go_wp2_with fail
  refine (m_num _ _ _).mono ?_
  rintro e w25 ⟨rfl, hb⟩
  have B25 := Lib.hid (btr B24.out hb)
  clear hb B24
  go_wp2_with fail
  refine (m_num _ _ _).mono ?_
  rintro e w26 ⟨rfl, hb⟩
  have B26 := Lib.hid (btr B25.out hb)
  clear hb B25
  go_wp2_with fail
  refine (ea_div w26).mono ?_
  rintro e w27 ⟨rfl, hb⟩
  have B27 := Lib.hid (btr B26.out hb)
  clear hb B26
  go_wp2_with fail
  refine (m_truth _ _).mono ?_
  rintro e w28 ⟨rfl, hb⟩
  have B28 := Lib.hid (btr B27.out hb)
  clear hb B27
  go_wp2_with fail
  refine (m_none _ _).mono ?_
  rintro e w29 ⟨rfl, hb⟩
  have B29 := Lib.hid (btr B28.out hb)
  clear hb B28
  go_wp2_with fail
  refine (m_truth _ _).mono ?_
  rintro e w30 ⟨rfl, hb⟩
  have B30 := Lib.hid (btr B29.out hb)
  clear hb B29
  go_wp2_with fail
  refine (ea_and w30).mono ?_
  rintro e w31 ⟨rfl, hb⟩
  have B31 := Lib.hid (btr B30.out hb)
  clear hb B30
  go_wp2_with fail
  refine (m_none _ _).mono ?_
  rintro e w32 ⟨rfl, hb⟩
  have B32 := Lib.hid (btr B31.out hb)
  clear hb B31
  go_wp2_with fail
  refine (m_none _ _).mono ?_
  rintro e w33 ⟨rfl, hb⟩
  have B33 := Lib.hid (btr B32.out hb)
  clear hb B32
  go_wp2_with fail
  refine (m_none _ _).mono ?_
  rintro e w34 ⟨rfl, hb⟩
  have B34 := Lib.hid (btr B33.out hb)
  clear hb B33
  go_wp2_with fail
  refine (ea_else w34).mono ?_
  rintro e w35 ⟨rfl, hb⟩
  have B35 := Lib.hid (btr B34.out hb)
  clear hb B34
  go_wp2_with fail
  refine (m_num _ _ _).mono ?_
  rintro e w36 ⟨rfl, hb⟩
  have B36 := Lib.hid (btr B35.out hb)
  clear hb B35
  go_wp2_with fail
  refine (m_truth _ _).mono ?_
  rintro e w37 ⟨rfl, hb⟩
  have B37 := Lib.hid (btr B36.out hb)
  clear hb B36
  go_wp2_with fail
  refine (m_num _ _ _).mono ?_
  rintro e w38 ⟨rfl, hb⟩
  have B38 := Lib.hid (btr B37.out hb)
  clear hb B37
  go_wp2_with fail
  refine (m_none _ _).mono ?_
  rintro e w39 ⟨rfl, hb⟩
  have B39 := Lib.hid (btr B38.out hb)
  clear hb B38
  go_wp2_with fail
  refine (ea_if w39).mono ?_
  rintro e w40 ⟨rfl, hb⟩
  have B40 := Lib.hid (btr B39.out hb)
  clear hb B39
  go_wp2_with fail
  refine (m_none _ _).mono ?_
  rintro e w41 ⟨rfl, hb⟩
  have B41 := Lib.hid (btr B40.out hb)
  clear hb B40
  go_wp2_with fail
  refine (m_text _ _).mono ?_
  rintro e w42 ⟨rfl, hb⟩
  have B42 := Lib.hid (btr B41.out hb)
  clear hb B41
  go_wp2_with fail
  refine (ea_bad w42).mono ?_
  rintro e w43 ⟨rfl, hb⟩
  have B43 := Lib.hid (btr B42.out hb)
  clear hb B42
  go_wp2_with fail
  refine (e_not _).mono ?_
  rintro e w44 ⟨rfl, hb⟩
  have B44 := Lib.hid (btr B43.out hb)
  clear hb B43
  go_wp2_with fail
  refine (ea_type w44).mono ?_
  rintro e w45 ⟨rfl, hb⟩
  have B45 := Lib.hid (btr B44.out hb)
  clear hb B44
  go_wp2_with fail
  refine (m_text _ _).mono ?_
  rintro e w46 ⟨rfl, hb⟩
  have B46 := Lib.hid (btr B45.out hb)
  clear hb B45
  go_wp2_with fail
  refine (p_its _ m (HM.out _ B46.out)).mono ?_
  rintro e w47 ⟨rfl, hb⟩
  have B47 := Lib.hid (btr B46.out hb)
  clear hb B46
  go_wp2_with fail
  refine (read_64 _ m (HM.out _ B47.out)).mono ?_
  rintro e w48 ⟨rfl, hb⟩
  have B48 := Lib.hid (btr B47.out hb)
  clear hb B47
  clear HM
  go_wp2
  go_ret
  exact ⟨rfl, B48.out.alloc (by have := B48.out.size; omega) _⟩
end Go.Proofs.YtnfncdalneifnaaGreatDoor
end

/- Truth values: not, and, or; a missing operand is passed on. -/
import Derived.Test.YtfkjfeobhbocjaaGreatDoorDecd
import Derived.Test.YtfkjfeobhbocjaaGreatDoorFind2
import Derived.Test.YtfkjfeobhbocjaaGreatDoorEx
import Derived.Shelf.Abstract
namespace Go.Proofs.YtfkjfeobhbocjaaGreatDoor
open Go.RowKit Go.Deep Go.Shelf

/-- A truth value, or a missing one with its reason. -/
inductive Tri
  | F
  | T
  | M (n : Int) (h : 2 ≤ n ∧ n ≤ 255)
def Tri.k : Tri → Int | .F => 1 | .T => 1 | .M _ _ => 0
def Tri.n : Tri → Int | .F => 0 | .T => 1 | .M n _ => n
def Tri.not : Tri → Tri | .F => .T | .T => .F | .M n h => .M n h
def Tri.and : Tri → Tri → Tri
  | .F, _ => .F
  | .T, y => y
  | .M _ _, .F => .F
  | .M n h, .T => .M n h
  | .M n h, .M _ _ => .M n h
def Tri.or : Tri → Tri → Tri
  | .T, _ => .T
  | .F, y => y
  | .M _ _, .T => .T
  | .M n h, .F => .M n h
  | .M n h, .M _ _ => .M n h
theorem Tri.good (x : Tri) : Good x.k x.n 0 noS := by
  cases x with
  | F => exact .truth false
  | T => exact .truth true
  | M n h => exact .missing n (by omega) (by omega)
theorem Tri.k01 (x : Tri) : x.k = 0 ∨ x.k = 1 := by cases x <;> simp [Tri.k]

set_option maxRecDepth 100000 in
set_option maxHeartbeats 2000000 in
theorem x_or (w : World) (b c : Nat) (k n d : Int) (s : ByteArray) (HD : ∀ W, Below w.heap.size w W → Calls Tryz.prog 118 #[.slice (some ⟨b, 0, none⟩) 2 c, .bool true] W fun e w' => e = .returned (V k n d s) ∧ Below W.heap.size W w') :
    Calls Tryz.prog 119 #[.slice (some ⟨b, 0, none⟩) 2 c] w fun e w' => e = .returned (V k n d s) ∧ Below w.heap.size w w' := by
  have HDh := Lib.hid HD
  have HR0 := Lib.hid (heap_alloc_new w (.cells #[.int .i64 0, .int .i64 0, .int .i64 0, .string ⟨#[]⟩] 46))
  clear HD
  go_enter Tryz.func119, Tryz.ntmps119
  go_wp2_with fail
  generalize HW : w.alloc (.cells #[.int .i64 0, .int .i64 0, .int .i64 0, .string ⟨#[]⟩] 46) = W0 at *
  have B0 : Below w.heap.size w W0 := by rw [← HW]; exact (Below.refl _ _).alloc (Nat.le_refl _) _
  have hz0 : w.heap.size < W0.heap.size := by rw [← HW]; simp
  clear HW
  refine (HDh.out _ B0).mono ?_
  rintro e w1 ⟨rfl, hb1⟩
  have hh1 := (hb1.block _ hz0).trans HR0.out
  obtain ⟨r0, r1, r2, r3, f0, f1, f2, f3⟩ := res_at hh1
  have HH1 := Lib.hid hh1
  clear hh1 HDh
  go_wp2
  exact bodyPost_ret (v := V k n d s) (results_cell_row Tryz.results119 _ _ w.heap.size 46 _ (0, 0) _ rfl (put4 HH1.out _ _ _ _) Tryz.underlying46 rfl (by rw [info_v4]; rfl)) rfl ⟨rfl, below4 (btr B0 hb1) _ (Nat.le_refl _) _ _ _ _⟩

set_option maxRecDepth 100000 in
set_option maxHeartbeats 2000000 in
theorem x_notB (w : World) (b c : Nat) (t : Bool) (hb : b < w.heap.size) (h : ValIn w b 0 1 (bit t) 0 noS) :
    Calls Tryz.prog 101 #[.slice (some ⟨b, 0, none⟩) 1 c] w fun e w' => e = .returned (V 1 (bit !t) 0 noS) ∧ Below w.heap.size w w' := by
  obtain ⟨a0, a1, a2, a3⟩ := h
  have HR0 := Lib.hid (heap_alloc_new w (.cells #[.int .i64 0, .int .i64 0, .int .i64 0, .string ⟨#[]⟩] 46))
  have HT := Lib.hid (fun W => c_truth (!t) W)
  cases t <;> simp only [bit, Bool.not_true, Bool.not_false, if_true, if_false, Bool.false_eq_true] at a1 HT ⊢
  all_goals
    go_enter Tryz.func101, Tryz.ntmps101
    go_wp2_with fail
    refine (HT.out _).mono ?_
    rintro e w1 ⟨rfl, hb1⟩
    have hh1 := (hb1.block _ (by simp)).trans HR0.out
    have B1 : Below w.heap.size w w1 := btr ((Below.refl _ _).alloc (Nat.le_refl _) _) hb1
    obtain ⟨r0, r1, r2, r3, f0, f1, f2, f3⟩ := res_at hh1
    have HH1 := Lib.hid hh1
    clear hh1 HT hb1
    go_wp2
    exact bodyPost_ret (results_cell_row Tryz.results101 _ _ w.heap.size 46 _ (0, 0) _ rfl (put4 HH1.out _ _ _ _) Tryz.underlying46 rfl (by rw [info_v4]; rfl)) rfl ⟨rfl, below4 B1 _ (Nat.le_refl _) _ _ _ _⟩

def sel (a b : Int) (k : Nat) : Int := if k = 0 then a else b
theorem vals2 {w : World} {b : Nat} {k0 n0 k1 n1 : Int} (h : At w b [(k0, n0, 0, noS), (k1, n1, 0, noS)]) : Vals w (some ⟨b, 0, none⟩) 2 (sel k0 k1) (sel n0 n1) (fun _ => 0) (fun _ => noS) := fun _ => by
  refine ⟨b, 0, rfl, h.1, fun k hk => ?_⟩
  match k, hk with
  | 0, _ => exact h.2 0 (by simp)
  | 1, _ => exact h.2 1 (by simp)
theorem vals1 {w : World} {b : Nat} {k0 n0 : Int} (h : At w b [(k0, n0, 0, noS)]) : Vals w (some ⟨b, 0, none⟩) 1 (fun _ => k0) (fun _ => n0) (fun _ => 0) (fun _ => noS) := fun _ => by
  refine ⟨b, 0, rfl, h.1, fun k hk => ?_⟩
  match k, hk with
  | 0, _ => exact h.2 0 (by simp)
theorem sf2 {k0 k1 : Int} (h0 : k0 = 0 ∨ k0 = 1) (h1 : k1 = 0 ∨ k1 = 1) : sFold (n3' 2 2 0) (sel k0 k1) 2 = some 0 := by
  rcases h0 with rfl | rfl <;> rcases h1 with rfl | rfl <;> rfl
theorem sf1 {k0 : Int} (h0 : k0 = 0 ∨ k0 = 1) : sFold (n3' 2 0 0) (fun _ => k0) 1 = some 0 := by
  rcases h0 with rfl | rfl <;> rfl

theorem do_and (x y : Tri) (w : World) (b c : Nat) (h : At w b [(x.k, x.n, 0, noS), (y.k, y.n, 0, noS)]) :
    Calls Tryz.prog 26 #[.int .i64 19, .slice (some ⟨b, 0, none⟩) 2 c] w fun e w' => e = .returned (.tuple #[V (x.and y).k (x.and y).n 0 noS, .int .i64 0]) ∧ Below w.heap.size w w' := by
  refine d_runG w 19 (some ⟨b, 0, none⟩) 2 c 2 2 2 0 1 true _ (sel x.k y.k) (sel x.n y.n) (fun _ => 0) (fun _ => noS) (by omega) (vals2 h) (fun W => f_op19 W) ?_ 0 (sf2 x.k01 y.k01) (.inl rfl) _ _ _ _ ?_ ?_
  · intro k hk W
    match k, hk with
    | 0, _ => exact c_validValue _ _ _ _ W x.good
    | 1, _ => exact c_validValue _ _ _ _ W y.good
  · exact fun args W => enters_of Tryz.func117 (by kernel_rfl) rfl args W
  · intro W hW
    obtain ⟨hb, g⟩ := h.below hW
    have g0 := g 0 (by simp)
    have g1 := g 1 (by simp)
    refine x_and W b c _ _ _ _ fun W2 hW2 => ?_
    have hb2 : b < W2.heap.size := Nat.lt_of_lt_of_le hb hW2.size
    have e0 := g0.below hW2 hb
    have e1 := g1.below hW2 hb
    cases x with
    | F => exact x_dec0_T W2 b c _ _ _ _ hb2 e0 e1
    | T => cases y with
      | F => exact x_dec0_OT W2 b c hb2 e0 e1
      | T => exact x_dec0_OO W2 b c hb2 e0 e1
      | M n h => exact x_dec0_OM W2 b c n hb2 e0 e1
    | M n h => cases y with
      | F => exact x_dec0_MT W2 b c n hb2 e0 e1
      | T => exact x_dec0_MO W2 b c n hb2 e0 e1
      | M m h' => exact x_dec0_MM W2 b c n m hb2 e0 e1

theorem do_or (x y : Tri) (w : World) (b c : Nat) (h : At w b [(x.k, x.n, 0, noS), (y.k, y.n, 0, noS)]) :
    Calls Tryz.prog 26 #[.int .i64 20, .slice (some ⟨b, 0, none⟩) 2 c] w fun e w' => e = .returned (.tuple #[V (x.or y).k (x.or y).n 0 noS, .int .i64 0]) ∧ Below w.heap.size w w' := by
  refine d_runG w 20 (some ⟨b, 0, none⟩) 2 c 2 2 2 0 1 true _ (sel x.k y.k) (sel x.n y.n) (fun _ => 0) (fun _ => noS) (by omega) (vals2 h) (fun W => f_op20 W) ?_ 0 (sf2 x.k01 y.k01) (.inl rfl) _ _ _ _ ?_ ?_
  · intro k hk W
    match k, hk with
    | 0, _ => exact c_validValue _ _ _ _ W x.good
    | 1, _ => exact c_validValue _ _ _ _ W y.good
  · exact fun args W => enters_of Tryz.func119 (by kernel_rfl) rfl args W
  · intro W hW
    obtain ⟨hb, g⟩ := h.below hW
    have g0 := g 0 (by simp)
    have g1 := g 1 (by simp)
    refine x_or W b c _ _ _ _ fun W2 hW2 => ?_
    have hb2 : b < W2.heap.size := Nat.lt_of_lt_of_le hb hW2.size
    have e0 := g0.below hW2 hb
    have e1 := g1.below hW2 hb
    cases x with
    | T => exact x_dec1_T W2 b c _ _ _ _ hb2 e0 e1
    | F => cases y with
      | T => exact x_dec1_OT W2 b c hb2 e0 e1
      | F => exact x_dec1_OO W2 b c hb2 e0 e1
      | M n h => exact x_dec1_OM W2 b c n hb2 e0 e1
    | M n h => cases y with
      | T => exact x_dec1_MT W2 b c n hb2 e0 e1
      | F => exact x_dec1_MO W2 b c n hb2 e0 e1
      | M m h' => exact x_dec1_MM W2 b c n m hb2 e0 e1

theorem do_not (x : Tri) (w : World) (b c : Nat) (h : At w b [(x.k, x.n, 0, noS)]) :
    Calls Tryz.prog 26 #[.int .i64 4, .slice (some ⟨b, 0, none⟩) 1 c] w fun e w' => e = .returned (.tuple #[V x.not.k x.not.n 0 noS, .int .i64 0]) ∧ Below w.heap.size w w' := by
  have hv : ∀ k, k < 1 → ∀ W, Calls Tryz.prog 55 #[V x.k x.n 0 noS] W fun e w' => e = .returned (.bool true) ∧ Below W.heap.size W w' := fun _ _ W => c_validValue _ _ _ _ W x.good
  have go : ∀ t : Bool, x.k = 1 → x.n = bit t → Calls Tryz.prog 26 #[.int .i64 4, .slice (some ⟨b, 0, none⟩) 1 c] w fun e w' => e = .returned (.tuple #[V 1 (bit !t) 0 noS, .int .i64 0]) ∧ Below w.heap.size w w' := fun t hk hn => by
    refine d_runG w 4 (some ⟨b, 0, none⟩) 1 c 1 2 0 0 1 false _ (fun _ => x.k) (fun _ => x.n) (fun _ => 0) (fun _ => noS) (by omega) (vals1 h) (fun W => f_op4 W) hv 0 (sf1 x.k01) (.inr fun _ _ => by rw [hk]; decide) _ _ _ _ (fun args W => enters_of Tryz.func101 (by kernel_rfl) rfl args W) ?_
    intro W hW
    obtain ⟨hb, g⟩ := h.below hW
    have g0 := g 0 (by simp)
    exact x_notB W b c t hb (by rw [← hn, ← hk]; exact g0)
  cases x with
  | F => exact go false rfl rfl
  | T => exact go true rfl rfl
  | M n h' => exact d_missG w 4 (some ⟨b, 0, none⟩) 1 c 1 2 0 0 1 _ (fun _ => 0) (fun _ => n) (fun _ => 0) (fun _ => noS) (by omega) (vals1 h) (fun W => f_op4 W) hv 0 (sf1 (.inl rfl)) 0 (by omega) (fun k hk => absurd hk (by omega)) rfl

/-- The law's own do: it takes the result where there is no error. -/
theorem c_ldo (op k n : Int) (sl : Value) (w : World) (HD : ∀ W, Below w.heap.size w W → Calls Tryz.prog 26 #[.int .i64 op, sl] W fun e w' => e = .returned (.tuple #[V k n 0 noS, .int .i64 0]) ∧ Below W.heap.size W w') :
    Calls Tryz.prog 25 #[.int .i64 op, sl] w fun e w' => e = .returned (V k n 0 noS) ∧ Below w.heap.size w w' := by
  have H := Lib.hid HD
  have HR0 := Lib.hid (heap_alloc_new w (.cells #[.int .i64 0, .int .i64 0, .int .i64 0, .string ⟨#[]⟩] 46))
  clear HD
  go_enter Tryz.func25, Tryz.ntmps25
  go_wp2_with fail
  generalize HW : w.alloc (.cells #[.int .i64 0, .int .i64 0, .int .i64 0, .string ⟨#[]⟩] 46) = W0 at *
  have B0 : Below w.heap.size w W0 := by rw [← HW]; exact (Below.refl _ _).alloc (Nat.le_refl _) _
  have hz0 : w.heap.size < W0.heap.size := by rw [← HW]; simp
  clear HW
  refine (H.out _ B0).mono ?_
  rintro e w1 ⟨rfl, hb1⟩
  have hh1 := (hb1.block _ hz0).trans HR0.out
  have hl1 : w.heap.size < w1.heap.size := (Array.getElem?_eq_some_iff.1 hh1).1
  have B1 : Below w.heap.size w w1 := btr B0 hb1
  obtain ⟨r0, r1, r2, r3, f0, f1, f2, f3⟩ := res_at hh1
  have HH1 := Lib.hid (put4 hh1 (.int .i64 k) (.int .i64 n) (.int .i64 0) (.string noS))
  have HB := Lib.hid (below4 B1 w.heap.size (Nat.le_refl _) (.int .i64 k) (.int .i64 n) (.int .i64 0) (.string noS))
  clear hh1 H hb1
  go_wp2
  have hl2 := (Array.getElem?_eq_some_iff.1 HH1.out).1
  exact bodyPost_ret (v := V k n 0 noS) (results_cell_row Tryz.results25 _ _ w.heap.size 46 _ (0, 0) _ rfl ((Below.heap_alloc _ _ _ hl2).trans HH1.out) Tryz.underlying46 rfl (by rw [info_v4]; rfl)) rfl ⟨rfl, HB.out.alloc (by omega) _⟩

theorem ld_and (x y : Tri) (w : World) (b c : Nat) (h : At w b [(x.k, x.n, 0, noS), (y.k, y.n, 0, noS)]) :
    Calls Tryz.prog 25 #[.int .i64 19, .slice (some ⟨b, 0, none⟩) 2 c] w fun e w' => e = .returned (V (x.and y).k (x.and y).n 0 noS) ∧ Below w.heap.size w w' :=
  c_ldo _ _ _ _ w fun W hW => do_and x y W b c (h.below hW)
theorem ld_or (x y : Tri) (w : World) (b c : Nat) (h : At w b [(x.k, x.n, 0, noS), (y.k, y.n, 0, noS)]) :
    Calls Tryz.prog 25 #[.int .i64 20, .slice (some ⟨b, 0, none⟩) 2 c] w fun e w' => e = .returned (V (x.or y).k (x.or y).n 0 noS) ∧ Below w.heap.size w w' :=
  c_ldo _ _ _ _ w fun W hW => do_or x y W b c (h.below hW)
theorem ld_not (x : Tri) (w : World) (b c : Nat) (h : At w b [(x.k, x.n, 0, noS)]) :
    Calls Tryz.prog 25 #[.int .i64 4, .slice (some ⟨b, 0, none⟩) 1 c] w fun e w' => e = .returned (V x.not.k x.not.n 0 noS) ∧ Below w.heap.size w w' :=
  c_ldo _ _ _ _ w fun W hW => do_not x W b c (h.below hW)
end Go.Proofs.YtfkjfeobhbocjaaGreatDoor

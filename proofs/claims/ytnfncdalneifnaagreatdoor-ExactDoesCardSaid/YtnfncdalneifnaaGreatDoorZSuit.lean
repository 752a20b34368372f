/- Whether values suit an operation; missing values. -/
import Derived.Test.YtnfncdalneifnaaGreatDoorZOrd
namespace Go.Proofs.YtnfncdalneifnaaGreatDoor
open Go.RowKit Go.Deep

set_option maxHeartbeats 1000000 in
theorem c_isMissing (k n d : Int) (s : ByteArray) (w : World) :
    Calls Tryz.prog 26 #[V k n d s] w fun e w' => e = .returned (.bool (k == 0)) ∧ Below w.heap.size w w' := by
  go_enter Tryz.func26, Tryz.ntmps26
  go_wp2
  go_ret
  exact ⟨rfl, (Below.refl _ _).alloc (Nat.le_refl _) _⟩
theorem c_isMissing0 (n d : Int) (s : ByteArray) (w : World) : Calls Tryz.prog 26 #[V 0 n d s] w fun e w' => e = .returned (.bool true) ∧ Below w.heap.size w w' := c_isMissing 0 n d s w
theorem c_isMissing1 (n d : Int) (s : ByteArray) (w : World) : Calls Tryz.prog 26 #[V 1 n d s] w fun e w' => e = .returned (.bool false) ∧ Below w.heap.size w w' := c_isMissing 1 n d s w
theorem c_isMissing2 (n d : Int) (s : ByteArray) (w : World) : Calls Tryz.prog 26 #[V 2 n d s] w fun e w' => e = .returned (.bool false) ∧ Below w.heap.size w w' := c_isMissing 2 n d s w
theorem c_isMissing3 (n d : Int) (s : ByteArray) (w : World) : Calls Tryz.prog 26 #[V 3 n d s] w fun e w' => e = .returned (.bool false) ∧ Below w.heap.size w w' := c_isMissing 3 n d s w

theorem bcell {W w1 : World} (hb : Below W.heap.size W w1) : (∀ b o, b < W.heap.size → w1.cell? ⟨b, o, none⟩ = W.cell? ⟨b, o, none⟩) ∧ (∀ b o, b < W.heap.size → w1.frozen? ⟨b, o, none⟩ = W.frozen? ⟨b, o, none⟩) :=
  ⟨fun b o h => hb.cell (p := ⟨b, o, none⟩) h, fun b o h => hb.frozen (p := ⟨b, o, none⟩) h⟩
/-- The four cells of a value at an address. -/
def ValIn (w : World) (b o : Nat) (k n d : Int) (s : ByteArray) : Prop := w.cell? ⟨b, o, none⟩ = some (.int .i64 k) ∧ w.cell? ⟨b, o + 1, none⟩ = some (.int .i64 n) ∧ w.cell? ⟨b, o + 2, none⟩ = some (.int .i64 d) ∧ w.cell? ⟨b, o + 3, none⟩ = some (.string s)
theorem ValIn.below {w w' : World} {B b o : Nat} {k n d : Int} {s : ByteArray} (h : ValIn w b o k n d s) (hb : Below B w w') (hl : b < B) : ValIn w' b o k n d s :=
  ⟨(hb.cell (p := ⟨b, o, none⟩) hl).trans h.1, (hb.cell (p := ⟨b, o + 1, none⟩) hl).trans h.2.1, (hb.cell (p := ⟨b, o + 2, none⟩) hl).trans h.2.2.1, (hb.cell (p := ⟨b, o + 3, none⟩) hl).trans h.2.2.2⟩

set_option maxRecDepth 100000 in
set_option maxHeartbeats 4000000 in
theorem s_nn (w : World) (b c : Nat) (r : Int) (l : Bool) (F : Value) (n0 d0 n1 d1 : Int) (s0 s1 : ByteArray) (hb : b < w.heap.size) (h0 : ValIn w b 0 2 n0 d0 s0) (h1 : ValIn w b 4 2 n1 d1 s1) :
    Calls Tryz.prog 25 #[.agg #[.int .i64 2, .int .i64 3, .int .i64 3, .int .i64 0, .int .i64 r, .bool l, F], .slice (some ⟨b, 0, none⟩) 2 c] w fun e w' => e = .returned (.bool true) ∧ Below w.heap.size w w' := by
  have H1 := Lib.hid h1
  obtain ⟨a0, a1, a2, a3⟩ := h0
  simp only [Nat.reduceAdd] at a1 a2 a3
  clear h1
  go_enter Tryz.func25, Tryz.ntmps25
  go_wp2
  refine wp_loop_rounds 3 ?_
  rw [rounds_succ]
  go_wp2_with fail
  refine (c_isMissing2 _ _ _ _).mono ?_
  rintro e w1 ⟨rfl, hb1⟩
  obtain ⟨hc1, hf1⟩ := bcell hb1
  have hz1 : w.heap.size + 1 < w1.heap.size := by have := hb1.size; simp at this; omega
  have B1 : Hid (Below w.heap.size w w1) := btr (((Below.refl _ _).alloc (Nat.le_refl _) _).alloc (by simp) _) hb1
  have g1_1 : w1.cell? ⟨w.heap.size, 2, none⟩ = some (.int .i64 3) := by rw [hc1 w.heap.size 2 (by simp; omega), World.cell?_alloc_lt _ _ _ (by show w.heap.size < _; simp), cell_of_row _ _ _ _ _ _ (heap_alloc_new w _)]; rfl
  obtain ⟨e00, e01, e02, e03⟩ := H1.out.below B1.out hb
  simp only [Nat.reduceAdd] at e01 e02 e03
  go_wp2
  rw [rounds_succ]
  go_wp2_with fail
  refine (c_isMissing2 _ _ _ _).mono ?_
  rintro e w2 ⟨rfl, hb2⟩
  obtain ⟨hc2, hf2⟩ := bcell hb2
  have B2 : Hid (Below w.heap.size w w2) := btr (B1.out.alloc (by omega) _) hb2
  have hz2 : w.heap.size + 1 < w2.heap.size := by have := hb2.size; simp at this; omega
  have g1_2 : w2.cell? ⟨w.heap.size, 2, none⟩ = some (.int .i64 3) := by rw [hc2 _ _ (by simp; omega), World.cell?_alloc_lt _ _ _ (by show w.heap.size < _; omega)]; exact g1_1
  go_wp2
  rw [rounds_succ]
  go_wp2
  go_ret
  exact ⟨rfl, B2.out⟩
set_option maxRecDepth 100000 in
set_option maxHeartbeats 4000000 in
theorem s_bb_01 (w : World) (b c : Nat) (r : Int) (l : Bool) (F : Value) (n0 d0 n1 d1 : Int) (s0 s1 : ByteArray) (hb : b < w.heap.size) (h0 : ValIn w b 0 0 n0 d0 s0) (h1 : ValIn w b 4 1 n1 d1 s1) :
    Calls Tryz.prog 25 #[.agg #[.int .i64 2, .int .i64 2, .int .i64 2, .int .i64 0, .int .i64 r, .bool l, F], .slice (some ⟨b, 0, none⟩) 2 c] w fun e w' => e = .returned (.bool true) ∧ Below w.heap.size w w' := by
  have H1 := Lib.hid h1
  obtain ⟨a0, a1, a2, a3⟩ := h0
  simp only [Nat.reduceAdd] at a1 a2 a3
  clear h1
  go_enter Tryz.func25, Tryz.ntmps25
  go_wp2
  refine wp_loop_rounds 3 ?_
  rw [rounds_succ]
  go_wp2_with fail
  refine (c_isMissing0 _ _ _ _).mono ?_
  rintro e w1 ⟨rfl, hb1⟩
  obtain ⟨hc1, hf1⟩ := bcell hb1
  have hz1 : w.heap.size + 1 < w1.heap.size := by have := hb1.size; simp at this; omega
  have B1 : Hid (Below w.heap.size w w1) := btr (((Below.refl _ _).alloc (Nat.le_refl _) _).alloc (by simp) _) hb1
  have g1_1 : w1.cell? ⟨w.heap.size, 2, none⟩ = some (.int .i64 2) := by rw [hc1 w.heap.size 2 (by simp; omega), World.cell?_alloc_lt _ _ _ (by show w.heap.size < _; simp), cell_of_row _ _ _ _ _ _ (heap_alloc_new w _)]; rfl
  obtain ⟨e00, e01, e02, e03⟩ := H1.out.below B1.out hb
  simp only [Nat.reduceAdd] at e01 e02 e03
  go_wp2
  rw [rounds_succ]
  go_wp2_with fail
  refine (c_isMissing1 _ _ _ _).mono ?_
  rintro e w2 ⟨rfl, hb2⟩
  obtain ⟨hc2, hf2⟩ := bcell hb2
  have B2 : Hid (Below w.heap.size w w2) := btr (B1.out.alloc (by omega) _) hb2
  have hz2 : w.heap.size + 1 < w2.heap.size := by have := hb2.size; simp at this; omega
  have g1_2 : w2.cell? ⟨w.heap.size, 2, none⟩ = some (.int .i64 2) := by rw [hc2 _ _ (by simp; omega), World.cell?_alloc_lt _ _ _ (by show w.heap.size < _; omega)]; exact g1_1
  go_wp2
  rw [rounds_succ]
  go_wp2
  go_ret
  exact ⟨rfl, B2.out⟩
set_option maxRecDepth 100000 in
set_option maxHeartbeats 4000000 in
theorem s_aa_00 (w : World) (b c : Nat) (r : Int) (l : Bool) (F : Value) (n0 d0 n1 d1 : Int) (s0 s1 : ByteArray) (hb : b < w.heap.size) (h0 : ValIn w b 0 0 n0 d0 s0) (h1 : ValIn w b 4 0 n1 d1 s1) :
    Calls Tryz.prog 25 #[.agg #[.int .i64 2, .int .i64 4, .int .i64 4, .int .i64 0, .int .i64 r, .bool l, F], .slice (some ⟨b, 0, none⟩) 2 c] w fun e w' => e = .returned (.bool true) ∧ Below w.heap.size w w' := by
  have H1 := Lib.hid h1
  obtain ⟨a0, a1, a2, a3⟩ := h0
  simp only [Nat.reduceAdd] at a1 a2 a3
  clear h1
  go_enter Tryz.func25, Tryz.ntmps25
  go_wp2
  refine wp_loop_rounds 3 ?_
  rw [rounds_succ]
  go_wp2_with fail
  refine (c_isMissing0 _ _ _ _).mono ?_
  rintro e w1 ⟨rfl, hb1⟩
  obtain ⟨hc1, hf1⟩ := bcell hb1
  have hz1 : w.heap.size + 1 < w1.heap.size := by have := hb1.size; simp at this; omega
  have B1 : Hid (Below w.heap.size w w1) := btr (((Below.refl _ _).alloc (Nat.le_refl _) _).alloc (by simp) _) hb1
  obtain ⟨e00, e01, e02, e03⟩ := H1.out.below B1.out hb
  simp only [Nat.reduceAdd] at e01 e02 e03
  go_wp2
  rw [rounds_succ]
  go_wp2_with fail
  refine (c_isMissing0 _ _ _ _).mono ?_
  rintro e w2 ⟨rfl, hb2⟩
  obtain ⟨hc2, hf2⟩ := bcell hb2
  have B2 : Hid (Below w.heap.size w w2) := btr (B1.out.alloc (by omega) _) hb2
  have hz2 : w.heap.size + 1 < w2.heap.size := by have := hb2.size; simp at this; omega
  go_wp2
  rw [rounds_succ]
  go_wp2
  go_ret
  exact ⟨rfl, B2.out⟩
set_option maxRecDepth 100000 in
set_option maxHeartbeats 4000000 in
theorem s_nn_03 (w : World) (b c : Nat) (r : Int) (l : Bool) (F : Value) (n0 d0 n1 d1 : Int) (s0 s1 : ByteArray) (hb : b < w.heap.size) (h0 : ValIn w b 0 0 n0 d0 s0) (h1 : ValIn w b 4 3 n1 d1 s1) :
    Calls Tryz.prog 25 #[.agg #[.int .i64 2, .int .i64 3, .int .i64 3, .int .i64 0, .int .i64 r, .bool l, F], .slice (some ⟨b, 0, none⟩) 2 c] w fun e w' => e = .returned (.bool false) ∧ Below w.heap.size w w' := by
  have H1 := Lib.hid h1
  obtain ⟨a0, a1, a2, a3⟩ := h0
  simp only [Nat.reduceAdd] at a1 a2 a3
  clear h1
  go_enter Tryz.func25, Tryz.ntmps25
  go_wp2
  refine wp_loop_rounds 3 ?_
  rw [rounds_succ]
  go_wp2_with fail
  refine (c_isMissing0 _ _ _ _).mono ?_
  rintro e w1 ⟨rfl, hb1⟩
  obtain ⟨hc1, hf1⟩ := bcell hb1
  have hz1 : w.heap.size + 1 < w1.heap.size := by have := hb1.size; simp at this; omega
  have B1 : Hid (Below w.heap.size w w1) := btr (((Below.refl _ _).alloc (Nat.le_refl _) _).alloc (by simp) _) hb1
  have g1_1 : w1.cell? ⟨w.heap.size, 2, none⟩ = some (.int .i64 3) := by rw [hc1 w.heap.size 2 (by simp; omega), World.cell?_alloc_lt _ _ _ (by show w.heap.size < _; simp), cell_of_row _ _ _ _ _ _ (heap_alloc_new w _)]; rfl
  obtain ⟨e00, e01, e02, e03⟩ := H1.out.below B1.out hb
  simp only [Nat.reduceAdd] at e01 e02 e03
  go_wp2
  rw [rounds_succ]
  go_wp2_with fail
  refine (c_isMissing3 _ _ _ _).mono ?_
  rintro e w2 ⟨rfl, hb2⟩
  obtain ⟨hc2, hf2⟩ := bcell hb2
  have B2 : Hid (Below w.heap.size w w2) := btr (B1.out.alloc (by omega) _) hb2
  have hz2 : w.heap.size + 1 < w2.heap.size := by have := hb2.size; simp at this; omega
  have g1_2 : w2.cell? ⟨w.heap.size, 2, none⟩ = some (.int .i64 3) := by rw [hc2 _ _ (by simp; omega), World.cell?_alloc_lt _ _ _ (by show w.heap.size < _; omega)]; exact g1_1
  go_wp2
  go_ret
  exact ⟨rfl, B2.out⟩
set_option maxRecDepth 100000 in
set_option maxHeartbeats 4000000 in
theorem s_if_120 (w : World) (b c : Nat) (r : Int) (l : Bool) (F : Value) (n0 d0 n1 d1 n2 d2 : Int) (s0 s1 s2 : ByteArray) (hb : b < w.heap.size) (h0 : ValIn w b 0 1 n0 d0 s0) (h1 : ValIn w b 4 2 n1 d1 s1) (h2 : ValIn w b 8 0 n2 d2 s2) :
    Calls Tryz.prog 25 #[.agg #[.int .i64 3, .int .i64 2, .int .i64 4, .int .i64 4, .int .i64 r, .bool l, F], .slice (some ⟨b, 0, none⟩) 3 c] w fun e w' => e = .returned (.bool true) ∧ Below w.heap.size w w' := by
  have H1 := Lib.hid h1
  have H2 := Lib.hid h2
  obtain ⟨a0, a1, a2, a3⟩ := h0
  simp only [Nat.reduceAdd] at a1 a2 a3
  clear h1 h2
  go_enter Tryz.func25, Tryz.ntmps25
  go_wp2
  refine wp_loop_rounds 4 ?_
  rw [rounds_succ]
  go_wp2_with fail
  refine (c_isMissing1 _ _ _ _).mono ?_
  rintro e w1 ⟨rfl, hb1⟩
  obtain ⟨hc1, hf1⟩ := bcell hb1
  have hz1 : w.heap.size + 1 < w1.heap.size := by have := hb1.size; simp at this; omega
  have B1 : Hid (Below w.heap.size w w1) := btr (((Below.refl _ _).alloc (Nat.le_refl _) _).alloc (by simp) _) hb1
  have g1_1 : w1.cell? ⟨w.heap.size, 2, none⟩ = some (.int .i64 4) := by rw [hc1 w.heap.size 2 (by simp; omega), World.cell?_alloc_lt _ _ _ (by show w.heap.size < _; simp), cell_of_row _ _ _ _ _ _ (heap_alloc_new w _)]; rfl
  obtain ⟨e00, e01, e02, e03⟩ := H1.out.below B1.out hb
  simp only [Nat.reduceAdd] at e01 e02 e03
  go_wp2
  rw [rounds_succ]
  go_wp2_with fail
  refine (c_isMissing2 _ _ _ _).mono ?_
  rintro e w2 ⟨rfl, hb2⟩
  obtain ⟨hc2, hf2⟩ := bcell hb2
  have B2 : Hid (Below w.heap.size w w2) := btr (B1.out.alloc (by omega) _) hb2
  have hz2 : w.heap.size + 1 < w2.heap.size := by have := hb2.size; simp at this; omega
  have g1_2 : w2.cell? ⟨w.heap.size, 2, none⟩ = some (.int .i64 4) := by rw [hc2 _ _ (by simp; omega), World.cell?_alloc_lt _ _ _ (by show w.heap.size < _; omega)]; exact g1_1
  obtain ⟨e10, e11, e12, e13⟩ := H2.out.below B2.out hb
  simp only [Nat.reduceAdd] at e11 e12 e13
  go_wp2
  rw [rounds_succ]
  go_wp2_with fail
  refine (c_isMissing0 _ _ _ _).mono ?_
  rintro e w3 ⟨rfl, hb3⟩
  obtain ⟨hc3, hf3⟩ := bcell hb3
  have B3 : Hid (Below w.heap.size w w3) := btr (B2.out.alloc (by omega) _) hb3
  have hz3 : w.heap.size + 1 < w3.heap.size := by have := hb3.size; simp at this; omega
  go_wp2
  rw [rounds_succ]
  go_wp2
  go_ret
  exact ⟨rfl, B3.out⟩
end Go.Proofs.YtnfncdalneifnaaGreatDoor

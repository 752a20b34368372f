/- What the operations compute, where values are missing or Booleans. -/
import Derived.Test.YtnfncdalneifnaaGreatDoorZFind
import Derived.Test.YtnfncdalneifnaaGreatDoorZSuit
import Derived.Laws.Rows
namespace Go.Proofs.YtnfncdalneifnaaGreatDoor
open Go.RowKit Go.Deep

set_option maxHeartbeats 1000000 in
theorem c_chosen (t : Bool) (k n d : Int) (s : ByteArray) (k' n' d' : Int) (s' : ByteArray) (w : World) :
    Calls Tryz.prog 132 #[.bool t, V k n d s, V k' n' d' s'] w fun e w' => e = .returned (if t then V k n d s else V k' n' d' s') ∧ Below w.heap.size w w' := by
  cases t
  · go_enter Tryz.func132, Tryz.ntmps132
    go_wp2
    exact bodyPost_ret (v := V k' n' d' s') (by simp [results, Tryz.results132, go_sem]) rfl ⟨rfl, (((Below.refl _ _).alloc (Nat.le_refl _) _).alloc (by simp) _).alloc (by simp; omega) _⟩
  · go_enter Tryz.func132, Tryz.ntmps132
    go_wp2
    exact bodyPost_ret (v := V k n d s) (by simp [results, Tryz.results132, go_sem]) rfl ⟨rfl, (((Below.refl _ _).alloc (Nat.le_refl _) _).alloc (by simp) _).alloc (by simp; omega) _⟩

/-- Two values in a slice: their cells in every later world. -/
def Two (w : World) (b : Nat) (k n d : Int) (s : ByteArray) (k' n' d' : Int) (s' : ByteArray) : Prop := ∀ W, Below w.heap.size w W → ((W.cell? ⟨b, 0, none⟩ = some (.int .i64 k) ∧ W.cell? ⟨b, 1, none⟩ = some (.int .i64 n) ∧ W.cell? ⟨b, 2, none⟩ = some (.int .i64 d) ∧ W.cell? ⟨b, 3, none⟩ = some (.string s)) ∧
  (W.cell? ⟨b, 4, none⟩ = some (.int .i64 k') ∧ W.cell? ⟨b, 5, none⟩ = some (.int .i64 n') ∧ W.cell? ⟨b, 6, none⟩ = some (.int .i64 d') ∧ W.cell? ⟨b, 7, none⟩ = some (.string s')))
theorem two_of {w : World} {b : Nat} {k n d : Int} {s : ByteArray} {k' n' d' : Int} {s' : ByteArray} (hb : b < w.heap.size) (h1 : ValIn w b 0 k n d s) (h2 : ValIn w b 4 k' n' d' s') : Two w b k n d s k' n' d' s' := fun W hW => by
  obtain ⟨a0, a1, a2, a3⟩ := h1.below hW hb
  obtain ⟨b0, b1, b2, b3⟩ := h2.below hW hb
  exact ⟨⟨a0, a1, a2, a3⟩, ⟨b0, b1, b2, b3⟩⟩

/-- A result's box: four cells that may be written. -/
def ResAt (W : World) (r : Nat) : Prop := W.cell? ⟨r, 0, none⟩ = some (.int .i64 0) ∧ W.cell? ⟨r, 1, none⟩ = some (.int .i64 0) ∧ W.cell? ⟨r, 2, none⟩ = some (.int .i64 0) ∧ W.cell? ⟨r, 3, none⟩ = some (.string ⟨#[]⟩) ∧
  W.frozen? ⟨r, 0, none⟩ = false ∧ W.frozen? ⟨r, 1, none⟩ = false ∧ W.frozen? ⟨r, 2, none⟩ = false ∧ W.frozen? ⟨r, 3, none⟩ = false
theorem res_at {W : World} {r : Nat} (h : W.heap[r]? = some (.cells #[.int .i64 0, .int .i64 0, .int .i64 0, .string ⟨#[]⟩] 25 (0, 0))) : ResAt W r := by
  have f : ∀ i, W.frozen? ⟨r, i, none⟩ = false := fun i => by simp [World.frozen?, h]
  refine ⟨?_, ?_, ?_, ?_, f 0, f 1, f 2, f 3⟩ <;> (rw [cell_of_row _ _ _ _ _ _ h]; rfl)

theorem put4 {W : World} {r : Nat} (h : W.heap[r]? = some (.cells #[.int .i64 0, .int .i64 0, .int .i64 0, .string ⟨#[]⟩] 25 (0, 0))) (a b c d : Value) :
    ((((W.setCell ⟨r, 0, none⟩ a).setCell ⟨r, 1, none⟩ b).setCell ⟨r, 2, none⟩ c).setCell ⟨r, 3, none⟩ d).heap[r]? = some (.cells #[a, b, c, d] 25 (0, 0)) := by
  simp [World.setCell, Array.getElem?_modify, h]
theorem info_v4 : (Tryz.prog.info? 25).map (·.size) = some 4 := by kernel_rfl
theorem below4 {B : Nat} {a W : World} (h : Below B a W) (r : Nat) (hr : B ≤ r) (x y z u : Value) : Below B a ((((W.setCell ⟨r, 0, none⟩ x).setCell ⟨r, 1, none⟩ y).setCell ⟨r, 2, none⟩ z).setCell ⟨r, 3, none⟩ u) :=
  (((h.setCell (p := ⟨r, 0, none⟩) hr x).setCell (p := ⟨r, 1, none⟩) hr y).setCell (p := ⟨r, 2, none⟩) hr z).setCell (p := ⟨r, 3, none⟩) hr u

set_option maxRecDepth 100000 in
set_option maxHeartbeats 2000000 in
theorem x_else (w : World) (b c : Nat) (n n' : Int) (hb : b < w.heap.size) (h1 : ValIn w b 0 0 n 0 noS) (h2 : ValIn w b 4 0 n' 0 noS) :
    Calls Tryz.prog 131 #[.slice (some ⟨b, 0, none⟩) 2 c] w fun e w' => e = .returned (V 0 n' 0 noS) ∧ Below w.heap.size w w' := by
  have K := Lib.hid (two_of hb h1 h2)
  have hr0 := heap_alloc_new w (.cells #[.int .i64 0, .int .i64 0, .int .i64 0, .string ⟨#[]⟩] 25)
  have HR0 := Lib.hid hr0
  clear h1 h2 hr0
  go_enter Tryz.func131, Tryz.ntmps131
  go_wp2_with fail
  generalize HW : w.alloc (.cells #[.int .i64 0, .int .i64 0, .int .i64 0, .string ⟨#[]⟩] 25) = W0 at *
  have B0 : Below w.heap.size w W0 := by rw [← HW]; exact (Below.refl _ _).alloc (Nat.le_refl _) _
  have hz0 : w.heap.size < W0.heap.size := by rw [← HW]; simp
  clear HW
  have KH : Hid (∀ W, Below W0.heap.size W0 W → W.heap[w.heap.size]? = some (.cells #[.int .i64 0, .int .i64 0, .int .i64 0, .string ⟨#[]⟩] 25 (0, 0))) := fun W hW => (hW.block _ hz0).trans HR0.out
  have KR : Hid (∀ W, Below W0.heap.size W0 W → ResAt W w.heap.size) := fun W hW => res_at ((hW.block _ hz0).trans HR0.out)
  have B0d : Below W0.heap.size W0 W0.drew := Below.drew (Below.refl _ _)
  go_region_held3 (fun w' => (w'.cell? ⟨b, 0, none⟩ = some (.int .i64 0) ∧ w'.cell? ⟨b, 1, none⟩ = some (.int .i64 n) ∧ w'.cell? ⟨b, 2, none⟩ = some (.int .i64 0) ∧ w'.cell? ⟨b, 3, none⟩ = some (.string noS)) ∧
  (w'.cell? ⟨b, 4, none⟩ = some (.int .i64 0) ∧ w'.cell? ⟨b, 5, none⟩ = some (.int .i64 n') ∧ w'.cell? ⟨b, 6, none⟩ = some (.int .i64 0) ∧ w'.cell? ⟨b, 7, none⟩ = some (.string noS)))
    (first | exact K.out _ (((((btr B0 B2).setCell (p := ⟨w.heap.size, 0, none⟩) (Nat.le_refl w.heap.size) _).setCell (p := ⟨w.heap.size, 1, none⟩) (Nat.le_refl w.heap.size) _).setCell (p := ⟨w.heap.size, 2, none⟩) (Nat.le_refl w.heap.size) _).setCell (p := ⟨w.heap.size, 3, none⟩) (Nat.le_refl w.heap.size) _) | exact K.out _ (btr B0 B2) | exact K.out _ (btr B0 B1) | exact K.out _ (btr B0 B0d) | exact K.out _ B0) (first
      | (go_at_call 26; refine (c_isMissing0 n 0 noS _).mono ?_; rintro e w1 ⟨rfl, hb1⟩; have B1 : Below W0.heap.size W0 w1 := btr B0d hb1)
      | (go_at_call 132; refine (c_chosen true 0 n' 0 noS 0 n 0 noS _).mono ?_; rintro e w2 ⟨rfl, hb2⟩; have B2 : Below W0.heap.size W0 w2 := btr B1 hb2; obtain ⟨r0, r1, r2, r3, f0, f1, f2, f3⟩ := KR.out _ B2))
  go_wp2
  exact bodyPost_ret (v := V 0 n' 0 noS) (results_cell_row Tryz.results131 _ _ w.heap.size 25 _ (0, 0) _ rfl (put4 (KH.out _ B2) _ _ _ _) Tryz.underlying25 rfl (by rw [info_v4]; rfl)) rfl ⟨rfl, below4 (btr B0 B2) _ (Nat.le_refl _) _ _ _ _⟩

set_option maxRecDepth 100000 in
set_option maxHeartbeats 2000000 in
theorem x_dec_mF (w : World) (b c : Nat) (n : Int) (hb : b < w.heap.size) (h1 : ValIn w b 0 0 n 0 noS) (h2 : ValIn w b 4 1 0 0 noS) :
    Calls Tryz.prog 129 #[.slice (some ⟨b, 0, none⟩) 2 c, .bool false] w fun e w' => e = .returned (V 1 0 0 noS) ∧ Below w.heap.size w w' := by
  have K := Lib.hid (two_of hb h1 h2)
  have hr0 := heap_alloc_new w (.cells #[.int .i64 0, .int .i64 0, .int .i64 0, .string ⟨#[]⟩] 25)
  have HR0 := Lib.hid hr0
  clear h1 h2 hr0
  go_enter Tryz.func129, Tryz.ntmps129
  go_wp2_with fail
  generalize HW : w.alloc (.cells #[.int .i64 0, .int .i64 0, .int .i64 0, .string ⟨#[]⟩] 25) = W0 at *
  have B0 : Below w.heap.size w W0 := by rw [← HW]; exact (Below.refl _ _).alloc (Nat.le_refl _) _
  have hz0 : w.heap.size < W0.heap.size := by rw [← HW]; simp
  clear HW
  have KH : Hid (∀ W, Below W0.heap.size W0 W → W.heap[w.heap.size]? = some (.cells #[.int .i64 0, .int .i64 0, .int .i64 0, .string ⟨#[]⟩] 25 (0, 0))) := fun W hW => (hW.block _ hz0).trans HR0.out
  have KR : Hid (∀ W, Below W0.heap.size W0 W → ResAt W w.heap.size) := fun W hW => res_at ((hW.block _ hz0).trans HR0.out)
  have B0d : Below W0.heap.size W0 W0.drew := Below.drew (Below.refl _ _)
  go_region_held3 (fun w' => (w'.cell? ⟨b, 0, none⟩ = some (.int .i64 0) ∧ w'.cell? ⟨b, 1, none⟩ = some (.int .i64 n) ∧ w'.cell? ⟨b, 2, none⟩ = some (.int .i64 0) ∧ w'.cell? ⟨b, 3, none⟩ = some (.string noS)) ∧ (w'.cell? ⟨b, 4, none⟩ = some (.int .i64 1) ∧ w'.cell? ⟨b, 5, none⟩ = some (.int .i64 0) ∧ w'.cell? ⟨b, 6, none⟩ = some (.int .i64 0) ∧ w'.cell? ⟨b, 7, none⟩ = some (.string noS)))
    (first | exact K.out _ (btr B0 B2) | exact K.out _ (btr B0 B1) | exact K.out _ (btr B0 B0d) | exact K.out _ B0) (first
      | (go_at_call 62; refine (c_truth0 W0.drew).mono ?_; rintro e w1 ⟨rfl, hb1⟩; have B1 : Below W0.heap.size W0 w1 := btr B0d hb1)
      | (go_at_call 62; refine (c_truth0 w1).mono ?_; rintro e w2 ⟨rfl, hb2⟩; have B2 : Below W0.heap.size W0 w2 := btr B1 hb2))
  go_wp2_with fail
  refine (c_truth0 _).mono ?_
  rintro e w3 ⟨rfl, hb3⟩
  have B3 : Below W0.heap.size W0 w3 := btr B2 hb3
  obtain ⟨r0, r1, r2, r3, f0, f1, f2, f3⟩ := KR.out _ B3
  go_wp2
  exact bodyPost_ret (v := V 1 0 0 noS) (results_cell_row Tryz.results129 _ _ w.heap.size 25 _ (0, 0) _ rfl (put4 (KH.out _ B3) _ _ _ _) Tryz.underlying25 rfl (by rw [info_v4]; rfl)) rfl ⟨rfl, below4 (btr B0 B3) _ (Nat.le_refl _) _ _ _ _⟩

set_option maxRecDepth 100000 in
set_option maxHeartbeats 2000000 in
theorem x_and (w : World) (b c : Nat) (k n d : Int) (s : ByteArray) (HD : ∀ W, Below w.heap.size w W → Calls Tryz.prog 129 #[.slice (some ⟨b, 0, none⟩) 2 c, .bool false] W fun e w' => e = .returned (V k n d s) ∧ Below W.heap.size W w') :
    Calls Tryz.prog 128 #[.slice (some ⟨b, 0, none⟩) 2 c] w fun e w' => e = .returned (V k n d s) ∧ Below w.heap.size w w' := by
  have HDh := Lib.hid HD
  have HR0 := Lib.hid (heap_alloc_new w (.cells #[.int .i64 0, .int .i64 0, .int .i64 0, .string ⟨#[]⟩] 25))
  clear HD
  go_enter Tryz.func128, Tryz.ntmps128
  go_wp2_with fail
  generalize HW : w.alloc (.cells #[.int .i64 0, .int .i64 0, .int .i64 0, .string ⟨#[]⟩] 25) = W0 at *
  have B0 : Below w.heap.size w W0 := by rw [← HW]; exact (Below.refl _ _).alloc (Nat.le_refl _) _
  have hz0 : w.heap.size < W0.heap.size := by rw [← HW]; simp
  clear HW
  refine (HDh.out _ B0).mono ?_
  rintro e w1 ⟨rfl, hb1⟩
  have hh1 := (hb1.block _ hz0).trans HR0.out
  obtain ⟨r0, r1, r2, r3, f0, f1, f2, f3⟩ := res_at hh1
  have HH1 := Lib.hid hh1
  clear hh1 HDh
  go_wp2
  exact bodyPost_ret (v := V k n d s) (results_cell_row Tryz.results128 _ _ w.heap.size 25 _ (0, 0) _ rfl (put4 HH1.out _ _ _ _) Tryz.underlying25 rfl (by rw [info_v4]; rfl)) rfl ⟨rfl, below4 (btr B0 hb1) _ (Nat.le_refl _) _ _ _ _⟩
end Go.Proofs.YtnfncdalneifnaaGreatDoor

/- The operation that chooses by a Boolean, at the chapter's example; operations that are not done. -/
import Derived.Test.YtfkjfeobhbocjaaGreatDoorClo
import Derived.Test.YtfkjfeobhbocjaaGreatDoorDo
namespace Go.Proofs.YtfkjfeobhbocjaaGreatDoor
open Go.RowKit Go.Deep

set_option maxRecDepth 100000 in
set_option maxHeartbeats 4000000 in
theorem r_if (w : World) (b c : Nat) (hb : b < w.heap.size) (h1 : ValIn w b 0 1 1 0 noS) (h2 : ValIn w b 4 2 1 1 noS) (h3 : ValIn w b 8 0 5 0 noS) :
    Calls Tryz.prog 122 #[.slice (some ⟨b, 0, none⟩) 3 c] w fun e w' => e = .returned (V 2 1 1 noS) ∧ Below w.heap.size w w' := by
  have K : Hid (∀ W, Below w.heap.size w W → W.cell? ⟨b, 0, none⟩ = some (.int .i64 1) ∧ W.cell? ⟨b, 1, none⟩ = some (.int .i64 1) ∧ W.cell? ⟨b, 4, none⟩ = some (.int .i64 2) ∧ W.cell? ⟨b, 5, none⟩ = some (.int .i64 1) ∧ W.cell? ⟨b, 6, none⟩ = some (.int .i64 1) ∧ W.cell? ⟨b, 7, none⟩ = some (.string noS) ∧ W.cell? ⟨b, 8, none⟩ = some (.int .i64 0) ∧ W.cell? ⟨b, 9, none⟩ = some (.int .i64 5) ∧ W.cell? ⟨b, 10, none⟩ = some (.int .i64 0) ∧ W.cell? ⟨b, 11, none⟩ = some (.string noS)) := fun W hW => by
    obtain ⟨a0, a1, a2, a3⟩ := h1.below hW hb
    obtain ⟨b0, b1, b2, b3⟩ := h2.below hW hb
    obtain ⟨d0, d1, d2, d3⟩ := h3.below hW hb
    exact ⟨a0, a1, b0, b1, b2, b3, d0, d1, d2, d3⟩
  have HR0 := Lib.hid (heap_alloc_new w (.cells #[.int .i64 0, .int .i64 0, .int .i64 0, .string ⟨#[]⟩] 46))
  obtain ⟨a0, a1, a2, a3⟩ := h1
  simp only [Nat.reduceAdd] at a1 a2 a3
  clear h2 h3
  go_enter Tryz.func122, Tryz.ntmps122
  go_wp2_with fail
  generalize HW : w.alloc (.cells #[.int .i64 0, .int .i64 0, .int .i64 0, .string ⟨#[]⟩] 46) = W0 at *
  have B0 : Below w.heap.size w W0 := by rw [← HW]; exact (Below.refl _ _).alloc (Nat.le_refl _) _
  have hz0 : w.heap.size < W0.heap.size := by rw [← HW]; simp
  clear HW a0 a1 a2 a3
  refine (c_isMissing1 _ _ _ _).mono ?_
  rintro e w1 ⟨rfl, hb1⟩
  have B1 : Below w.heap.size w w1 := btr B0 hb1
  have hz1 : w.heap.size < w1.heap.size := Nat.lt_of_lt_of_le hz0 hb1.size
  have HR1 := Lib.hid ((hb1.block _ hz0).trans HR0.out)
  clear HR0 hb1
  have KH : Hid (∀ W, Below w1.heap.size w1 W → W.heap[w.heap.size]? = some (.cells #[.int .i64 0, .int .i64 0, .int .i64 0, .string ⟨#[]⟩] 46 (0, 0))) := fun W hW => (hW.block _ hz1).trans HR1.out
  have KR : Hid (∀ W, Below w1.heap.size w1 W → ResAt W w.heap.size) := fun W hW => res_at ((hW.block _ hz1).trans HR1.out)
  have B1d : Below w1.heap.size w1 w1.drew := Below.drew (Below.refl _ _)
  go_wp2_with fail
  go_region_held3 (fun w' => w'.cell? ⟨b, 0, none⟩ = some (.int .i64 1) ∧ w'.cell? ⟨b, 1, none⟩ = some (.int .i64 1) ∧ w'.cell? ⟨b, 4, none⟩ = some (.int .i64 2) ∧ w'.cell? ⟨b, 5, none⟩ = some (.int .i64 1) ∧ w'.cell? ⟨b, 6, none⟩ = some (.int .i64 1) ∧ w'.cell? ⟨b, 7, none⟩ = some (.string noS) ∧ w'.cell? ⟨b, 8, none⟩ = some (.int .i64 0) ∧ w'.cell? ⟨b, 9, none⟩ = some (.int .i64 5) ∧ w'.cell? ⟨b, 10, none⟩ = some (.int .i64 0) ∧ w'.cell? ⟨b, 11, none⟩ = some (.string noS))
    (first | exact K.out _ (below4 (btr B1 B2) _ (Nat.le_refl w.heap.size) _ _ _ _) | exact K.out _ (btr B1 B2) | exact K.out _ (btr B1 B1d) | exact K.out _ B1) (first
      | (go_at_call 121; refine (c_chosen true 2 1 1 noS 0 5 0 noS _).mono ?_; rintro e w2 ⟨rfl, hb2⟩; have B2 : Below w1.heap.size w1 w2 := btr B1d hb2; obtain ⟨r0, r1, r2, r3, f0, f1, f2, f3⟩ := KR.out _ B2))
  all_goals
    go_wp2
    exact bodyPost_ret (v := V 2 1 1 noS) (results_cell_row Tryz.results122 _ _ w.heap.size 46 _ (0, 0) _ rfl (put4 (KH.out _ B2) _ _ _ _) Tryz.underlying46 rfl (by rw [info_v4]; rfl)) rfl ⟨rfl, below4 (btr B1 B2) _ (Nat.le_refl _) _ _ _ _⟩

set_option maxRecDepth 100000 in
set_option maxHeartbeats 4000000 in
theorem d_bad (w : World) : Calls Tryz.prog 26 #[.int .i64 4, .slice none 0 0] w fun e w' => e = .returned (.tuple #[V 0 0 0 noS, .int .i64 2]) ∧ Below w.heap.size w w' := by
  have HF := Lib.hid (fun W => f_bad W 4 0 (.inr (.inr ⟨by omega, by omega, rfl⟩)))
  have hr0 := heap_alloc_new w (.cells #[.int .i64 0, .int .i64 0, .int .i64 0, .string ⟨#[]⟩] 46)
  have HR0 := Lib.hid hr0
  clear hr0
  go_enter Tryz.func26, Tryz.ntmps26
  go_wp2_with fail
  refine (HF.out _).mono ?_
  rintro e w1 ⟨rfl, hb1⟩
  have hr1 := (hb1.block _ (by simp)).trans HR0.out
  have hz1 : w.heap.size < w1.heap.size := (Array.getElem?_eq_some_iff.1 hr1).1
  have B1 : Hid (Below w.heap.size w w1) := btr ((Below.refl _ _).alloc (Nat.le_refl _) _) hb1
  clear hb1 HF HR0
  go_wp2_with (first | (refine wpList_store_row 66 _ _ rfl rfl rfl w1.heap.size 66 rfl z7 rfl _ (heap_alloc_new w1 _) rfl info_op z7_one ?_; intro w2 hh2 hg2 hz2; have B2 : Hid (Below w.heap.size w w2) := (B1.out.alloc (by omega) _).grown hg2 (by simp; omega) (fun j hj => by injection hj with hj; omega); have hr2 := (hg2.block _ (by simp; omega) (by simp; omega)).trans ((Below.heap_alloc w1 _ _ hz1).trans hr1); clear hz2 hg2 hh2 hr1) | (refine wpList_store_row 46 _ _ rfl rfl rfl w.heap.size 46 rfl [.int .i64 0, .int .i64 0, .int .i64 0, .string noS] rfl _ hr2 rfl info_val (val_one _ _ _ _) ?_; intro wz hhz hgz hzz; have HBz : Hid (Below w.heap.size w wz) := B2.out.grown hgz B2.out.size (fun j hj => by injection hj with hj; omega); clear hzz hgz hr2))
  exact bodyPost_ret (v := .tuple #[V 0 0 0 noS, .int .i64 2]) (results_cell_tmp Tryz.results26 _ _ w.heap.size 46 _ (0, 0) _ rfl hhz Tryz.underlying46 rfl (by rw [info_val]; rfl)) rfl ⟨rfl, HBz.out⟩
end Go.Proofs.YtfkjfeobhbocjaaGreatDoor

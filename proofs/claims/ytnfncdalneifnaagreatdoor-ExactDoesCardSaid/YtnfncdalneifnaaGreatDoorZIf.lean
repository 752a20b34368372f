/- The operation that chooses by a Boolean, at the chapter's example; operations that are not done. -/
import Derived.Test.YtnfncdalneifnaaGreatDoorZClo
import Derived.Test.YtnfncdalneifnaaGreatDoorZDo

/- The operation that chooses by a Boolean, at the chapter's example; operations that are not done. -/
section
namespace Go.Proofs.YtnfncdalneifnaaGreatDoor
open Go.RowKit Go.Deep

set_option maxRecDepth 100000 in
set_option maxHeartbeats 4000000 in
theorem r_if (w : World) (b c : Nat) (hb : b < w.heap.size) (h1 : ValIn w b 0 1 1 0 noS) (h2 : ValIn w b 4 2 1 1 noS) (h3 : ValIn w b 8 0 5 0 noS) :
    Calls Tryz.prog 133 #[.slice (some ⟨b, 0, none⟩) 3 c] w fun e w' => e = .returned (V 2 1 1 noS) ∧ Below w.heap.size w w' := by
  have K : Hid (∀ W, Below w.heap.size w W → W.cell? ⟨b, 0, none⟩ = some (.int .i64 1) ∧ W.cell? ⟨b, 1, none⟩ = some (.int .i64 1) ∧ W.cell? ⟨b, 4, none⟩ = some (.int .i64 2) ∧ W.cell? ⟨b, 5, none⟩ = some (.int .i64 1) ∧ W.cell? ⟨b, 6, none⟩ = some (.int .i64 1) ∧ W.cell? ⟨b, 7, none⟩ = some (.string noS) ∧ W.cell? ⟨b, 8, none⟩ = some (.int .i64 0) ∧ W.cell? ⟨b, 9, none⟩ = some (.int .i64 5) ∧ W.cell? ⟨b, 10, none⟩ = some (.int .i64 0) ∧ W.cell? ⟨b, 11, none⟩ = some (.string noS)) := fun W hW => by
    obtain ⟨a0, a1, a2, a3⟩ := h1.below hW hb
    obtain ⟨b0, b1, b2, b3⟩ := h2.below hW hb
    obtain ⟨d0, d1, d2, d3⟩ := h3.below hW hb
    exact ⟨a0, a1, b0, b1, b2, b3, d0, d1, d2, d3⟩
  have HR0 := Lib.hid (heap_alloc_new w (.cells #[.int .i64 0, .int .i64 0, .int .i64 0, .string ⟨#[]⟩] 25))
  obtain ⟨a0, a1, a2, a3⟩ := h1
  simp only [Nat.reduceAdd] at a1 a2 a3
  clear h2 h3
  go_enter Tryz.func133, Tryz.ntmps133
  go_wp2_with fail
  generalize HW : w.alloc (.cells #[.int .i64 0, .int .i64 0, .int .i64 0, .string ⟨#[]⟩] 25) = W0 at *
  have B0 : Below w.heap.size w W0 := by rw [← HW]; exact (Below.refl _ _).alloc (Nat.le_refl _) _
  have hz0 : w.heap.size < W0.heap.size := by rw [← HW]; simp
  clear HW a0 a1 a2 a3
  refine (c_isMissing1 _ _ _ _).mono ?_
  rintro e w1 ⟨rfl, hb1⟩
  have B1 : Below w.heap.size w w1 := btr B0 hb1
  have hz1 : w.heap.size < w1.heap.size := Nat.lt_of_lt_of_le hz0 hb1.size
  have HR1 := Lib.hid ((hb1.block _ hz0).trans HR0.out)
  clear HR0 hb1
  have KH : Hid (∀ W, Below w1.heap.size w1 W → W.heap[w.heap.size]? = some (.cells #[.int .i64 0, .int .i64 0, .int .i64 0, .string ⟨#[]⟩] 25 (0, 0))) := fun W hW => (hW.block _ hz1).trans HR1.out
  have KR : Hid (∀ W, Below w1.heap.size w1 W → ResAt W w.heap.size) := fun W hW => res_at ((hW.block _ hz1).trans HR1.out)
  have B1d : Below w1.heap.size w1 w1.drew := Below.drew (Below.refl _ _)
  go_wp2_with fail
  go_region_held3 (fun w' => w'.cell? ⟨b, 0, none⟩ = some (.int .i64 1) ∧ w'.cell? ⟨b, 1, none⟩ = some (.int .i64 1) ∧ w'.cell? ⟨b, 4, none⟩ = some (.int .i64 2) ∧ w'.cell? ⟨b, 5, none⟩ = some (.int .i64 1) ∧ w'.cell? ⟨b, 6, none⟩ = some (.int .i64 1) ∧ w'.cell? ⟨b, 7, none⟩ = some (.string noS) ∧ w'.cell? ⟨b, 8, none⟩ = some (.int .i64 0) ∧ w'.cell? ⟨b, 9, none⟩ = some (.int .i64 5) ∧ w'.cell? ⟨b, 10, none⟩ = some (.int .i64 0) ∧ w'.cell? ⟨b, 11, none⟩ = some (.string noS))
    (first | exact K.out _ (below4 (btr B1 B2) _ (Nat.le_refl w.heap.size) _ _ _ _) | exact K.out _ (btr B1 B2) | exact K.out _ (btr B1 B1d) | exact K.out _ B1) (first
      | (go_at_call 132; refine (c_chosen true 2 1 1 noS 0 5 0 noS _).mono ?_; rintro e w2 ⟨rfl, hb2⟩; have B2 : Below w1.heap.size w1 w2 := btr B1d hb2; obtain ⟨r0, r1, r2, r3, f0, f1, f2, f3⟩ := KR.out _ B2))
  all_goals
    go_wp2
    exact bodyPost_ret (v := V 2 1 1 noS) (results_cell_row Tryz.results133 _ _ w.heap.size 25 _ (0, 0) _ rfl (put4 (KH.out _ B2) _ _ _ _) Tryz.underlying25 rfl (by rw [info_v4]; rfl)) rfl ⟨rfl, below4 (btr B1 B2) _ (Nat.le_refl _) _ _ _ _⟩

set_option maxRecDepth 100000 in
set_option maxHeartbeats 4000000 in
theorem d_bad (w : World) : Calls Tryz.prog 5 #[.int .i64 4, .slice none 0 0] w fun e w' => e = .returned (.tuple #[V 0 0 0 noS, .int .i64 2]) ∧ Below w.heap.size w w' := by
  have HF := Lib.hid (fun W => f_bad W 4 0 (.inr (.inr ⟨by omega, by omega, rfl⟩)))
  have hr0 := heap_alloc_new w (.cells #[.int .i64 0, .int .i64 0, .int .i64 0, .string ⟨#[]⟩] 25)
  have HR0 := Lib.hid hr0
  clear hr0
  go_enter Tryz.func5, Tryz.ntmps5
  go_wp2_with fail
  refine (HF.out _).mono ?_
  rintro e w1 ⟨rfl, hb1⟩
  have hr1 := (hb1.block _ (by simp)).trans HR0.out
  have hz1 : w.heap.size < w1.heap.size := (Array.getElem?_eq_some_iff.1 hr1).1
  have B1 : Hid (Below w.heap.size w w1) := btr ((Below.refl _ _).alloc (Nat.le_refl _) _) hb1
  clear hb1 HF HR0
  go_wp2_with (first | (refine wpList_store_row 53 _ _ rfl rfl rfl w1.heap.size 53 rfl z7 rfl _ (heap_alloc_new w1 _) rfl info_op z7_one ?_; intro w2 hh2 hg2 hz2; have B2 : Hid (Below w.heap.size w w2) := (B1.out.alloc (by omega) _).grown hg2 (by simp; omega) (fun j hj => by injection hj with hj; omega); have hr2 := (hg2.block _ (by simp; omega) (by simp; omega)).trans ((Below.heap_alloc w1 _ _ hz1).trans hr1); clear hz2 hg2 hh2 hr1) | (refine wpList_store_row 25 _ _ rfl rfl rfl w.heap.size 25 rfl [.int .i64 0, .int .i64 0, .int .i64 0, .string noS] rfl _ hr2 rfl info_val (val_one _ _ _ _) ?_; intro wz hhz hgz hzz; have HBz : Hid (Below w.heap.size w wz) := B2.out.grown hgz B2.out.size (fun j hj => by injection hj with hj; omega); clear hzz hgz hr2))
  exact bodyPost_ret (v := .tuple #[V 0 0 0 noS, .int .i64 2]) (results_cell_tmp Tryz.results5 _ _ w.heap.size 25 _ (0, 0) _ rfl hhz Tryz.underlying25 rfl (by rw [info_val]; rfl)) rfl ⟨rfl, HBz.out⟩
end Go.Proofs.YtnfncdalneifnaaGreatDoor
end

/- An operation that is not done on values of other kinds. -/
section
namespace Go.Proofs.YtnfncdalneifnaaGreatDoor
open Go.RowKit Go.Deep

set_option maxRecDepth 100000 in
set_option maxHeartbeats 4000000 in
theorem d_add03 (w : World) (b c : Nat) (n0 d0 n1 d1 : Int) (s0 s1 : ByteArray) (hb : b < w.heap.size) (h0 : ValIn w b 0 0 n0 d0 s0) (g0 : Good 0 n0 d0 s0) (h1 : ValIn w b 4 3 n1 d1 s1) (g1 : Good 3 n1 d1 s1) :
    Calls Tryz.prog 5 #[.int .i64 9, .slice (some ⟨b, 0, none⟩) 2 c] w fun e w' => e = .returned (.tuple #[V 0 0 0 noS, .int .i64 12]) ∧ Below w.heap.size w w' := by
  have HS : ∀ W, b < W.heap.size → ValIn W b 0 0 n0 d0 s0 → ValIn W b 4 3 n1 d1 s1 → Calls Tryz.prog 25 #[.agg #[.int .i64 2, .int .i64 3, .int .i64 3, .int .i64 0, .int .i64 0, .bool false, .func (.func 117) #[] #[]], .slice (some ⟨b, 0, none⟩) 2 c] W fun e w' => e = .returned (.bool false) ∧ Below W.heap.size W w' := fun W hW a0 a1 => s_nn_03 W b c _ _ _ n0 d0 n1 d1 s0 s1 hW a0 a1
  have HF := Lib.hid (fun W => f_op9 W)
  have H0 := Lib.hid h0
  have HV0 := Lib.hid (fun W => c_validValue 0 n0 d0 s0 W g0)
  have H1 := Lib.hid h1
  have HV1 := Lib.hid (fun W => c_validValue 3 n1 d1 s1 W g1)
  have HSh := Lib.hid HS
  clear h0 g0 h1 g1 HS
  go_enter Tryz.func5, Tryz.ntmps5
  go_wp2_with fail
  have hr0 := heap_alloc_new w (.cells #[.int .i64 0, .int .i64 0, .int .i64 0, .string ⟨#[]⟩] 25)
  refine (HF.out _).mono ?_
  rintro e w1 ⟨rfl, hb1⟩
  have hr1 := (hb1.block _ (by simp)).trans hr0
  have B1 : Hid (Below w.heap.size w w1) := btr ((Below.refl _ _).alloc (Nat.le_refl _) _) hb1
  have hz1 : w.heap.size < w1.heap.size := (Array.getElem?_eq_some_iff.1 hr1).1
  have HR1 := Lib.hid hr1
  clear hr0 hb1 hr1 HF
  simp only [o7]
  go_wp2_with (first | (refine wpList_store_row 53 _ _ rfl rfl rfl w1.heap.size 53 rfl (o7 2 3 3 0 0 false 117) rfl _ (heap_alloc_new w1 _) rfl info_op (o7_one _ _ _ _ _ _ _) ?_; intro w2 hh2 hg2 hz2; have B2 : Hid (Below w.heap.size w w2) := (B1.out.alloc (by omega) _).grown hg2 (by simp; omega) (fun j hj => by injection hj with hj; omega); have HR2 := Lib.hid ((hg2.block _ (by simp; omega) (by simp; omega)).trans ((Below.heap_alloc w1 _ _ hz1).trans HR1.out)); have hl2 : w1.heap.size < w2.heap.size := (by rw [hz2]; simp); have HL2 := Lib.hid hh2; clear hz2 hg2 hh2 HR1))
  have hz2 : w.heap.size < w2.heap.size := by omega
  have K : Hid (∀ W, Below w2.heap.size w2 W → W.heap[w1.heap.size]? = some (.cells (o7 2 3 3 0 0 false 117).toArray 53 (0, 0))) := fun W hW => (hW.block _ hl2).trans HL2.out
  have KR : Hid (∀ W, Below w2.heap.size w2 W → W.heap[w.heap.size]? = some (.cells #[.int .i64 0, .int .i64 0, .int .i64 0, .string ⟨#[]⟩] 25 (0, 0))) := fun W hW => (hW.block _ hz2).trans HR2.out
  have KL0 : Hid (∀ W, Below w2.heap.size w2 W → ValIn W b 0 0 n0 d0 s0) := fun W hW => (H0.out.below B2.out hb).below hW (by omega)
  have KL1 : Hid (∀ W, Below w2.heap.size w2 W → ValIn W b 4 3 n1 d1 s1) := fun W hW => (H1.out.below B2.out hb).below hW (by omega)
  have KB : Hid (∀ W, Below w2.heap.size w2 W → b < W.heap.size) := fun W hW => by have := hW.size; omega
  clear H0 H1 HL2 HR2 B1
  refine wp_loop_rounds 3 ?_
  obtain ⟨a00, a01, a02, a03⟩ := KL0.out _ (Below.refl w2.heap.size w2)
  simp only [Nat.reduceAdd] at a01 a02 a03
  rw [rounds_succ]
  go_wp2_with fail
  refine (HV0.out _).mono ?_
  rintro e w3 ⟨rfl, hb3⟩
  have B3 : Below w2.heap.size w2 w3 := btr ((Below.refl w2.heap.size w2).alloc (by have := (Below.refl w2.heap.size w2).size; omega) _) hb3
  clear hb3 HV0 a00 a01 a02 a03
  obtain ⟨a10, a11, a12, a13⟩ := KL1.out _ B3
  simp only [Nat.reduceAdd] at a11 a12 a13
  go_wp2
  rw [rounds_succ]
  go_wp2_with fail
  refine (HV1.out _).mono ?_
  rintro e w4 ⟨rfl, hb4⟩
  have B4 : Below w2.heap.size w2 w4 := btr (B3.alloc (by have := B3.size; omega) _) hb4
  clear hb4 HV1 a10 a11 a12 a13
  have hk4 := K.out _ B4
  have o0 : w4.cell? ⟨w1.heap.size, 0, none⟩ = some (.int .i64 2) := by rw [cell_of_row _ _ _ _ _ _ hk4]; rfl
  have o1 : w4.cell? ⟨w1.heap.size, 1, none⟩ = some (.int .i64 3) := by rw [cell_of_row _ _ _ _ _ _ hk4]; rfl
  have o2 : w4.cell? ⟨w1.heap.size, 2, none⟩ = some (.int .i64 3) := by rw [cell_of_row _ _ _ _ _ _ hk4]; rfl
  have o3 : w4.cell? ⟨w1.heap.size, 3, none⟩ = some (.int .i64 0) := by rw [cell_of_row _ _ _ _ _ _ hk4]; rfl
  have o4 : w4.cell? ⟨w1.heap.size, 4, none⟩ = some (.int .i64 0) := by rw [cell_of_row _ _ _ _ _ _ hk4]; rfl
  have o5 : w4.cell? ⟨w1.heap.size, 5, none⟩ = some (.bool false) := by rw [cell_of_row _ _ _ _ _ _ hk4]; rfl
  have o6 : w4.cell? ⟨w1.heap.size, 6, none⟩ = some (.func (.func 117) #[] #[]) := by rw [cell_of_row _ _ _ _ _ _ hk4]; rfl
  clear hk4
  go_wp2
  rw [rounds_succ]
  go_wp2_with fail
  refine (HSh.out _ (KB.out _ B4) (KL0.out _ B4) (KL1.out _ B4)).mono ?_
  rintro e w5 ⟨rfl, hb5⟩
  have B5 : Below w2.heap.size w2 w5 := btr B4 hb5
  clear hb5 HSh o0 o1 o2 o3 o4 o5 o6
  have hr6 := KR.out _ B5
  go_wp2_with (refine wpList_store_row 25 _ _ rfl rfl rfl w.heap.size 25 rfl [.int .i64 0, .int .i64 0, .int .i64 0, .string noS] rfl _ hr6 rfl info_val (val_one _ _ _ _) ?_; intro wz hhz hgz hzz; have HBz : Hid (Below w.heap.size w wz) := (btr B2.out B5).grown hgz (btr B2.out B5).size (fun j hj => by injection hj with hj; omega); clear hzz hgz hr6)
  exact bodyPost_ret (v := .tuple #[V 0 0 0 noS, .int .i64 12]) (results_cell_tmp Tryz.results5 _ _ w.heap.size 25 _ (0, 0) _ rfl hhz Tryz.underlying25 rfl (by rw [info_val]; rfl)) rfl ⟨rfl, HBz.out⟩
end Go.Proofs.YtnfncdalneifnaaGreatDoor
end

/- Operations done on values. -/
import Derived.Test.YtnfncdalneifnaaGreatDoorZFind
import Derived.Test.YtnfncdalneifnaaGreatDoorZSuit
import Derived.Test.YtnfncdalneifnaaGreatDoorZClo
namespace Go.Proofs.YtnfncdalneifnaaGreatDoor
open Go.RowKit Go.Deep

theorem info_val : (Tryz.prog.info? 25).map (·.size) = some 4 := by kernel_rfl
theorem val_one (k n d : Int) (s : ByteArray) : ∀ v ∈ ([.int .i64 k, .int .i64 n, .int .i64 d, .string s] : List Value), v.oneCell' = true := by
  intro v hv
  simp only [List.mem_cons, List.not_mem_nil, or_false] at hv
  rcases hv with rfl | rfl | rfl | rfl <;> rfl

set_option maxRecDepth 100000 in
set_option maxHeartbeats 4000000 in
theorem d_op9 (w : World) (b c : Nat) (n0 d0 n1 d1 : Int) (s0 s1 : ByteArray) (rk rn rd : Int) (rs : ByteArray) (hb : b < w.heap.size) (h0 : ValIn w b 0 2 n0 d0 s0) (g0 : Good 2 n0 d0 s0) (h1 : ValIn w b 4 2 n1 d1 s1) (g1 : Good 2 n1 d1 s1)
    (HS : ∀ W, b < W.heap.size → ValIn W b 0 2 n0 d0 s0 → ValIn W b 4 2 n1 d1 s1 → Calls Tryz.prog 25 #[.agg #[.int .i64 2, .int .i64 3, .int .i64 3, .int .i64 0, .int .i64 0, .bool false, .func (.func 117) #[] #[]], .slice (some ⟨b, 0, none⟩) 2 c] W fun e w' => e = .returned (.bool true) ∧ Below W.heap.size W w')
    (HR : ∀ W, b < W.heap.size → ValIn W b 0 2 n0 d0 s0 → ValIn W b 4 2 n1 d1 s1 → Calls Tryz.prog 117 #[.slice (some ⟨b, 0, none⟩) 2 c] W fun e w' => e = .returned (V rk rn rd rs) ∧ Below W.heap.size W w') :
    Calls Tryz.prog 5 #[.int .i64 9, .slice (some ⟨b, 0, none⟩) 2 c] w fun e w' => e = .returned (.tuple #[V rk rn rd rs, .int .i64 0]) ∧ Below w.heap.size w w' := by
  have HF := Lib.hid (fun W => f_op9 W)
  have H0 := Lib.hid h0
  have HV0 := Lib.hid (fun W => c_validValue 2 n0 d0 s0 W g0)
  have H1 := Lib.hid h1
  have HV1 := Lib.hid (fun W => c_validValue 2 n1 d1 s1 W g1)
  have HSh := Lib.hid HS
  have HRh := Lib.hid HR
  clear h0 g0 h1 g1 HS HR
  go_enter Tryz.func5, Tryz.ntmps5
  go_wp2_with fail
  have hr0 := heap_alloc_new w (.cells #[.int .i64 0, .int .i64 0, .int .i64 0, .string ⟨#[]⟩] 25)
  refine (HF.out _).mono ?_
  rintro e w1 ⟨rfl, hb1⟩
  have hr1 := (hb1.block _ (by simp)).trans hr0
  have B1 : Hid (Below w.heap.size w w1) := btr ((Below.refl _ _).alloc (Nat.le_refl _) _) hb1
  have hz1 : w.heap.size < w1.heap.size := (Array.getElem?_eq_some_iff.1 hr1).1
  have HR1 := Lib.hid hr1
  clear hr0 hb1 hr1 HF
  simp only [o7]
  go_wp2_with (first | (refine wpList_store_row 53 _ _ rfl rfl rfl w1.heap.size 53 rfl (o7 2 3 3 0 0 false 117) rfl _ (heap_alloc_new w1 _) rfl info_op (o7_one _ _ _ _ _ _ _) ?_; intro w2 hh2 hg2 hz2; have B2 : Hid (Below w.heap.size w w2) := (B1.out.alloc (by omega) _).grown hg2 (by simp; omega) (fun j hj => by injection hj with hj; omega); have HR2 := Lib.hid ((hg2.block _ (by simp; omega) (by simp; omega)).trans ((Below.heap_alloc w1 _ _ hz1).trans HR1.out)); have hl2 : w1.heap.size < w2.heap.size := (by rw [hz2]; simp); have HL2 := Lib.hid hh2; clear hz2 hg2 hh2 HR1))
  have hz2 : w.heap.size < w2.heap.size := by omega
  have K : Hid (∀ W, Below w2.heap.size w2 W → W.heap[w1.heap.size]? = some (.cells (o7 2 3 3 0 0 false 117).toArray 53 (0, 0))) := fun W hW => (hW.block _ hl2).trans HL2.out
  have KR : Hid (∀ W, Below w2.heap.size w2 W → W.heap[w.heap.size]? = some (.cells #[.int .i64 0, .int .i64 0, .int .i64 0, .string ⟨#[]⟩] 25 (0, 0))) := fun W hW => (hW.block _ hz2).trans HR2.out
  have KL0 : Hid (∀ W, Below w2.heap.size w2 W → ValIn W b 0 2 n0 d0 s0) := fun W hW => (H0.out.below B2.out hb).below hW (by omega)
  have KL1 : Hid (∀ W, Below w2.heap.size w2 W → ValIn W b 4 2 n1 d1 s1) := fun W hW => (H1.out.below B2.out hb).below hW (by omega)
  have KB : Hid (∀ W, Below w2.heap.size w2 W → b < W.heap.size) := fun W hW => by have := hW.size; omega
  clear H0 H1 HL2 HR2 B1
  refine wp_loop_rounds 3 ?_
  obtain ⟨a00, a01, a02, a03⟩ := KL0.out _ (Below.refl w2.heap.size w2)
  simp only [Nat.reduceAdd] at a01 a02 a03
  rw [rounds_succ]
  go_wp2_with fail
  refine (HV0.out _).mono ?_
  rintro e w3 ⟨rfl, hb3⟩
  have B3 : Below w2.heap.size w2 w3 := btr ((Below.refl w2.heap.size w2).alloc (by have := (Below.refl w2.heap.size w2).size; omega) _) hb3
  clear hb3 HV0 a00 a01 a02 a03
  obtain ⟨a10, a11, a12, a13⟩ := KL1.out _ B3
  simp only [Nat.reduceAdd] at a11 a12 a13
  go_wp2
  rw [rounds_succ]
  go_wp2_with fail
  refine (HV1.out _).mono ?_
  rintro e w4 ⟨rfl, hb4⟩
  have B4 : Below w2.heap.size w2 w4 := btr (B3.alloc (by have := B3.size; omega) _) hb4
  clear hb4 HV1 a10 a11 a12 a13
  have hk4 := K.out _ B4
  have o0 : w4.cell? ⟨w1.heap.size, 0, none⟩ = some (.int .i64 2) := by rw [cell_of_row _ _ _ _ _ _ hk4]; rfl
  have o1 : w4.cell? ⟨w1.heap.size, 1, none⟩ = some (.int .i64 3) := by rw [cell_of_row _ _ _ _ _ _ hk4]; rfl
  have o2 : w4.cell? ⟨w1.heap.size, 2, none⟩ = some (.int .i64 3) := by rw [cell_of_row _ _ _ _ _ _ hk4]; rfl
  have o3 : w4.cell? ⟨w1.heap.size, 3, none⟩ = some (.int .i64 0) := by rw [cell_of_row _ _ _ _ _ _ hk4]; rfl
  have o4 : w4.cell? ⟨w1.heap.size, 4, none⟩ = some (.int .i64 0) := by rw [cell_of_row _ _ _ _ _ _ hk4]; rfl
  have o5 : w4.cell? ⟨w1.heap.size, 5, none⟩ = some (.bool false) := by rw [cell_of_row _ _ _ _ _ _ hk4]; rfl
  have o6 : w4.cell? ⟨w1.heap.size, 6, none⟩ = some (.func (.func 117) #[] #[]) := by rw [cell_of_row _ _ _ _ _ _ hk4]; rfl
  clear hk4
  go_wp2
  rw [rounds_succ]
  go_wp2_with fail
  refine (HSh.out _ (KB.out _ B4) (KL0.out _ B4) (KL1.out _ B4)).mono ?_
  rintro e w5 ⟨rfl, hb5⟩
  have B5 : Below w2.heap.size w2 w5 := btr B4 hb5
  clear hb5 HSh o0 o1 o2 o3 o4 o5 o6
  have hk5 := K.out _ B5
  have p5 : w5.cell? ⟨w1.heap.size, 5, none⟩ = some (.bool false) := by rw [cell_of_row _ _ _ _ _ _ hk5]; rfl
  have p6 : w5.cell? ⟨w1.heap.size, 6, none⟩ = some (.func (.func 117) #[] #[]) := by rw [cell_of_row _ _ _ _ _ _ hk5]; rfl
  clear hk5
  obtain ⟨a00, a01, a02, a03⟩ := KL0.out _ B5
  simp only [Nat.reduceAdd] at a01 a02 a03
  go_wp2
  refine wp_loop_rounds 3 ?_
  rw [rounds_succ]
  go_wp2_with fail
  refine (c_isMissing2 _ _ _ _).mono ?_
  rintro e w6 ⟨rfl, hb6⟩
  have B6 : Below w2.heap.size w2 w6 := btr (B5.alloc (by have := B5.size; omega) _) hb6
  clear hb6 a00 a01 a02 a03
  obtain ⟨a10, a11, a12, a13⟩ := KL1.out _ B6
  simp only [Nat.reduceAdd] at a11 a12 a13
  go_wp2
  rw [rounds_succ]
  go_wp2_with fail
  refine (c_isMissing2 _ _ _ _).mono ?_
  rintro e w7 ⟨rfl, hb7⟩
  have B7 : Below w2.heap.size w2 w7 := btr (B6.alloc (by have := B6.size; omega) _) hb7
  clear hb7 a10 a11 a12 a13
  have hk6 := K.out _ B7
  have q6 : w7.cell? ⟨w1.heap.size, 6, none⟩ = some (.func (.func 117) #[] #[]) := by rw [cell_of_row _ _ _ _ _ _ hk6]; rfl
  clear hk6 p5 p6
  go_wp2
  rw [rounds_succ]
  go_wp2_with fail
  refine (HRh.out _ (KB.out _ B7) (KL0.out _ B7) (KL1.out _ B7)).mono ?_
  rintro e w8 ⟨rfl, hb8⟩
  have B8 : Below w2.heap.size w2 w8 := btr B7 hb8
  have hr6 := KR.out _ B8
  clear hb8 HRh q6
  go_wp2_with (refine wpList_store_row 25 _ _ rfl rfl rfl w.heap.size 25 rfl [.int .i64 rk, .int .i64 rn, .int .i64 rd, .string rs] rfl _ hr6 rfl info_val (val_one _ _ _ _) ?_; intro wz hhz hgz hzz; have HBz : Hid (Below w.heap.size w wz) := (btr B2.out B8).grown hgz (btr B2.out B8).size (fun j hj => by injection hj with hj; omega); clear hzz hgz hr6)
  exact bodyPost_ret (v := .tuple #[V rk rn rd rs, .int .i64 0]) (results_cell_tmp Tryz.results5 _ _ w.heap.size 25 _ (0, 0) _ rfl hhz Tryz.underlying25 rfl (by rw [info_val]; rfl)) rfl ⟨rfl, HBz.out⟩

set_option maxRecDepth 100000 in
set_option maxHeartbeats 4000000 in
theorem d_op12 (w : World) (b c : Nat) (n0 d0 n1 d1 : Int) (s0 s1 : ByteArray) (rk rn rd : Int) (rs : ByteArray) (hb : b < w.heap.size) (h0 : ValIn w b 0 2 n0 d0 s0) (g0 : Good 2 n0 d0 s0) (h1 : ValIn w b 4 2 n1 d1 s1) (g1 : Good 2 n1 d1 s1)
    (HS : ∀ W, b < W.heap.size → ValIn W b 0 2 n0 d0 s0 → ValIn W b 4 2 n1 d1 s1 → Calls Tryz.prog 25 #[.agg #[.int .i64 2, .int .i64 3, .int .i64 3, .int .i64 0, .int .i64 3, .bool false, .func (.func 121) #[] #[]], .slice (some ⟨b, 0, none⟩) 2 c] W fun e w' => e = .returned (.bool true) ∧ Below W.heap.size W w')
    (HR : ∀ W, b < W.heap.size → ValIn W b 0 2 n0 d0 s0 → ValIn W b 4 2 n1 d1 s1 → Calls Tryz.prog 121 #[.slice (some ⟨b, 0, none⟩) 2 c] W fun e w' => e = .returned (V rk rn rd rs) ∧ Below W.heap.size W w') :
    Calls Tryz.prog 5 #[.int .i64 12, .slice (some ⟨b, 0, none⟩) 2 c] w fun e w' => e = .returned (.tuple #[V rk rn rd rs, .int .i64 0]) ∧ Below w.heap.size w w' := by
  have HF := Lib.hid (fun W => f_op12 W)
  have H0 := Lib.hid h0
  have HV0 := Lib.hid (fun W => c_validValue 2 n0 d0 s0 W g0)
  have H1 := Lib.hid h1
  have HV1 := Lib.hid (fun W => c_validValue 2 n1 d1 s1 W g1)
  have HSh := Lib.hid HS
  have HRh := Lib.hid HR
  clear h0 g0 h1 g1 HS HR
  go_enter Tryz.func5, Tryz.ntmps5
  go_wp2_with fail
  have hr0 := heap_alloc_new w (.cells #[.int .i64 0, .int .i64 0, .int .i64 0, .string ⟨#[]⟩] 25)
  refine (HF.out _).mono ?_
  rintro e w1 ⟨rfl, hb1⟩
  have hr1 := (hb1.block _ (by simp)).trans hr0
  have B1 : Hid (Below w.heap.size w w1) := btr ((Below.refl _ _).alloc (Nat.le_refl _) _) hb1
  have hz1 : w.heap.size < w1.heap.size := (Array.getElem?_eq_some_iff.1 hr1).1
  have HR1 := Lib.hid hr1
  clear hr0 hb1 hr1 HF
  simp only [o7]
  go_wp2_with (first | (refine wpList_store_row 53 _ _ rfl rfl rfl w1.heap.size 53 rfl (o7 2 3 3 0 3 false 121) rfl _ (heap_alloc_new w1 _) rfl info_op (o7_one _ _ _ _ _ _ _) ?_; intro w2 hh2 hg2 hz2; have B2 : Hid (Below w.heap.size w w2) := (B1.out.alloc (by omega) _).grown hg2 (by simp; omega) (fun j hj => by injection hj with hj; omega); have HR2 := Lib.hid ((hg2.block _ (by simp; omega) (by simp; omega)).trans ((Below.heap_alloc w1 _ _ hz1).trans HR1.out)); have hl2 : w1.heap.size < w2.heap.size := (by rw [hz2]; simp); have HL2 := Lib.hid hh2; clear hz2 hg2 hh2 HR1))
  have hz2 : w.heap.size < w2.heap.size := by omega
  have K : Hid (∀ W, Below w2.heap.size w2 W → W.heap[w1.heap.size]? = some (.cells (o7 2 3 3 0 3 false 121).toArray 53 (0, 0))) := fun W hW => (hW.block _ hl2).trans HL2.out
  have KR : Hid (∀ W, Below w2.heap.size w2 W → W.heap[w.heap.size]? = some (.cells #[.int .i64 0, .int .i64 0, .int .i64 0, .string ⟨#[]⟩] 25 (0, 0))) := fun W hW => (hW.block _ hz2).trans HR2.out
  have KL0 : Hid (∀ W, Below w2.heap.size w2 W → ValIn W b 0 2 n0 d0 s0) := fun W hW => (H0.out.below B2.out hb).below hW (by omega)
  have KL1 : Hid (∀ W, Below w2.heap.size w2 W → ValIn W b 4 2 n1 d1 s1) := fun W hW => (H1.out.below B2.out hb).below hW (by omega)
  have KB : Hid (∀ W, Below w2.heap.size w2 W → b < W.heap.size) := fun W hW => by have := hW.size; omega
  clear H0 H1 HL2 HR2 B1
  refine wp_loop_rounds 3 ?_
  obtain ⟨a00, a01, a02, a03⟩ := KL0.out _ (Below.refl w2.heap.size w2)
  simp only [Nat.reduceAdd] at a01 a02 a03
  rw [rounds_succ]
  go_wp2_with fail
  refine (HV0.out _).mono ?_
  rintro e w3 ⟨rfl, hb3⟩
  have B3 : Below w2.heap.size w2 w3 := btr ((Below.refl w2.heap.size w2).alloc (by have := (Below.refl w2.heap.size w2).size; omega) _) hb3
  clear hb3 HV0 a00 a01 a02 a03
  obtain ⟨a10, a11, a12, a13⟩ := KL1.out _ B3
  simp only [Nat.reduceAdd] at a11 a12 a13
  go_wp2
  rw [rounds_succ]
  go_wp2_with fail
  refine (HV1.out _).mono ?_
  rintro e w4 ⟨rfl, hb4⟩
  have B4 : Below w2.heap.size w2 w4 := btr (B3.alloc (by have := B3.size; omega) _) hb4
  clear hb4 HV1 a10 a11 a12 a13
  have hk4 := K.out _ B4
  have o0 : w4.cell? ⟨w1.heap.size, 0, none⟩ = some (.int .i64 2) := by rw [cell_of_row _ _ _ _ _ _ hk4]; rfl
  have o1 : w4.cell? ⟨w1.heap.size, 1, none⟩ = some (.int .i64 3) := by rw [cell_of_row _ _ _ _ _ _ hk4]; rfl
  have o2 : w4.cell? ⟨w1.heap.size, 2, none⟩ = some (.int .i64 3) := by rw [cell_of_row _ _ _ _ _ _ hk4]; rfl
  have o3 : w4.cell? ⟨w1.heap.size, 3, none⟩ = some (.int .i64 0) := by rw [cell_of_row _ _ _ _ _ _ hk4]; rfl
  have o4 : w4.cell? ⟨w1.heap.size, 4, none⟩ = some (.int .i64 3) := by rw [cell_of_row _ _ _ _ _ _ hk4]; rfl
  have o5 : w4.cell? ⟨w1.heap.size, 5, none⟩ = some (.bool false) := by rw [cell_of_row _ _ _ _ _ _ hk4]; rfl
  have o6 : w4.cell? ⟨w1.heap.size, 6, none⟩ = some (.func (.func 121) #[] #[]) := by rw [cell_of_row _ _ _ _ _ _ hk4]; rfl
  clear hk4
  go_wp2
  rw [rounds_succ]
  go_wp2_with fail
  refine (HSh.out _ (KB.out _ B4) (KL0.out _ B4) (KL1.out _ B4)).mono ?_
  rintro e w5 ⟨rfl, hb5⟩
  have B5 : Below w2.heap.size w2 w5 := btr B4 hb5
  clear hb5 HSh o0 o1 o2 o3 o4 o5 o6
  have hk5 := K.out _ B5
  have p5 : w5.cell? ⟨w1.heap.size, 5, none⟩ = some (.bool false) := by rw [cell_of_row _ _ _ _ _ _ hk5]; rfl
  have p6 : w5.cell? ⟨w1.heap.size, 6, none⟩ = some (.func (.func 121) #[] #[]) := by rw [cell_of_row _ _ _ _ _ _ hk5]; rfl
  clear hk5
  obtain ⟨a00, a01, a02, a03⟩ := KL0.out _ B5
  simp only [Nat.reduceAdd] at a01 a02 a03
  go_wp2
  refine wp_loop_rounds 3 ?_
  rw [rounds_succ]
  go_wp2_with fail
  refine (c_isMissing2 _ _ _ _).mono ?_
  rintro e w6 ⟨rfl, hb6⟩
  have B6 : Below w2.heap.size w2 w6 := btr (B5.alloc (by have := B5.size; omega) _) hb6
  clear hb6 a00 a01 a02 a03
  obtain ⟨a10, a11, a12, a13⟩ := KL1.out _ B6
  simp only [Nat.reduceAdd] at a11 a12 a13
  go_wp2
  rw [rounds_succ]
  go_wp2_with fail
  refine (c_isMissing2 _ _ _ _).mono ?_
  rintro e w7 ⟨rfl, hb7⟩
  have B7 : Below w2.heap.size w2 w7 := btr (B6.alloc (by have := B6.size; omega) _) hb7
  clear hb7 a10 a11 a12 a13
  have hk6 := K.out _ B7
  have q6 : w7.cell? ⟨w1.heap.size, 6, none⟩ = some (.func (.func 121) #[] #[]) := by rw [cell_of_row _ _ _ _ _ _ hk6]; rfl
  clear hk6 p5 p6
  go_wp2
  rw [rounds_succ]
  go_wp2_with fail
  refine (HRh.out _ (KB.out _ B7) (KL0.out _ B7) (KL1.out _ B7)).mono ?_
  rintro e w8 ⟨rfl, hb8⟩
  have B8 : Below w2.heap.size w2 w8 := btr B7 hb8
  have hr6 := KR.out _ B8
  clear hb8 HRh q6
  go_wp2_with (refine wpList_store_row 25 _ _ rfl rfl rfl w.heap.size 25 rfl [.int .i64 rk, .int .i64 rn, .int .i64 rd, .string rs] rfl _ hr6 rfl info_val (val_one _ _ _ _) ?_; intro wz hhz hgz hzz; have HBz : Hid (Below w.heap.size w wz) := (btr B2.out B8).grown hgz (btr B2.out B8).size (fun j hj => by injection hj with hj; omega); clear hzz hgz hr6)
  exact bodyPost_ret (v := .tuple #[V rk rn rd rs, .int .i64 0]) (results_cell_tmp Tryz.results5 _ _ w.heap.size 25 _ (0, 0) _ rfl hhz Tryz.underlying25 rfl (by rw [info_val]; rfl)) rfl ⟨rfl, HBz.out⟩

set_option maxRecDepth 100000 in
set_option maxHeartbeats 4000000 in
theorem d_op19 (w : World) (b c : Nat) (k0 k1 n0 d0 n1 d1 : Int) (s0 s1 : ByteArray) (rk rn rd : Int) (rs : ByteArray) (hb : b < w.heap.size) (h0 : ValIn w b 0 k0 n0 d0 s0) (g0 : Good k0 n0 d0 s0) (h1 : ValIn w b 4 k1 n1 d1 s1) (g1 : Good k1 n1 d1 s1)
    (HS : ∀ W, b < W.heap.size → ValIn W b 0 k0 n0 d0 s0 → ValIn W b 4 k1 n1 d1 s1 → Calls Tryz.prog 25 #[.agg #[.int .i64 2, .int .i64 2, .int .i64 2, .int .i64 0, .int .i64 1, .bool true, .func (.func 128) #[] #[]], .slice (some ⟨b, 0, none⟩) 2 c] W fun e w' => e = .returned (.bool true) ∧ Below W.heap.size W w')
    (HR : ∀ W, b < W.heap.size → ValIn W b 0 k0 n0 d0 s0 → ValIn W b 4 k1 n1 d1 s1 → Calls Tryz.prog 128 #[.slice (some ⟨b, 0, none⟩) 2 c] W fun e w' => e = .returned (V rk rn rd rs) ∧ Below W.heap.size W w') :
    Calls Tryz.prog 5 #[.int .i64 19, .slice (some ⟨b, 0, none⟩) 2 c] w fun e w' => e = .returned (.tuple #[V rk rn rd rs, .int .i64 0]) ∧ Below w.heap.size w w' := by
  have HF := Lib.hid (fun W => f_op19 W)
  have H0 := Lib.hid h0
  have HV0 := Lib.hid (fun W => c_validValue k0 n0 d0 s0 W g0)
  have H1 := Lib.hid h1
  have HV1 := Lib.hid (fun W => c_validValue k1 n1 d1 s1 W g1)
  have HSh := Lib.hid HS
  have HRh := Lib.hid HR
  clear h0 g0 h1 g1 HS HR
  go_enter Tryz.func5, Tryz.ntmps5
  go_wp2_with fail
  have hr0 := heap_alloc_new w (.cells #[.int .i64 0, .int .i64 0, .int .i64 0, .string ⟨#[]⟩] 25)
  refine (HF.out _).mono ?_
  rintro e w1 ⟨rfl, hb1⟩
  have hr1 := (hb1.block _ (by simp)).trans hr0
  have B1 : Hid (Below w.heap.size w w1) := btr ((Below.refl _ _).alloc (Nat.le_refl _) _) hb1
  have hz1 : w.heap.size < w1.heap.size := (Array.getElem?_eq_some_iff.1 hr1).1
  have HR1 := Lib.hid hr1
  clear hr0 hb1 hr1 HF
  simp only [o7]
  go_wp2_with (first | (refine wpList_store_row 53 _ _ rfl rfl rfl w1.heap.size 53 rfl (o7 2 2 2 0 1 true 128) rfl _ (heap_alloc_new w1 _) rfl info_op (o7_one _ _ _ _ _ _ _) ?_; intro w2 hh2 hg2 hz2; have B2 : Hid (Below w.heap.size w w2) := (B1.out.alloc (by omega) _).grown hg2 (by simp; omega) (fun j hj => by injection hj with hj; omega); have HR2 := Lib.hid ((hg2.block _ (by simp; omega) (by simp; omega)).trans ((Below.heap_alloc w1 _ _ hz1).trans HR1.out)); have hl2 : w1.heap.size < w2.heap.size := (by rw [hz2]; simp); have HL2 := Lib.hid hh2; clear hz2 hg2 hh2 HR1))
  have hz2 : w.heap.size < w2.heap.size := by omega
  have K : Hid (∀ W, Below w2.heap.size w2 W → W.heap[w1.heap.size]? = some (.cells (o7 2 2 2 0 1 true 128).toArray 53 (0, 0))) := fun W hW => (hW.block _ hl2).trans HL2.out
  have KR : Hid (∀ W, Below w2.heap.size w2 W → W.heap[w.heap.size]? = some (.cells #[.int .i64 0, .int .i64 0, .int .i64 0, .string ⟨#[]⟩] 25 (0, 0))) := fun W hW => (hW.block _ hz2).trans HR2.out
  have KL0 : Hid (∀ W, Below w2.heap.size w2 W → ValIn W b 0 k0 n0 d0 s0) := fun W hW => (H0.out.below B2.out hb).below hW (by omega)
  have KL1 : Hid (∀ W, Below w2.heap.size w2 W → ValIn W b 4 k1 n1 d1 s1) := fun W hW => (H1.out.below B2.out hb).below hW (by omega)
  have KB : Hid (∀ W, Below w2.heap.size w2 W → b < W.heap.size) := fun W hW => by have := hW.size; omega
  clear H0 H1 HL2 HR2 B1
  refine wp_loop_rounds 3 ?_
  obtain ⟨a00, a01, a02, a03⟩ := KL0.out _ (Below.refl w2.heap.size w2)
  simp only [Nat.reduceAdd] at a01 a02 a03
  rw [rounds_succ]
  go_wp2_with fail
  refine (HV0.out _).mono ?_
  rintro e w3 ⟨rfl, hb3⟩
  have B3 : Below w2.heap.size w2 w3 := btr ((Below.refl w2.heap.size w2).alloc (by have := (Below.refl w2.heap.size w2).size; omega) _) hb3
  clear hb3 HV0 a00 a01 a02 a03
  obtain ⟨a10, a11, a12, a13⟩ := KL1.out _ B3
  simp only [Nat.reduceAdd] at a11 a12 a13
  go_wp2
  rw [rounds_succ]
  go_wp2_with fail
  refine (HV1.out _).mono ?_
  rintro e w4 ⟨rfl, hb4⟩
  have B4 : Below w2.heap.size w2 w4 := btr (B3.alloc (by have := B3.size; omega) _) hb4
  clear hb4 HV1 a10 a11 a12 a13
  have hk4 := K.out _ B4
  have o0 : w4.cell? ⟨w1.heap.size, 0, none⟩ = some (.int .i64 2) := by rw [cell_of_row _ _ _ _ _ _ hk4]; rfl
  have o1 : w4.cell? ⟨w1.heap.size, 1, none⟩ = some (.int .i64 2) := by rw [cell_of_row _ _ _ _ _ _ hk4]; rfl
  have o2 : w4.cell? ⟨w1.heap.size, 2, none⟩ = some (.int .i64 2) := by rw [cell_of_row _ _ _ _ _ _ hk4]; rfl
  have o3 : w4.cell? ⟨w1.heap.size, 3, none⟩ = some (.int .i64 0) := by rw [cell_of_row _ _ _ _ _ _ hk4]; rfl
  have o4 : w4.cell? ⟨w1.heap.size, 4, none⟩ = some (.int .i64 1) := by rw [cell_of_row _ _ _ _ _ _ hk4]; rfl
  have o5 : w4.cell? ⟨w1.heap.size, 5, none⟩ = some (.bool true) := by rw [cell_of_row _ _ _ _ _ _ hk4]; rfl
  have o6 : w4.cell? ⟨w1.heap.size, 6, none⟩ = some (.func (.func 128) #[] #[]) := by rw [cell_of_row _ _ _ _ _ _ hk4]; rfl
  clear hk4
  go_wp2
  rw [rounds_succ]
  go_wp2_with fail
  refine (HSh.out _ (KB.out _ B4) (KL0.out _ B4) (KL1.out _ B4)).mono ?_
  rintro e w5 ⟨rfl, hb5⟩
  have B5 : Below w2.heap.size w2 w5 := btr B4 hb5
  clear hb5 HSh o0 o1 o2 o3 o4 o5 o6
  have hk5 := K.out _ B5
  have p5 : w5.cell? ⟨w1.heap.size, 5, none⟩ = some (.bool true) := by rw [cell_of_row _ _ _ _ _ _ hk5]; rfl
  have p6 : w5.cell? ⟨w1.heap.size, 6, none⟩ = some (.func (.func 128) #[] #[]) := by rw [cell_of_row _ _ _ _ _ _ hk5]; rfl
  clear hk5
  go_wp2_with fail
  refine (HRh.out _ (KB.out _ B5) (KL0.out _ B5) (KL1.out _ B5)).mono ?_
  rintro e w6 ⟨rfl, hb6⟩
  have B6 : Below w2.heap.size w2 w6 := btr B5 hb6
  have hr6 := KR.out _ B6
  clear hb6 HRh p5 p6
  go_wp2_with (refine wpList_store_row 25 _ _ rfl rfl rfl w.heap.size 25 rfl [.int .i64 rk, .int .i64 rn, .int .i64 rd, .string rs] rfl _ hr6 rfl info_val (val_one _ _ _ _) ?_; intro wz hhz hgz hzz; have HBz : Hid (Below w.heap.size w wz) := (btr B2.out B6).grown hgz (btr B2.out B6).size (fun j hj => by injection hj with hj; omega); clear hzz hgz hr6)
  exact bodyPost_ret (v := .tuple #[V rk rn rd rs, .int .i64 0]) (results_cell_tmp Tryz.results5 _ _ w.heap.size 25 _ (0, 0) _ rfl hhz Tryz.underlying25 rfl (by rw [info_val]; rfl)) rfl ⟨rfl, HBz.out⟩

set_option maxRecDepth 100000 in
set_option maxHeartbeats 4000000 in
theorem d_op21 (w : World) (b c : Nat) (k0 k1 n0 d0 n1 d1 : Int) (s0 s1 : ByteArray) (rk rn rd : Int) (rs : ByteArray) (hb : b < w.heap.size) (h0 : ValIn w b 0 k0 n0 d0 s0) (g0 : Good k0 n0 d0 s0) (h1 : ValIn w b 4 k1 n1 d1 s1) (g1 : Good k1 n1 d1 s1)
    (HS : ∀ W, b < W.heap.size → ValIn W b 0 k0 n0 d0 s0 → ValIn W b 4 k1 n1 d1 s1 → Calls Tryz.prog 25 #[.agg #[.int .i64 2, .int .i64 4, .int .i64 4, .int .i64 0, .int .i64 0, .bool true, .func (.func 131) #[] #[]], .slice (some ⟨b, 0, none⟩) 2 c] W fun e w' => e = .returned (.bool true) ∧ Below W.heap.size W w')
    (HR : ∀ W, b < W.heap.size → ValIn W b 0 k0 n0 d0 s0 → ValIn W b 4 k1 n1 d1 s1 → Calls Tryz.prog 131 #[.slice (some ⟨b, 0, none⟩) 2 c] W fun e w' => e = .returned (V rk rn rd rs) ∧ Below W.heap.size W w') :
    Calls Tryz.prog 5 #[.int .i64 21, .slice (some ⟨b, 0, none⟩) 2 c] w fun e w' => e = .returned (.tuple #[V rk rn rd rs, .int .i64 0]) ∧ Below w.heap.size w w' := by
  have HF := Lib.hid (fun W => f_op21 W)
  have H0 := Lib.hid h0
  have HV0 := Lib.hid (fun W => c_validValue k0 n0 d0 s0 W g0)
  have H1 := Lib.hid h1
  have HV1 := Lib.hid (fun W => c_validValue k1 n1 d1 s1 W g1)
  have HSh := Lib.hid HS
  have HRh := Lib.hid HR
  clear h0 g0 h1 g1 HS HR
  go_enter Tryz.func5, Tryz.ntmps5
  go_wp2_with fail
  have hr0 := heap_alloc_new w (.cells #[.int .i64 0, .int .i64 0, .int .i64 0, .string ⟨#[]⟩] 25)
  refine (HF.out _).mono ?_
  rintro e w1 ⟨rfl, hb1⟩
  have hr1 := (hb1.block _ (by simp)).trans hr0
  have B1 : Hid (Below w.heap.size w w1) := btr ((Below.refl _ _).alloc (Nat.le_refl _) _) hb1
  have hz1 : w.heap.size < w1.heap.size := (Array.getElem?_eq_some_iff.1 hr1).1
  have HR1 := Lib.hid hr1
  clear hr0 hb1 hr1 HF
  simp only [o7]
  go_wp2_with (first | (refine wpList_store_row 53 _ _ rfl rfl rfl w1.heap.size 53 rfl (o7 2 4 4 0 0 true 131) rfl _ (heap_alloc_new w1 _) rfl info_op (o7_one _ _ _ _ _ _ _) ?_; intro w2 hh2 hg2 hz2; have B2 : Hid (Below w.heap.size w w2) := (B1.out.alloc (by omega) _).grown hg2 (by simp; omega) (fun j hj => by injection hj with hj; omega); have HR2 := Lib.hid ((hg2.block _ (by simp; omega) (by simp; omega)).trans ((Below.heap_alloc w1 _ _ hz1).trans HR1.out)); have hl2 : w1.heap.size < w2.heap.size := (by rw [hz2]; simp); have HL2 := Lib.hid hh2; clear hz2 hg2 hh2 HR1))
  have hz2 : w.heap.size < w2.heap.size := by omega
  have K : Hid (∀ W, Below w2.heap.size w2 W → W.heap[w1.heap.size]? = some (.cells (o7 2 4 4 0 0 true 131).toArray 53 (0, 0))) := fun W hW => (hW.block _ hl2).trans HL2.out
  have KR : Hid (∀ W, Below w2.heap.size w2 W → W.heap[w.heap.size]? = some (.cells #[.int .i64 0, .int .i64 0, .int .i64 0, .string ⟨#[]⟩] 25 (0, 0))) := fun W hW => (hW.block _ hz2).trans HR2.out
  have KL0 : Hid (∀ W, Below w2.heap.size w2 W → ValIn W b 0 k0 n0 d0 s0) := fun W hW => (H0.out.below B2.out hb).below hW (by omega)
  have KL1 : Hid (∀ W, Below w2.heap.size w2 W → ValIn W b 4 k1 n1 d1 s1) := fun W hW => (H1.out.below B2.out hb).below hW (by omega)
  have KB : Hid (∀ W, Below w2.heap.size w2 W → b < W.heap.size) := fun W hW => by have := hW.size; omega
  clear H0 H1 HL2 HR2 B1
  refine wp_loop_rounds 3 ?_
  obtain ⟨a00, a01, a02, a03⟩ := KL0.out _ (Below.refl w2.heap.size w2)
  simp only [Nat.reduceAdd] at a01 a02 a03
  rw [rounds_succ]
  go_wp2_with fail
  refine (HV0.out _).mono ?_
  rintro e w3 ⟨rfl, hb3⟩
  have B3 : Below w2.heap.size w2 w3 := btr ((Below.refl w2.heap.size w2).alloc (by have := (Below.refl w2.heap.size w2).size; omega) _) hb3
  clear hb3 HV0 a00 a01 a02 a03
  obtain ⟨a10, a11, a12, a13⟩ := KL1.out _ B3
  simp only [Nat.reduceAdd] at a11 a12 a13
  go_wp2
  rw [rounds_succ]
  go_wp2_with fail
  refine (HV1.out _).mono ?_
  rintro e w4 ⟨rfl, hb4⟩
  have B4 : Below w2.heap.size w2 w4 := btr (B3.alloc (by have := B3.size; omega) _) hb4
  clear hb4 HV1 a10 a11 a12 a13
  have hk4 := K.out _ B4
  have o0 : w4.cell? ⟨w1.heap.size, 0, none⟩ = some (.int .i64 2) := by rw [cell_of_row _ _ _ _ _ _ hk4]; rfl
  have o1 : w4.cell? ⟨w1.heap.size, 1, none⟩ = some (.int .i64 4) := by rw [cell_of_row _ _ _ _ _ _ hk4]; rfl
  have o2 : w4.cell? ⟨w1.heap.size, 2, none⟩ = some (.int .i64 4) := by rw [cell_of_row _ _ _ _ _ _ hk4]; rfl
  have o3 : w4.cell? ⟨w1.heap.size, 3, none⟩ = some (.int .i64 0) := by rw [cell_of_row _ _ _ _ _ _ hk4]; rfl
  have o4 : w4.cell? ⟨w1.heap.size, 4, none⟩ = some (.int .i64 0) := by rw [cell_of_row _ _ _ _ _ _ hk4]; rfl
  have o5 : w4.cell? ⟨w1.heap.size, 5, none⟩ = some (.bool true) := by rw [cell_of_row _ _ _ _ _ _ hk4]; rfl
  have o6 : w4.cell? ⟨w1.heap.size, 6, none⟩ = some (.func (.func 131) #[] #[]) := by rw [cell_of_row _ _ _ _ _ _ hk4]; rfl
  clear hk4
  go_wp2
  rw [rounds_succ]
  go_wp2_with fail
  refine (HSh.out _ (KB.out _ B4) (KL0.out _ B4) (KL1.out _ B4)).mono ?_
  rintro e w5 ⟨rfl, hb5⟩
  have B5 : Below w2.heap.size w2 w5 := btr B4 hb5
  clear hb5 HSh o0 o1 o2 o3 o4 o5 o6
  have hk5 := K.out _ B5
  have p5 : w5.cell? ⟨w1.heap.size, 5, none⟩ = some (.bool true) := by rw [cell_of_row _ _ _ _ _ _ hk5]; rfl
  have p6 : w5.cell? ⟨w1.heap.size, 6, none⟩ = some (.func (.func 131) #[] #[]) := by rw [cell_of_row _ _ _ _ _ _ hk5]; rfl
  clear hk5
  go_wp2_with fail
  refine (HRh.out _ (KB.out _ B5) (KL0.out _ B5) (KL1.out _ B5)).mono ?_
  rintro e w6 ⟨rfl, hb6⟩
  have B6 : Below w2.heap.size w2 w6 := btr B5 hb6
  have hr6 := KR.out _ B6
  clear hb6 HRh p5 p6
  go_wp2_with (refine wpList_store_row 25 _ _ rfl rfl rfl w.heap.size 25 rfl [.int .i64 rk, .int .i64 rn, .int .i64 rd, .string rs] rfl _ hr6 rfl info_val (val_one _ _ _ _) ?_; intro wz hhz hgz hzz; have HBz : Hid (Below w.heap.size w wz) := (btr B2.out B6).grown hgz (btr B2.out B6).size (fun j hj => by injection hj with hj; omega); clear hzz hgz hr6)
  exact bodyPost_ret (v := .tuple #[V rk rn rd rs, .int .i64 0]) (results_cell_tmp Tryz.results5 _ _ w.heap.size 25 _ (0, 0) _ rfl hhz Tryz.underlying25 rfl (by rw [info_val]; rfl)) rfl ⟨rfl, HBz.out⟩

set_option maxRecDepth 100000 in
set_option maxHeartbeats 4000000 in
theorem d_op22 (w : World) (b c : Nat) (k0 k1 k2 n0 d0 n1 d1 n2 d2 : Int) (s0 s1 s2 : ByteArray) (rk rn rd : Int) (rs : ByteArray) (hb : b < w.heap.size) (h0 : ValIn w b 0 k0 n0 d0 s0) (g0 : Good k0 n0 d0 s0) (h1 : ValIn w b 4 k1 n1 d1 s1) (g1 : Good k1 n1 d1 s1) (h2 : ValIn w b 8 k2 n2 d2 s2) (g2 : Good k2 n2 d2 s2)
    (HS : ∀ W, b < W.heap.size → ValIn W b 0 k0 n0 d0 s0 → ValIn W b 4 k1 n1 d1 s1 → ValIn W b 8 k2 n2 d2 s2 → Calls Tryz.prog 25 #[.agg #[.int .i64 3, .int .i64 2, .int .i64 4, .int .i64 4, .int .i64 0, .bool true, .func (.func 133) #[] #[]], .slice (some ⟨b, 0, none⟩) 3 c] W fun e w' => e = .returned (.bool true) ∧ Below W.heap.size W w')
    (HR : ∀ W, b < W.heap.size → ValIn W b 0 k0 n0 d0 s0 → ValIn W b 4 k1 n1 d1 s1 → ValIn W b 8 k2 n2 d2 s2 → Calls Tryz.prog 133 #[.slice (some ⟨b, 0, none⟩) 3 c] W fun e w' => e = .returned (V rk rn rd rs) ∧ Below W.heap.size W w') :
    Calls Tryz.prog 5 #[.int .i64 22, .slice (some ⟨b, 0, none⟩) 3 c] w fun e w' => e = .returned (.tuple #[V rk rn rd rs, .int .i64 0]) ∧ Below w.heap.size w w' := by
  have HF := Lib.hid (fun W => f_op22 W)
  have H0 := Lib.hid h0
  have HV0 := Lib.hid (fun W => c_validValue k0 n0 d0 s0 W g0)
  have H1 := Lib.hid h1
  have HV1 := Lib.hid (fun W => c_validValue k1 n1 d1 s1 W g1)
  have H2 := Lib.hid h2
  have HV2 := Lib.hid (fun W => c_validValue k2 n2 d2 s2 W g2)
  have HSh := Lib.hid HS
  have HRh := Lib.hid HR
  clear h0 g0 h1 g1 h2 g2 HS HR
  go_enter Tryz.func5, Tryz.ntmps5
  go_wp2_with fail
  have hr0 := heap_alloc_new w (.cells #[.int .i64 0, .int .i64 0, .int .i64 0, .string ⟨#[]⟩] 25)
  refine (HF.out _).mono ?_
  rintro e w1 ⟨rfl, hb1⟩
  have hr1 := (hb1.block _ (by simp)).trans hr0
  have B1 : Hid (Below w.heap.size w w1) := btr ((Below.refl _ _).alloc (Nat.le_refl _) _) hb1
  have hz1 : w.heap.size < w1.heap.size := (Array.getElem?_eq_some_iff.1 hr1).1
  have HR1 := Lib.hid hr1
  clear hr0 hb1 hr1 HF
  simp only [o7]
  go_wp2_with (first | (refine wpList_store_row 53 _ _ rfl rfl rfl w1.heap.size 53 rfl (o7 3 2 4 4 0 true 133) rfl _ (heap_alloc_new w1 _) rfl info_op (o7_one _ _ _ _ _ _ _) ?_; intro w2 hh2 hg2 hz2; have B2 : Hid (Below w.heap.size w w2) := (B1.out.alloc (by omega) _).grown hg2 (by simp; omega) (fun j hj => by injection hj with hj; omega); have HR2 := Lib.hid ((hg2.block _ (by simp; omega) (by simp; omega)).trans ((Below.heap_alloc w1 _ _ hz1).trans HR1.out)); have hl2 : w1.heap.size < w2.heap.size := (by rw [hz2]; simp); have HL2 := Lib.hid hh2; clear hz2 hg2 hh2 HR1))
  have hz2 : w.heap.size < w2.heap.size := by omega
  have K : Hid (∀ W, Below w2.heap.size w2 W → W.heap[w1.heap.size]? = some (.cells (o7 3 2 4 4 0 true 133).toArray 53 (0, 0))) := fun W hW => (hW.block _ hl2).trans HL2.out
  have KR : Hid (∀ W, Below w2.heap.size w2 W → W.heap[w.heap.size]? = some (.cells #[.int .i64 0, .int .i64 0, .int .i64 0, .string ⟨#[]⟩] 25 (0, 0))) := fun W hW => (hW.block _ hz2).trans HR2.out
  have KL0 : Hid (∀ W, Below w2.heap.size w2 W → ValIn W b 0 k0 n0 d0 s0) := fun W hW => (H0.out.below B2.out hb).below hW (by omega)
  have KL1 : Hid (∀ W, Below w2.heap.size w2 W → ValIn W b 4 k1 n1 d1 s1) := fun W hW => (H1.out.below B2.out hb).below hW (by omega)
  have KL2 : Hid (∀ W, Below w2.heap.size w2 W → ValIn W b 8 k2 n2 d2 s2) := fun W hW => (H2.out.below B2.out hb).below hW (by omega)
  have KB : Hid (∀ W, Below w2.heap.size w2 W → b < W.heap.size) := fun W hW => by have := hW.size; omega
  clear H0 H1 H2 HL2 HR2 B1
  refine wp_loop_rounds 4 ?_
  obtain ⟨a00, a01, a02, a03⟩ := KL0.out _ (Below.refl w2.heap.size w2)
  simp only [Nat.reduceAdd] at a01 a02 a03
  rw [rounds_succ]
  go_wp2_with fail
  refine (HV0.out _).mono ?_
  rintro e w3 ⟨rfl, hb3⟩
  have B3 : Below w2.heap.size w2 w3 := btr ((Below.refl w2.heap.size w2).alloc (by have := (Below.refl w2.heap.size w2).size; omega) _) hb3
  clear hb3 HV0 a00 a01 a02 a03
  obtain ⟨a10, a11, a12, a13⟩ := KL1.out _ B3
  simp only [Nat.reduceAdd] at a11 a12 a13
  go_wp2
  rw [rounds_succ]
  go_wp2_with fail
  refine (HV1.out _).mono ?_
  rintro e w4 ⟨rfl, hb4⟩
  have B4 : Below w2.heap.size w2 w4 := btr (B3.alloc (by have := B3.size; omega) _) hb4
  clear hb4 HV1 a10 a11 a12 a13
  obtain ⟨a20, a21, a22, a23⟩ := KL2.out _ B4
  simp only [Nat.reduceAdd] at a21 a22 a23
  go_wp2
  rw [rounds_succ]
  go_wp2_with fail
  refine (HV2.out _).mono ?_
  rintro e w5 ⟨rfl, hb5⟩
  have B5 : Below w2.heap.size w2 w5 := btr (B4.alloc (by have := B4.size; omega) _) hb5
  clear hb5 HV2 a20 a21 a22 a23
  have hk4 := K.out _ B5
  have o0 : w5.cell? ⟨w1.heap.size, 0, none⟩ = some (.int .i64 3) := by rw [cell_of_row _ _ _ _ _ _ hk4]; rfl
  have o1 : w5.cell? ⟨w1.heap.size, 1, none⟩ = some (.int .i64 2) := by rw [cell_of_row _ _ _ _ _ _ hk4]; rfl
  have o2 : w5.cell? ⟨w1.heap.size, 2, none⟩ = some (.int .i64 4) := by rw [cell_of_row _ _ _ _ _ _ hk4]; rfl
  have o3 : w5.cell? ⟨w1.heap.size, 3, none⟩ = some (.int .i64 4) := by rw [cell_of_row _ _ _ _ _ _ hk4]; rfl
  have o4 : w5.cell? ⟨w1.heap.size, 4, none⟩ = some (.int .i64 0) := by rw [cell_of_row _ _ _ _ _ _ hk4]; rfl
  have o5 : w5.cell? ⟨w1.heap.size, 5, none⟩ = some (.bool true) := by rw [cell_of_row _ _ _ _ _ _ hk4]; rfl
  have o6 : w5.cell? ⟨w1.heap.size, 6, none⟩ = some (.func (.func 133) #[] #[]) := by rw [cell_of_row _ _ _ _ _ _ hk4]; rfl
  clear hk4
  go_wp2
  rw [rounds_succ]
  go_wp2_with fail
  refine (HSh.out _ (KB.out _ B5) (KL0.out _ B5) (KL1.out _ B5) (KL2.out _ B5)).mono ?_
  rintro e w6 ⟨rfl, hb6⟩
  have B6 : Below w2.heap.size w2 w6 := btr B5 hb6
  clear hb6 HSh o0 o1 o2 o3 o4 o5 o6
  have hk5 := K.out _ B6
  have p5 : w6.cell? ⟨w1.heap.size, 5, none⟩ = some (.bool true) := by rw [cell_of_row _ _ _ _ _ _ hk5]; rfl
  have p6 : w6.cell? ⟨w1.heap.size, 6, none⟩ = some (.func (.func 133) #[] #[]) := by rw [cell_of_row _ _ _ _ _ _ hk5]; rfl
  clear hk5
  go_wp2_with fail
  refine (HRh.out _ (KB.out _ B6) (KL0.out _ B6) (KL1.out _ B6) (KL2.out _ B6)).mono ?_
  rintro e w7 ⟨rfl, hb7⟩
  have B7 : Below w2.heap.size w2 w7 := btr B6 hb7
  have hr6 := KR.out _ B7
  clear hb7 HRh p5 p6
  go_wp2_with (refine wpList_store_row 25 _ _ rfl rfl rfl w.heap.size 25 rfl [.int .i64 rk, .int .i64 rn, .int .i64 rd, .string rs] rfl _ hr6 rfl info_val (val_one _ _ _ _) ?_; intro wz hhz hgz hzz; have HBz : Hid (Below w.heap.size w wz) := (btr B2.out B7).grown hgz (btr B2.out B7).size (fun j hj => by injection hj with hj; omega); clear hzz hgz hr6)
  exact bodyPost_ret (v := .tuple #[V rk rn rd rs, .int .i64 0]) (results_cell_tmp Tryz.results5 _ _ w.heap.size 25 _ (0, 0) _ rfl hhz Tryz.underlying25 rfl (by rw [info_val]; rfl)) rfl ⟨rfl, HBz.out⟩
end Go.Proofs.YtnfncdalneifnaaGreatDoor

/- Finding an operation by its number and its number of operands: the others. -/
import Derived.Test.YtoiihehlgfgikaaGreatDoorZFind
import Derived.Test.YtoiihehlgfgikaaGreatDoorZTyp

/- Finding an operation by its number and its number of operands: the others. -/
section
namespace Go.Proofs.YtoiihehlgfgikaaGreatDoor
open Go.RowKit Go.Deep

set_option maxRecDepth 100000 in
set_option maxHeartbeats 4000000 in
theorem f_op5 (w : World) :
    Calls Tryz.prog 76 #[.int .i64 5, .int .i64 1] w fun e w' => e = .returned (.tuple #[.agg (o7 1 3 0 0 0 false 153).toArray, .bool true]) ∧ Below w.heap.size w w' := by
  have HO := Lib.hid (fun W => c_operations W)
  go_enter Tryz.func76, Tryz.ntmps76
  go_wp2_with fail
  have hr0 := heap_alloc_new w (.cells z7.toArray 118)
  refine (HO.out _).mono ?_
  rintro e w1 ⟨rfl, hb1⟩
  have hr1 : w1.heap[w.heap.size]? = some (.cells z7.toArray 118 (0, 0)) := (hb1.block _ (by simp)).trans hr0
  have hlt : w.heap.size < w1.heap.size := (Array.getElem?_eq_some_iff.1 hr1).1
  have HB1 : Hid (Below w.heap.size w w1) := btr ((Below.refl _ _).alloc (Nat.le_refl _) _) hb1
  clear hr0 hb1
  generalize HT : tab.toArray = TT
  have HH := Lib.hid HT
  clear HT HO
  go_wp2_with (first | (refine wpList_store_row 158 _ _ rfl rfl rfl w1.heap.size 158 rfl tab (congrArg Value.agg HH.out.symm) _ (heap_alloc_new w1 _) (by kernel_rfl) info_tab tab_one ?_; intro w2 hh2 hg2 hz2; have hr2 : w2.heap[w.heap.size]? = some (.cells z7.toArray 118 (0, 0)) := (hg2.block _ (by simp; omega) (by simp; omega)).trans ((Below.heap_alloc w1 _ _ hlt).trans hr1); have HB2 : Hid (Below w.heap.size w w2) := (HB1.out.alloc (by omega) _).grown hg2 (by simp; omega) (fun k hk => by injection hk with hk; omega); clear hz2 hg2 hr1; have c0 : w2.cell? ⟨w1.heap.size, 35, none⟩ = some (.int .i64 1) := (by rw [cell_of_row _ _ _ _ _ _ hh2]; kernel_rfl); have c1 : w2.cell? ⟨w1.heap.size, 36, none⟩ = some (.int .i64 3) := (by rw [cell_of_row _ _ _ _ _ _ hh2]; kernel_rfl); have c2 : w2.cell? ⟨w1.heap.size, 37, none⟩ = some (.int .i64 0) := (by rw [cell_of_row _ _ _ _ _ _ hh2]; kernel_rfl); have c3 : w2.cell? ⟨w1.heap.size, 38, none⟩ = some (.int .i64 0) := (by rw [cell_of_row _ _ _ _ _ _ hh2]; kernel_rfl); have c4 : w2.cell? ⟨w1.heap.size, 39, none⟩ = some (.int .i64 0) := (by rw [cell_of_row _ _ _ _ _ _ hh2]; kernel_rfl); have c5 : w2.cell? ⟨w1.heap.size, 40, none⟩ = some (.bool false) := (by rw [cell_of_row _ _ _ _ _ _ hh2]; kernel_rfl); have c6 : w2.cell? ⟨w1.heap.size, 41, none⟩ = some (.func (.func 153) #[] #[]) := (by rw [cell_of_row _ _ _ _ _ _ hh2]; kernel_rfl)) | (refine wpList_store_row 118 _ _ rfl rfl rfl w.heap.size 118 rfl (o7 1 3 0 0 0 false 153) rfl _ hr2 rfl info_op (o7_one _ _ _ _ _ _ _) ?_; intro w3 hh3 hg3 hz3; have HB3 : Hid (Below w.heap.size w w3) := HB2.out.grown hg3 (HB2.out.size) (fun k hk => by injection hk with hk; omega); clear hz3 hg3))
  refine bodyPost_ret (v := .tuple #[.agg (o7 1 3 0 0 0 false 153).toArray, .bool true]) (results_cell_tmp Tryz.results76 _ _ w.heap.size 118 _ (0, 0) _ rfl hh3 Tryz.underlying118 rfl (by rw [info_op]; rfl)) rfl ⟨rfl, HB3.out⟩

set_option maxRecDepth 100000 in
set_option maxHeartbeats 4000000 in
theorem f_op6 (w : World) :
    Calls Tryz.prog 76 #[.int .i64 6, .int .i64 1] w fun e w' => e = .returned (.tuple #[.agg (o7 1 3 0 0 2 false 156).toArray, .bool true]) ∧ Below w.heap.size w w' := by
  have HO := Lib.hid (fun W => c_operations W)
  go_enter Tryz.func76, Tryz.ntmps76
  go_wp2_with fail
  have hr0 := heap_alloc_new w (.cells z7.toArray 118)
  refine (HO.out _).mono ?_
  rintro e w1 ⟨rfl, hb1⟩
  have hr1 : w1.heap[w.heap.size]? = some (.cells z7.toArray 118 (0, 0)) := (hb1.block _ (by simp)).trans hr0
  have hlt : w.heap.size < w1.heap.size := (Array.getElem?_eq_some_iff.1 hr1).1
  have HB1 : Hid (Below w.heap.size w w1) := btr ((Below.refl _ _).alloc (Nat.le_refl _) _) hb1
  clear hr0 hb1
  generalize HT : tab.toArray = TT
  have HH := Lib.hid HT
  clear HT HO
  go_wp2_with (first | (refine wpList_store_row 158 _ _ rfl rfl rfl w1.heap.size 158 rfl tab (congrArg Value.agg HH.out.symm) _ (heap_alloc_new w1 _) (by kernel_rfl) info_tab tab_one ?_; intro w2 hh2 hg2 hz2; have hr2 : w2.heap[w.heap.size]? = some (.cells z7.toArray 118 (0, 0)) := (hg2.block _ (by simp; omega) (by simp; omega)).trans ((Below.heap_alloc w1 _ _ hlt).trans hr1); have HB2 : Hid (Below w.heap.size w w2) := (HB1.out.alloc (by omega) _).grown hg2 (by simp; omega) (fun k hk => by injection hk with hk; omega); clear hz2 hg2 hr1; have c0 : w2.cell? ⟨w1.heap.size, 42, none⟩ = some (.int .i64 1) := (by rw [cell_of_row _ _ _ _ _ _ hh2]; kernel_rfl); have c1 : w2.cell? ⟨w1.heap.size, 43, none⟩ = some (.int .i64 3) := (by rw [cell_of_row _ _ _ _ _ _ hh2]; kernel_rfl); have c2 : w2.cell? ⟨w1.heap.size, 44, none⟩ = some (.int .i64 0) := (by rw [cell_of_row _ _ _ _ _ _ hh2]; kernel_rfl); have c3 : w2.cell? ⟨w1.heap.size, 45, none⟩ = some (.int .i64 0) := (by rw [cell_of_row _ _ _ _ _ _ hh2]; kernel_rfl); have c4 : w2.cell? ⟨w1.heap.size, 46, none⟩ = some (.int .i64 2) := (by rw [cell_of_row _ _ _ _ _ _ hh2]; kernel_rfl); have c5 : w2.cell? ⟨w1.heap.size, 47, none⟩ = some (.bool false) := (by rw [cell_of_row _ _ _ _ _ _ hh2]; kernel_rfl); have c6 : w2.cell? ⟨w1.heap.size, 48, none⟩ = some (.func (.func 156) #[] #[]) := (by rw [cell_of_row _ _ _ _ _ _ hh2]; kernel_rfl)) | (refine wpList_store_row 118 _ _ rfl rfl rfl w.heap.size 118 rfl (o7 1 3 0 0 2 false 156) rfl _ hr2 rfl info_op (o7_one _ _ _ _ _ _ _) ?_; intro w3 hh3 hg3 hz3; have HB3 : Hid (Below w.heap.size w w3) := HB2.out.grown hg3 (HB2.out.size) (fun k hk => by injection hk with hk; omega); clear hz3 hg3))
  refine bodyPost_ret (v := .tuple #[.agg (o7 1 3 0 0 2 false 156).toArray, .bool true]) (results_cell_tmp Tryz.results76 _ _ w.heap.size 118 _ (0, 0) _ rfl hh3 Tryz.underlying118 rfl (by rw [info_op]; rfl)) rfl ⟨rfl, HB3.out⟩

set_option maxRecDepth 100000 in
set_option maxHeartbeats 4000000 in
theorem f_op7 (w : World) :
    Calls Tryz.prog 76 #[.int .i64 7, .int .i64 1] w fun e w' => e = .returned (.tuple #[.agg (o7 1 1 0 0 1 true 157).toArray, .bool true]) ∧ Below w.heap.size w w' := by
  have HO := Lib.hid (fun W => c_operations W)
  go_enter Tryz.func76, Tryz.ntmps76
  go_wp2_with fail
  have hr0 := heap_alloc_new w (.cells z7.toArray 118)
  refine (HO.out _).mono ?_
  rintro e w1 ⟨rfl, hb1⟩
  have hr1 : w1.heap[w.heap.size]? = some (.cells z7.toArray 118 (0, 0)) := (hb1.block _ (by simp)).trans hr0
  have hlt : w.heap.size < w1.heap.size := (Array.getElem?_eq_some_iff.1 hr1).1
  have HB1 : Hid (Below w.heap.size w w1) := btr ((Below.refl _ _).alloc (Nat.le_refl _) _) hb1
  clear hr0 hb1
  generalize HT : tab.toArray = TT
  have HH := Lib.hid HT
  clear HT HO
  go_wp2_with (first | (refine wpList_store_row 158 _ _ rfl rfl rfl w1.heap.size 158 rfl tab (congrArg Value.agg HH.out.symm) _ (heap_alloc_new w1 _) (by kernel_rfl) info_tab tab_one ?_; intro w2 hh2 hg2 hz2; have hr2 : w2.heap[w.heap.size]? = some (.cells z7.toArray 118 (0, 0)) := (hg2.block _ (by simp; omega) (by simp; omega)).trans ((Below.heap_alloc w1 _ _ hlt).trans hr1); have HB2 : Hid (Below w.heap.size w w2) := (HB1.out.alloc (by omega) _).grown hg2 (by simp; omega) (fun k hk => by injection hk with hk; omega); clear hz2 hg2 hr1; have c0 : w2.cell? ⟨w1.heap.size, 49, none⟩ = some (.int .i64 1) := (by rw [cell_of_row _ _ _ _ _ _ hh2]; kernel_rfl); have c1 : w2.cell? ⟨w1.heap.size, 50, none⟩ = some (.int .i64 1) := (by rw [cell_of_row _ _ _ _ _ _ hh2]; kernel_rfl); have c2 : w2.cell? ⟨w1.heap.size, 51, none⟩ = some (.int .i64 0) := (by rw [cell_of_row _ _ _ _ _ _ hh2]; kernel_rfl); have c3 : w2.cell? ⟨w1.heap.size, 52, none⟩ = some (.int .i64 0) := (by rw [cell_of_row _ _ _ _ _ _ hh2]; kernel_rfl); have c4 : w2.cell? ⟨w1.heap.size, 53, none⟩ = some (.int .i64 1) := (by rw [cell_of_row _ _ _ _ _ _ hh2]; kernel_rfl); have c5 : w2.cell? ⟨w1.heap.size, 54, none⟩ = some (.bool true) := (by rw [cell_of_row _ _ _ _ _ _ hh2]; kernel_rfl); have c6 : w2.cell? ⟨w1.heap.size, 55, none⟩ = some (.func (.func 157) #[] #[]) := (by rw [cell_of_row _ _ _ _ _ _ hh2]; kernel_rfl)) | (refine wpList_store_row 118 _ _ rfl rfl rfl w.heap.size 118 rfl (o7 1 1 0 0 1 true 157) rfl _ hr2 rfl info_op (o7_one _ _ _ _ _ _ _) ?_; intro w3 hh3 hg3 hz3; have HB3 : Hid (Below w.heap.size w w3) := HB2.out.grown hg3 (HB2.out.size) (fun k hk => by injection hk with hk; omega); clear hz3 hg3))
  refine bodyPost_ret (v := .tuple #[.agg (o7 1 1 0 0 1 true 157).toArray, .bool true]) (results_cell_tmp Tryz.results76 _ _ w.heap.size 118 _ (0, 0) _ rfl hh3 Tryz.underlying118 rfl (by rw [info_op]; rfl)) rfl ⟨rfl, HB3.out⟩

set_option maxRecDepth 100000 in
set_option maxHeartbeats 4000000 in
theorem f_op8 (w : World) :
    Calls Tryz.prog 76 #[.int .i64 8, .int .i64 1] w fun e w' => e = .returned (.tuple #[.agg (o7 1 1 0 0 2 true 158).toArray, .bool true]) ∧ Below w.heap.size w w' := by
  have HO := Lib.hid (fun W => c_operations W)
  go_enter Tryz.func76, Tryz.ntmps76
  go_wp2_with fail
  have hr0 := heap_alloc_new w (.cells z7.toArray 118)
  refine (HO.out _).mono ?_
  rintro e w1 ⟨rfl, hb1⟩
  have hr1 : w1.heap[w.heap.size]? = some (.cells z7.toArray 118 (0, 0)) := (hb1.block _ (by simp)).trans hr0
  have hlt : w.heap.size < w1.heap.size := (Array.getElem?_eq_some_iff.1 hr1).1
  have HB1 : Hid (Below w.heap.size w w1) := btr ((Below.refl _ _).alloc (Nat.le_refl _) _) hb1
  clear hr0 hb1
  generalize HT : tab.toArray = TT
  have HH := Lib.hid HT
  clear HT HO
  go_wp2_with (first | (refine wpList_store_row 158 _ _ rfl rfl rfl w1.heap.size 158 rfl tab (congrArg Value.agg HH.out.symm) _ (heap_alloc_new w1 _) (by kernel_rfl) info_tab tab_one ?_; intro w2 hh2 hg2 hz2; have hr2 : w2.heap[w.heap.size]? = some (.cells z7.toArray 118 (0, 0)) := (hg2.block _ (by simp; omega) (by simp; omega)).trans ((Below.heap_alloc w1 _ _ hlt).trans hr1); have HB2 : Hid (Below w.heap.size w w2) := (HB1.out.alloc (by omega) _).grown hg2 (by simp; omega) (fun k hk => by injection hk with hk; omega); clear hz2 hg2 hr1; have c0 : w2.cell? ⟨w1.heap.size, 56, none⟩ = some (.int .i64 1) := (by rw [cell_of_row _ _ _ _ _ _ hh2]; kernel_rfl); have c1 : w2.cell? ⟨w1.heap.size, 57, none⟩ = some (.int .i64 1) := (by rw [cell_of_row _ _ _ _ _ _ hh2]; kernel_rfl); have c2 : w2.cell? ⟨w1.heap.size, 58, none⟩ = some (.int .i64 0) := (by rw [cell_of_row _ _ _ _ _ _ hh2]; kernel_rfl); have c3 : w2.cell? ⟨w1.heap.size, 59, none⟩ = some (.int .i64 0) := (by rw [cell_of_row _ _ _ _ _ _ hh2]; kernel_rfl); have c4 : w2.cell? ⟨w1.heap.size, 60, none⟩ = some (.int .i64 2) := (by rw [cell_of_row _ _ _ _ _ _ hh2]; kernel_rfl); have c5 : w2.cell? ⟨w1.heap.size, 61, none⟩ = some (.bool true) := (by rw [cell_of_row _ _ _ _ _ _ hh2]; kernel_rfl); have c6 : w2.cell? ⟨w1.heap.size, 62, none⟩ = some (.func (.func 158) #[] #[]) := (by rw [cell_of_row _ _ _ _ _ _ hh2]; kernel_rfl)) | (refine wpList_store_row 118 _ _ rfl rfl rfl w.heap.size 118 rfl (o7 1 1 0 0 2 true 158) rfl _ hr2 rfl info_op (o7_one _ _ _ _ _ _ _) ?_; intro w3 hh3 hg3 hz3; have HB3 : Hid (Below w.heap.size w w3) := HB2.out.grown hg3 (HB2.out.size) (fun k hk => by injection hk with hk; omega); clear hz3 hg3))
  refine bodyPost_ret (v := .tuple #[.agg (o7 1 1 0 0 2 true 158).toArray, .bool true]) (results_cell_tmp Tryz.results76 _ _ w.heap.size 118 _ (0, 0) _ rfl hh3 Tryz.underlying118 rfl (by rw [info_op]; rfl)) rfl ⟨rfl, HB3.out⟩

set_option maxRecDepth 100000 in
set_option maxHeartbeats 4000000 in
theorem f_op10 (w : World) :
    Calls Tryz.prog 76 #[.int .i64 10, .int .i64 2] w fun e w' => e = .returned (.tuple #[.agg (o7 2 3 3 0 0 false 160).toArray, .bool true]) ∧ Below w.heap.size w w' := by
  have HO := Lib.hid (fun W => c_operations W)
  go_enter Tryz.func76, Tryz.ntmps76
  go_wp2_with fail
  have hr0 := heap_alloc_new w (.cells z7.toArray 118)
  refine (HO.out _).mono ?_
  rintro e w1 ⟨rfl, hb1⟩
  have hr1 : w1.heap[w.heap.size]? = some (.cells z7.toArray 118 (0, 0)) := (hb1.block _ (by simp)).trans hr0
  have hlt : w.heap.size < w1.heap.size := (Array.getElem?_eq_some_iff.1 hr1).1
  have HB1 : Hid (Below w.heap.size w w1) := btr ((Below.refl _ _).alloc (Nat.le_refl _) _) hb1
  clear hr0 hb1
  generalize HT : tab.toArray = TT
  have HH := Lib.hid HT
  clear HT HO
  go_wp2_with (first | (refine wpList_store_row 158 _ _ rfl rfl rfl w1.heap.size 158 rfl tab (congrArg Value.agg HH.out.symm) _ (heap_alloc_new w1 _) (by kernel_rfl) info_tab tab_one ?_; intro w2 hh2 hg2 hz2; have hr2 : w2.heap[w.heap.size]? = some (.cells z7.toArray 118 (0, 0)) := (hg2.block _ (by simp; omega) (by simp; omega)).trans ((Below.heap_alloc w1 _ _ hlt).trans hr1); have HB2 : Hid (Below w.heap.size w w2) := (HB1.out.alloc (by omega) _).grown hg2 (by simp; omega) (fun k hk => by injection hk with hk; omega); clear hz2 hg2 hr1; have c0 : w2.cell? ⟨w1.heap.size, 70, none⟩ = some (.int .i64 2) := (by rw [cell_of_row _ _ _ _ _ _ hh2]; kernel_rfl); have c1 : w2.cell? ⟨w1.heap.size, 71, none⟩ = some (.int .i64 3) := (by rw [cell_of_row _ _ _ _ _ _ hh2]; kernel_rfl); have c2 : w2.cell? ⟨w1.heap.size, 72, none⟩ = some (.int .i64 3) := (by rw [cell_of_row _ _ _ _ _ _ hh2]; kernel_rfl); have c3 : w2.cell? ⟨w1.heap.size, 73, none⟩ = some (.int .i64 0) := (by rw [cell_of_row _ _ _ _ _ _ hh2]; kernel_rfl); have c4 : w2.cell? ⟨w1.heap.size, 74, none⟩ = some (.int .i64 0) := (by rw [cell_of_row _ _ _ _ _ _ hh2]; kernel_rfl); have c5 : w2.cell? ⟨w1.heap.size, 75, none⟩ = some (.bool false) := (by rw [cell_of_row _ _ _ _ _ _ hh2]; kernel_rfl); have c6 : w2.cell? ⟨w1.heap.size, 76, none⟩ = some (.func (.func 160) #[] #[]) := (by rw [cell_of_row _ _ _ _ _ _ hh2]; kernel_rfl)) | (refine wpList_store_row 118 _ _ rfl rfl rfl w.heap.size 118 rfl (o7 2 3 3 0 0 false 160) rfl _ hr2 rfl info_op (o7_one _ _ _ _ _ _ _) ?_; intro w3 hh3 hg3 hz3; have HB3 : Hid (Below w.heap.size w w3) := HB2.out.grown hg3 (HB2.out.size) (fun k hk => by injection hk with hk; omega); clear hz3 hg3))
  refine bodyPost_ret (v := .tuple #[.agg (o7 2 3 3 0 0 false 160).toArray, .bool true]) (results_cell_tmp Tryz.results76 _ _ w.heap.size 118 _ (0, 0) _ rfl hh3 Tryz.underlying118 rfl (by rw [info_op]; rfl)) rfl ⟨rfl, HB3.out⟩

set_option maxRecDepth 100000 in
set_option maxHeartbeats 4000000 in
theorem f_op11 (w : World) :
    Calls Tryz.prog 76 #[.int .i64 11, .int .i64 2] w fun e w' => e = .returned (.tuple #[.agg (o7 2 3 3 0 0 false 161).toArray, .bool true]) ∧ Below w.heap.size w w' := by
  have HO := Lib.hid (fun W => c_operations W)
  go_enter Tryz.func76, Tryz.ntmps76
  go_wp2_with fail
  have hr0 := heap_alloc_new w (.cells z7.toArray 118)
  refine (HO.out _).mono ?_
  rintro e w1 ⟨rfl, hb1⟩
  have hr1 : w1.heap[w.heap.size]? = some (.cells z7.toArray 118 (0, 0)) := (hb1.block _ (by simp)).trans hr0
  have hlt : w.heap.size < w1.heap.size := (Array.getElem?_eq_some_iff.1 hr1).1
  have HB1 : Hid (Below w.heap.size w w1) := btr ((Below.refl _ _).alloc (Nat.le_refl _) _) hb1
  clear hr0 hb1
  generalize HT : tab.toArray = TT
  have HH := Lib.hid HT
  clear HT HO
  go_wp2_with (first | (refine wpList_store_row 158 _ _ rfl rfl rfl w1.heap.size 158 rfl tab (congrArg Value.agg HH.out.symm) _ (heap_alloc_new w1 _) (by kernel_rfl) info_tab tab_one ?_; intro w2 hh2 hg2 hz2; have hr2 : w2.heap[w.heap.size]? = some (.cells z7.toArray 118 (0, 0)) := (hg2.block _ (by simp; omega) (by simp; omega)).trans ((Below.heap_alloc w1 _ _ hlt).trans hr1); have HB2 : Hid (Below w.heap.size w w2) := (HB1.out.alloc (by omega) _).grown hg2 (by simp; omega) (fun k hk => by injection hk with hk; omega); clear hz2 hg2 hr1; have c0 : w2.cell? ⟨w1.heap.size, 77, none⟩ = some (.int .i64 2) := (by rw [cell_of_row _ _ _ _ _ _ hh2]; kernel_rfl); have c1 : w2.cell? ⟨w1.heap.size, 78, none⟩ = some (.int .i64 3) := (by rw [cell_of_row _ _ _ _ _ _ hh2]; kernel_rfl); have c2 : w2.cell? ⟨w1.heap.size, 79, none⟩ = some (.int .i64 3) := (by rw [cell_of_row _ _ _ _ _ _ hh2]; kernel_rfl); have c3 : w2.cell? ⟨w1.heap.size, 80, none⟩ = some (.int .i64 0) := (by rw [cell_of_row _ _ _ _ _ _ hh2]; kernel_rfl); have c4 : w2.cell? ⟨w1.heap.size, 81, none⟩ = some (.int .i64 0) := (by rw [cell_of_row _ _ _ _ _ _ hh2]; kernel_rfl); have c5 : w2.cell? ⟨w1.heap.size, 82, none⟩ = some (.bool false) := (by rw [cell_of_row _ _ _ _ _ _ hh2]; kernel_rfl); have c6 : w2.cell? ⟨w1.heap.size, 83, none⟩ = some (.func (.func 161) #[] #[]) := (by rw [cell_of_row _ _ _ _ _ _ hh2]; kernel_rfl)) | (refine wpList_store_row 118 _ _ rfl rfl rfl w.heap.size 118 rfl (o7 2 3 3 0 0 false 161) rfl _ hr2 rfl info_op (o7_one _ _ _ _ _ _ _) ?_; intro w3 hh3 hg3 hz3; have HB3 : Hid (Below w.heap.size w w3) := HB2.out.grown hg3 (HB2.out.size) (fun k hk => by injection hk with hk; omega); clear hz3 hg3))
  refine bodyPost_ret (v := .tuple #[.agg (o7 2 3 3 0 0 false 161).toArray, .bool true]) (results_cell_tmp Tryz.results76 _ _ w.heap.size 118 _ (0, 0) _ rfl hh3 Tryz.underlying118 rfl (by rw [info_op]; rfl)) rfl ⟨rfl, HB3.out⟩

set_option maxRecDepth 100000 in
set_option maxHeartbeats 4000000 in
theorem f_op13 (w : World) :
    Calls Tryz.prog 76 #[.int .i64 13, .int .i64 2] w fun e w' => e = .returned (.tuple #[.agg (o7 2 4 4 0 1 false 164).toArray, .bool true]) ∧ Below w.heap.size w w' := by
  have HO := Lib.hid (fun W => c_operations W)
  go_enter Tryz.func76, Tryz.ntmps76
  go_wp2_with fail
  have hr0 := heap_alloc_new w (.cells z7.toArray 118)
  refine (HO.out _).mono ?_
  rintro e w1 ⟨rfl, hb1⟩
  have hr1 : w1.heap[w.heap.size]? = some (.cells z7.toArray 118 (0, 0)) := (hb1.block _ (by simp)).trans hr0
  have hlt : w.heap.size < w1.heap.size := (Array.getElem?_eq_some_iff.1 hr1).1
  have HB1 : Hid (Below w.heap.size w w1) := btr ((Below.refl _ _).alloc (Nat.le_refl _) _) hb1
  clear hr0 hb1
  generalize HT : tab.toArray = TT
  have HH := Lib.hid HT
  clear HT HO
  go_wp2_with (first | (refine wpList_store_row 158 _ _ rfl rfl rfl w1.heap.size 158 rfl tab (congrArg Value.agg HH.out.symm) _ (heap_alloc_new w1 _) (by kernel_rfl) info_tab tab_one ?_; intro w2 hh2 hg2 hz2; have hr2 : w2.heap[w.heap.size]? = some (.cells z7.toArray 118 (0, 0)) := (hg2.block _ (by simp; omega) (by simp; omega)).trans ((Below.heap_alloc w1 _ _ hlt).trans hr1); have HB2 : Hid (Below w.heap.size w w2) := (HB1.out.alloc (by omega) _).grown hg2 (by simp; omega) (fun k hk => by injection hk with hk; omega); clear hz2 hg2 hr1; have c0 : w2.cell? ⟨w1.heap.size, 91, none⟩ = some (.int .i64 2) := (by rw [cell_of_row _ _ _ _ _ _ hh2]; kernel_rfl); have c1 : w2.cell? ⟨w1.heap.size, 92, none⟩ = some (.int .i64 4) := (by rw [cell_of_row _ _ _ _ _ _ hh2]; kernel_rfl); have c2 : w2.cell? ⟨w1.heap.size, 93, none⟩ = some (.int .i64 4) := (by rw [cell_of_row _ _ _ _ _ _ hh2]; kernel_rfl); have c3 : w2.cell? ⟨w1.heap.size, 94, none⟩ = some (.int .i64 0) := (by rw [cell_of_row _ _ _ _ _ _ hh2]; kernel_rfl); have c4 : w2.cell? ⟨w1.heap.size, 95, none⟩ = some (.int .i64 1) := (by rw [cell_of_row _ _ _ _ _ _ hh2]; kernel_rfl); have c5 : w2.cell? ⟨w1.heap.size, 96, none⟩ = some (.bool false) := (by rw [cell_of_row _ _ _ _ _ _ hh2]; kernel_rfl); have c6 : w2.cell? ⟨w1.heap.size, 97, none⟩ = some (.func (.func 164) #[] #[]) := (by rw [cell_of_row _ _ _ _ _ _ hh2]; kernel_rfl)) | (refine wpList_store_row 118 _ _ rfl rfl rfl w.heap.size 118 rfl (o7 2 4 4 0 1 false 164) rfl _ hr2 rfl info_op (o7_one _ _ _ _ _ _ _) ?_; intro w3 hh3 hg3 hz3; have HB3 : Hid (Below w.heap.size w w3) := HB2.out.grown hg3 (HB2.out.size) (fun k hk => by injection hk with hk; omega); clear hz3 hg3))
  refine bodyPost_ret (v := .tuple #[.agg (o7 2 4 4 0 1 false 164).toArray, .bool true]) (results_cell_tmp Tryz.results76 _ _ w.heap.size 118 _ (0, 0) _ rfl hh3 Tryz.underlying118 rfl (by rw [info_op]; rfl)) rfl ⟨rfl, HB3.out⟩

set_option maxRecDepth 100000 in
set_option maxHeartbeats 4000000 in
theorem f_op14 (w : World) :
    Calls Tryz.prog 76 #[.int .i64 14, .int .i64 2] w fun e w' => e = .returned (.tuple #[.agg (o7 2 4 4 0 1 false 165).toArray, .bool true]) ∧ Below w.heap.size w w' := by
  have HO := Lib.hid (fun W => c_operations W)
  go_enter Tryz.func76, Tryz.ntmps76
  go_wp2_with fail
  have hr0 := heap_alloc_new w (.cells z7.toArray 118)
  refine (HO.out _).mono ?_
  rintro e w1 ⟨rfl, hb1⟩
  have hr1 : w1.heap[w.heap.size]? = some (.cells z7.toArray 118 (0, 0)) := (hb1.block _ (by simp)).trans hr0
  have hlt : w.heap.size < w1.heap.size := (Array.getElem?_eq_some_iff.1 hr1).1
  have HB1 : Hid (Below w.heap.size w w1) := btr ((Below.refl _ _).alloc (Nat.le_refl _) _) hb1
  clear hr0 hb1
  generalize HT : tab.toArray = TT
  have HH := Lib.hid HT
  clear HT HO
  go_wp2_with (first | (refine wpList_store_row 158 _ _ rfl rfl rfl w1.heap.size 158 rfl tab (congrArg Value.agg HH.out.symm) _ (heap_alloc_new w1 _) (by kernel_rfl) info_tab tab_one ?_; intro w2 hh2 hg2 hz2; have hr2 : w2.heap[w.heap.size]? = some (.cells z7.toArray 118 (0, 0)) := (hg2.block _ (by simp; omega) (by simp; omega)).trans ((Below.heap_alloc w1 _ _ hlt).trans hr1); have HB2 : Hid (Below w.heap.size w w2) := (HB1.out.alloc (by omega) _).grown hg2 (by simp; omega) (fun k hk => by injection hk with hk; omega); clear hz2 hg2 hr1; have c0 : w2.cell? ⟨w1.heap.size, 98, none⟩ = some (.int .i64 2) := (by rw [cell_of_row _ _ _ _ _ _ hh2]; kernel_rfl); have c1 : w2.cell? ⟨w1.heap.size, 99, none⟩ = some (.int .i64 4) := (by rw [cell_of_row _ _ _ _ _ _ hh2]; kernel_rfl); have c2 : w2.cell? ⟨w1.heap.size, 100, none⟩ = some (.int .i64 4) := (by rw [cell_of_row _ _ _ _ _ _ hh2]; kernel_rfl); have c3 : w2.cell? ⟨w1.heap.size, 101, none⟩ = some (.int .i64 0) := (by rw [cell_of_row _ _ _ _ _ _ hh2]; kernel_rfl); have c4 : w2.cell? ⟨w1.heap.size, 102, none⟩ = some (.int .i64 1) := (by rw [cell_of_row _ _ _ _ _ _ hh2]; kernel_rfl); have c5 : w2.cell? ⟨w1.heap.size, 103, none⟩ = some (.bool false) := (by rw [cell_of_row _ _ _ _ _ _ hh2]; kernel_rfl); have c6 : w2.cell? ⟨w1.heap.size, 104, none⟩ = some (.func (.func 165) #[] #[]) := (by rw [cell_of_row _ _ _ _ _ _ hh2]; kernel_rfl)) | (refine wpList_store_row 118 _ _ rfl rfl rfl w.heap.size 118 rfl (o7 2 4 4 0 1 false 165) rfl _ hr2 rfl info_op (o7_one _ _ _ _ _ _ _) ?_; intro w3 hh3 hg3 hz3; have HB3 : Hid (Below w.heap.size w w3) := HB2.out.grown hg3 (HB2.out.size) (fun k hk => by injection hk with hk; omega); clear hz3 hg3))
  refine bodyPost_ret (v := .tuple #[.agg (o7 2 4 4 0 1 false 165).toArray, .bool true]) (results_cell_tmp Tryz.results76 _ _ w.heap.size 118 _ (0, 0) _ rfl hh3 Tryz.underlying118 rfl (by rw [info_op]; rfl)) rfl ⟨rfl, HB3.out⟩

set_option maxRecDepth 100000 in
set_option maxHeartbeats 4000000 in
theorem f_op15 (w : World) :
    Calls Tryz.prog 76 #[.int .i64 15, .int .i64 2] w fun e w' => e = .returned (.tuple #[.agg (o7 2 4 4 0 1 false 166).toArray, .bool true]) ∧ Below w.heap.size w w' := by
  have HO := Lib.hid (fun W => c_operations W)
  go_enter Tryz.func76, Tryz.ntmps76
  go_wp2_with fail
  have hr0 := heap_alloc_new w (.cells z7.toArray 118)
  refine (HO.out _).mono ?_
  rintro e w1 ⟨rfl, hb1⟩
  have hr1 : w1.heap[w.heap.size]? = some (.cells z7.toArray 118 (0, 0)) := (hb1.block _ (by simp)).trans hr0
  have hlt : w.heap.size < w1.heap.size := (Array.getElem?_eq_some_iff.1 hr1).1
  have HB1 : Hid (Below w.heap.size w w1) := btr ((Below.refl _ _).alloc (Nat.le_refl _) _) hb1
  clear hr0 hb1
  generalize HT : tab.toArray = TT
  have HH := Lib.hid HT
  clear HT HO
  go_wp2_with (first | (refine wpList_store_row 158 _ _ rfl rfl rfl w1.heap.size 158 rfl tab (congrArg Value.agg HH.out.symm) _ (heap_alloc_new w1 _) (by kernel_rfl) info_tab tab_one ?_; intro w2 hh2 hg2 hz2; have hr2 : w2.heap[w.heap.size]? = some (.cells z7.toArray 118 (0, 0)) := (hg2.block _ (by simp; omega) (by simp; omega)).trans ((Below.heap_alloc w1 _ _ hlt).trans hr1); have HB2 : Hid (Below w.heap.size w w2) := (HB1.out.alloc (by omega) _).grown hg2 (by simp; omega) (fun k hk => by injection hk with hk; omega); clear hz2 hg2 hr1; have c0 : w2.cell? ⟨w1.heap.size, 105, none⟩ = some (.int .i64 2) := (by rw [cell_of_row _ _ _ _ _ _ hh2]; kernel_rfl); have c1 : w2.cell? ⟨w1.heap.size, 106, none⟩ = some (.int .i64 4) := (by rw [cell_of_row _ _ _ _ _ _ hh2]; kernel_rfl); have c2 : w2.cell? ⟨w1.heap.size, 107, none⟩ = some (.int .i64 4) := (by rw [cell_of_row _ _ _ _ _ _ hh2]; kernel_rfl); have c3 : w2.cell? ⟨w1.heap.size, 108, none⟩ = some (.int .i64 0) := (by rw [cell_of_row _ _ _ _ _ _ hh2]; kernel_rfl); have c4 : w2.cell? ⟨w1.heap.size, 109, none⟩ = some (.int .i64 1) := (by rw [cell_of_row _ _ _ _ _ _ hh2]; kernel_rfl); have c5 : w2.cell? ⟨w1.heap.size, 110, none⟩ = some (.bool false) := (by rw [cell_of_row _ _ _ _ _ _ hh2]; kernel_rfl); have c6 : w2.cell? ⟨w1.heap.size, 111, none⟩ = some (.func (.func 166) #[] #[]) := (by rw [cell_of_row _ _ _ _ _ _ hh2]; kernel_rfl)) | (refine wpList_store_row 118 _ _ rfl rfl rfl w.heap.size 118 rfl (o7 2 4 4 0 1 false 166) rfl _ hr2 rfl info_op (o7_one _ _ _ _ _ _ _) ?_; intro w3 hh3 hg3 hz3; have HB3 : Hid (Below w.heap.size w w3) := HB2.out.grown hg3 (HB2.out.size) (fun k hk => by injection hk with hk; omega); clear hz3 hg3))
  refine bodyPost_ret (v := .tuple #[.agg (o7 2 4 4 0 1 false 166).toArray, .bool true]) (results_cell_tmp Tryz.results76 _ _ w.heap.size 118 _ (0, 0) _ rfl hh3 Tryz.underlying118 rfl (by rw [info_op]; rfl)) rfl ⟨rfl, HB3.out⟩

set_option maxRecDepth 100000 in
set_option maxHeartbeats 4000000 in
theorem f_op16 (w : World) :
    Calls Tryz.prog 76 #[.int .i64 16, .int .i64 2] w fun e w' => e = .returned (.tuple #[.agg (o7 2 4 4 0 1 false 167).toArray, .bool true]) ∧ Below w.heap.size w w' := by
  have HO := Lib.hid (fun W => c_operations W)
  go_enter Tryz.func76, Tryz.ntmps76
  go_wp2_with fail
  have hr0 := heap_alloc_new w (.cells z7.toArray 118)
  refine (HO.out _).mono ?_
  rintro e w1 ⟨rfl, hb1⟩
  have hr1 : w1.heap[w.heap.size]? = some (.cells z7.toArray 118 (0, 0)) := (hb1.block _ (by simp)).trans hr0
  have hlt : w.heap.size < w1.heap.size := (Array.getElem?_eq_some_iff.1 hr1).1
  have HB1 : Hid (Below w.heap.size w w1) := btr ((Below.refl _ _).alloc (Nat.le_refl _) _) hb1
  clear hr0 hb1
  generalize HT : tab.toArray = TT
  have HH := Lib.hid HT
  clear HT HO
  go_wp2_with (first | (refine wpList_store_row 158 _ _ rfl rfl rfl w1.heap.size 158 rfl tab (congrArg Value.agg HH.out.symm) _ (heap_alloc_new w1 _) (by kernel_rfl) info_tab tab_one ?_; intro w2 hh2 hg2 hz2; have hr2 : w2.heap[w.heap.size]? = some (.cells z7.toArray 118 (0, 0)) := (hg2.block _ (by simp; omega) (by simp; omega)).trans ((Below.heap_alloc w1 _ _ hlt).trans hr1); have HB2 : Hid (Below w.heap.size w w2) := (HB1.out.alloc (by omega) _).grown hg2 (by simp; omega) (fun k hk => by injection hk with hk; omega); clear hz2 hg2 hr1; have c0 : w2.cell? ⟨w1.heap.size, 112, none⟩ = some (.int .i64 2) := (by rw [cell_of_row _ _ _ _ _ _ hh2]; kernel_rfl); have c1 : w2.cell? ⟨w1.heap.size, 113, none⟩ = some (.int .i64 4) := (by rw [cell_of_row _ _ _ _ _ _ hh2]; kernel_rfl); have c2 : w2.cell? ⟨w1.heap.size, 114, none⟩ = some (.int .i64 4) := (by rw [cell_of_row _ _ _ _ _ _ hh2]; kernel_rfl); have c3 : w2.cell? ⟨w1.heap.size, 115, none⟩ = some (.int .i64 0) := (by rw [cell_of_row _ _ _ _ _ _ hh2]; kernel_rfl); have c4 : w2.cell? ⟨w1.heap.size, 116, none⟩ = some (.int .i64 1) := (by rw [cell_of_row _ _ _ _ _ _ hh2]; kernel_rfl); have c5 : w2.cell? ⟨w1.heap.size, 117, none⟩ = some (.bool false) := (by rw [cell_of_row _ _ _ _ _ _ hh2]; kernel_rfl); have c6 : w2.cell? ⟨w1.heap.size, 118, none⟩ = some (.func (.func 167) #[] #[]) := (by rw [cell_of_row _ _ _ _ _ _ hh2]; kernel_rfl)) | (refine wpList_store_row 118 _ _ rfl rfl rfl w.heap.size 118 rfl (o7 2 4 4 0 1 false 167) rfl _ hr2 rfl info_op (o7_one _ _ _ _ _ _ _) ?_; intro w3 hh3 hg3 hz3; have HB3 : Hid (Below w.heap.size w w3) := HB2.out.grown hg3 (HB2.out.size) (fun k hk => by injection hk with hk; omega); clear hz3 hg3))
  refine bodyPost_ret (v := .tuple #[.agg (o7 2 4 4 0 1 false 167).toArray, .bool true]) (results_cell_tmp Tryz.results76 _ _ w.heap.size 118 _ (0, 0) _ rfl hh3 Tryz.underlying118 rfl (by rw [info_op]; rfl)) rfl ⟨rfl, HB3.out⟩

set_option maxRecDepth 100000 in
set_option maxHeartbeats 4000000 in
theorem f_op17 (w : World) :
    Calls Tryz.prog 76 #[.int .i64 17, .int .i64 2] w fun e w' => e = .returned (.tuple #[.agg (o7 2 4 4 0 1 false 168).toArray, .bool true]) ∧ Below w.heap.size w w' := by
  have HO := Lib.hid (fun W => c_operations W)
  go_enter Tryz.func76, Tryz.ntmps76
  go_wp2_with fail
  have hr0 := heap_alloc_new w (.cells z7.toArray 118)
  refine (HO.out _).mono ?_
  rintro e w1 ⟨rfl, hb1⟩
  have hr1 : w1.heap[w.heap.size]? = some (.cells z7.toArray 118 (0, 0)) := (hb1.block _ (by simp)).trans hr0
  have hlt : w.heap.size < w1.heap.size := (Array.getElem?_eq_some_iff.1 hr1).1
  have HB1 : Hid (Below w.heap.size w w1) := btr ((Below.refl _ _).alloc (Nat.le_refl _) _) hb1
  clear hr0 hb1
  generalize HT : tab.toArray = TT
  have HH := Lib.hid HT
  clear HT HO
  go_wp2_with (first | (refine wpList_store_row 158 _ _ rfl rfl rfl w1.heap.size 158 rfl tab (congrArg Value.agg HH.out.symm) _ (heap_alloc_new w1 _) (by kernel_rfl) info_tab tab_one ?_; intro w2 hh2 hg2 hz2; have hr2 : w2.heap[w.heap.size]? = some (.cells z7.toArray 118 (0, 0)) := (hg2.block _ (by simp; omega) (by simp; omega)).trans ((Below.heap_alloc w1 _ _ hlt).trans hr1); have HB2 : Hid (Below w.heap.size w w2) := (HB1.out.alloc (by omega) _).grown hg2 (by simp; omega) (fun k hk => by injection hk with hk; omega); clear hz2 hg2 hr1; have c0 : w2.cell? ⟨w1.heap.size, 119, none⟩ = some (.int .i64 2) := (by rw [cell_of_row _ _ _ _ _ _ hh2]; kernel_rfl); have c1 : w2.cell? ⟨w1.heap.size, 120, none⟩ = some (.int .i64 4) := (by rw [cell_of_row _ _ _ _ _ _ hh2]; kernel_rfl); have c2 : w2.cell? ⟨w1.heap.size, 121, none⟩ = some (.int .i64 4) := (by rw [cell_of_row _ _ _ _ _ _ hh2]; kernel_rfl); have c3 : w2.cell? ⟨w1.heap.size, 122, none⟩ = some (.int .i64 0) := (by rw [cell_of_row _ _ _ _ _ _ hh2]; kernel_rfl); have c4 : w2.cell? ⟨w1.heap.size, 123, none⟩ = some (.int .i64 1) := (by rw [cell_of_row _ _ _ _ _ _ hh2]; kernel_rfl); have c5 : w2.cell? ⟨w1.heap.size, 124, none⟩ = some (.bool false) := (by rw [cell_of_row _ _ _ _ _ _ hh2]; kernel_rfl); have c6 : w2.cell? ⟨w1.heap.size, 125, none⟩ = some (.func (.func 168) #[] #[]) := (by rw [cell_of_row _ _ _ _ _ _ hh2]; kernel_rfl)) | (refine wpList_store_row 118 _ _ rfl rfl rfl w.heap.size 118 rfl (o7 2 4 4 0 1 false 168) rfl _ hr2 rfl info_op (o7_one _ _ _ _ _ _ _) ?_; intro w3 hh3 hg3 hz3; have HB3 : Hid (Below w.heap.size w w3) := HB2.out.grown hg3 (HB2.out.size) (fun k hk => by injection hk with hk; omega); clear hz3 hg3))
  refine bodyPost_ret (v := .tuple #[.agg (o7 2 4 4 0 1 false 168).toArray, .bool true]) (results_cell_tmp Tryz.results76 _ _ w.heap.size 118 _ (0, 0) _ rfl hh3 Tryz.underlying118 rfl (by rw [info_op]; rfl)) rfl ⟨rfl, HB3.out⟩

set_option maxRecDepth 100000 in
set_option maxHeartbeats 4000000 in
theorem f_op18 (w : World) :
    Calls Tryz.prog 76 #[.int .i64 18, .int .i64 2] w fun e w' => e = .returned (.tuple #[.agg (o7 2 4 4 0 1 false 169).toArray, .bool true]) ∧ Below w.heap.size w w' := by
  have HO := Lib.hid (fun W => c_operations W)
  go_enter Tryz.func76, Tryz.ntmps76
  go_wp2_with fail
  have hr0 := heap_alloc_new w (.cells z7.toArray 118)
  refine (HO.out _).mono ?_
  rintro e w1 ⟨rfl, hb1⟩
  have hr1 : w1.heap[w.heap.size]? = some (.cells z7.toArray 118 (0, 0)) := (hb1.block _ (by simp)).trans hr0
  have hlt : w.heap.size < w1.heap.size := (Array.getElem?_eq_some_iff.1 hr1).1
  have HB1 : Hid (Below w.heap.size w w1) := btr ((Below.refl _ _).alloc (Nat.le_refl _) _) hb1
  clear hr0 hb1
  generalize HT : tab.toArray = TT
  have HH := Lib.hid HT
  clear HT HO
  go_wp2_with (first | (refine wpList_store_row 158 _ _ rfl rfl rfl w1.heap.size 158 rfl tab (congrArg Value.agg HH.out.symm) _ (heap_alloc_new w1 _) (by kernel_rfl) info_tab tab_one ?_; intro w2 hh2 hg2 hz2; have hr2 : w2.heap[w.heap.size]? = some (.cells z7.toArray 118 (0, 0)) := (hg2.block _ (by simp; omega) (by simp; omega)).trans ((Below.heap_alloc w1 _ _ hlt).trans hr1); have HB2 : Hid (Below w.heap.size w w2) := (HB1.out.alloc (by omega) _).grown hg2 (by simp; omega) (fun k hk => by injection hk with hk; omega); clear hz2 hg2 hr1; have c0 : w2.cell? ⟨w1.heap.size, 126, none⟩ = some (.int .i64 2) := (by rw [cell_of_row _ _ _ _ _ _ hh2]; kernel_rfl); have c1 : w2.cell? ⟨w1.heap.size, 127, none⟩ = some (.int .i64 4) := (by rw [cell_of_row _ _ _ _ _ _ hh2]; kernel_rfl); have c2 : w2.cell? ⟨w1.heap.size, 128, none⟩ = some (.int .i64 4) := (by rw [cell_of_row _ _ _ _ _ _ hh2]; kernel_rfl); have c3 : w2.cell? ⟨w1.heap.size, 129, none⟩ = some (.int .i64 0) := (by rw [cell_of_row _ _ _ _ _ _ hh2]; kernel_rfl); have c4 : w2.cell? ⟨w1.heap.size, 130, none⟩ = some (.int .i64 1) := (by rw [cell_of_row _ _ _ _ _ _ hh2]; kernel_rfl); have c5 : w2.cell? ⟨w1.heap.size, 131, none⟩ = some (.bool false) := (by rw [cell_of_row _ _ _ _ _ _ hh2]; kernel_rfl); have c6 : w2.cell? ⟨w1.heap.size, 132, none⟩ = some (.func (.func 169) #[] #[]) := (by rw [cell_of_row _ _ _ _ _ _ hh2]; kernel_rfl)) | (refine wpList_store_row 118 _ _ rfl rfl rfl w.heap.size 118 rfl (o7 2 4 4 0 1 false 169) rfl _ hr2 rfl info_op (o7_one _ _ _ _ _ _ _) ?_; intro w3 hh3 hg3 hz3; have HB3 : Hid (Below w.heap.size w w3) := HB2.out.grown hg3 (HB2.out.size) (fun k hk => by injection hk with hk; omega); clear hz3 hg3))
  refine bodyPost_ret (v := .tuple #[.agg (o7 2 4 4 0 1 false 169).toArray, .bool true]) (results_cell_tmp Tryz.results76 _ _ w.heap.size 118 _ (0, 0) _ rfl hh3 Tryz.underlying118 rfl (by rw [info_op]; rfl)) rfl ⟨rfl, HB3.out⟩

set_option maxRecDepth 100000 in
set_option maxHeartbeats 4000000 in
theorem f_no0 (w : World) (c : Int) (hc : 0 < c) (hk : c ≠ 0) :
    Calls Tryz.prog 76 #[.int .i64 0, .int .i64 c] w fun e w' => e = .returned (.tuple #[.agg z7.toArray, .bool false]) ∧ Below w.heap.size w w' := by
  have HO := Lib.hid (fun W => c_operations W)
  have hc0 : ((c : Int) == 0) = false := by rw [beq_eq_false_iff_ne]; omega
  have hck : (((0 : Int)) != c) = true := by rw [bne_iff_ne]; omega
  clear hc hk
  go_enter Tryz.func76, Tryz.ntmps76
  go_wp2_with fail
  have hr0 := heap_alloc_new w (.cells z7.toArray 118)
  refine (HO.out _).mono ?_
  rintro e w1 ⟨rfl, hb1⟩
  have hr1 : w1.heap[w.heap.size]? = some (.cells z7.toArray 118 (0, 0)) := (hb1.block _ (by simp)).trans hr0
  have hlt : w.heap.size < w1.heap.size := (Array.getElem?_eq_some_iff.1 hr1).1
  have HB1 : Hid (Below w.heap.size w w1) := btr ((Below.refl _ _).alloc (Nat.le_refl _) _) hb1
  clear hr0 hb1
  generalize HT : tab.toArray = TT
  have HH := Lib.hid HT
  clear HT HO
  go_wp2_with (first | (refine wpList_store_row 158 _ _ rfl rfl rfl w1.heap.size 158 rfl tab (congrArg Value.agg HH.out.symm) _ (heap_alloc_new w1 _) (by kernel_rfl) info_tab tab_one ?_; intro w2 hh2 hg2 hz2; have hr2 : w2.heap[w.heap.size]? = some (.cells z7.toArray 118 (0, 0)) := (hg2.block _ (by simp; omega) (by simp; omega)).trans ((Below.heap_alloc w1 _ _ hlt).trans hr1); have HB2 : Hid (Below w.heap.size w w2) := (HB1.out.alloc (by omega) _).grown hg2 (by simp; omega) (fun k hk => by injection hk with hk; omega); clear hz2 hg2 hr1; have c0 : w2.cell? ⟨w1.heap.size, 0, none⟩ = some (.int .i64 0) := (by rw [cell_of_row _ _ _ _ _ _ hh2]; kernel_rfl)) | (refine wpList_store_row 118 _ _ rfl rfl rfl w.heap.size 118 rfl z7 rfl _ hr2 rfl info_op z7_one ?_; intro w3 hh3 hg3 hz3; have HB3 : Hid (Below w.heap.size w w3) := HB2.out.grown hg3 (HB2.out.size) (fun k hk => by injection hk with hk; omega); clear hz3 hg3))
  refine bodyPost_ret (v := .tuple #[.agg z7.toArray, .bool false]) (results_cell_tmp Tryz.results76 _ _ w.heap.size 118 _ (0, 0) _ rfl hh3 Tryz.underlying118 rfl (by rw [info_op]; rfl)) rfl ⟨rfl, HB3.out⟩

set_option maxRecDepth 100000 in
set_option maxHeartbeats 4000000 in
theorem f_no1 (w : World) (c : Int) (hc : 0 < c) (hk : c ≠ 0) :
    Calls Tryz.prog 76 #[.int .i64 1, .int .i64 c] w fun e w' => e = .returned (.tuple #[.agg z7.toArray, .bool false]) ∧ Below w.heap.size w w' := by
  have HO := Lib.hid (fun W => c_operations W)
  have hc0 : ((c : Int) == 0) = false := by rw [beq_eq_false_iff_ne]; omega
  have hck : (((0 : Int)) != c) = true := by rw [bne_iff_ne]; omega
  clear hc hk
  go_enter Tryz.func76, Tryz.ntmps76
  go_wp2_with fail
  have hr0 := heap_alloc_new w (.cells z7.toArray 118)
  refine (HO.out _).mono ?_
  rintro e w1 ⟨rfl, hb1⟩
  have hr1 : w1.heap[w.heap.size]? = some (.cells z7.toArray 118 (0, 0)) := (hb1.block _ (by simp)).trans hr0
  have hlt : w.heap.size < w1.heap.size := (Array.getElem?_eq_some_iff.1 hr1).1
  have HB1 : Hid (Below w.heap.size w w1) := btr ((Below.refl _ _).alloc (Nat.le_refl _) _) hb1
  clear hr0 hb1
  generalize HT : tab.toArray = TT
  have HH := Lib.hid HT
  clear HT HO
  go_wp2_with (first | (refine wpList_store_row 158 _ _ rfl rfl rfl w1.heap.size 158 rfl tab (congrArg Value.agg HH.out.symm) _ (heap_alloc_new w1 _) (by kernel_rfl) info_tab tab_one ?_; intro w2 hh2 hg2 hz2; have hr2 : w2.heap[w.heap.size]? = some (.cells z7.toArray 118 (0, 0)) := (hg2.block _ (by simp; omega) (by simp; omega)).trans ((Below.heap_alloc w1 _ _ hlt).trans hr1); have HB2 : Hid (Below w.heap.size w w2) := (HB1.out.alloc (by omega) _).grown hg2 (by simp; omega) (fun k hk => by injection hk with hk; omega); clear hz2 hg2 hr1; have c0 : w2.cell? ⟨w1.heap.size, 7, none⟩ = some (.int .i64 0) := (by rw [cell_of_row _ _ _ _ _ _ hh2]; kernel_rfl)) | (refine wpList_store_row 118 _ _ rfl rfl rfl w.heap.size 118 rfl z7 rfl _ hr2 rfl info_op z7_one ?_; intro w3 hh3 hg3 hz3; have HB3 : Hid (Below w.heap.size w w3) := HB2.out.grown hg3 (HB2.out.size) (fun k hk => by injection hk with hk; omega); clear hz3 hg3))
  refine bodyPost_ret (v := .tuple #[.agg z7.toArray, .bool false]) (results_cell_tmp Tryz.results76 _ _ w.heap.size 118 _ (0, 0) _ rfl hh3 Tryz.underlying118 rfl (by rw [info_op]; rfl)) rfl ⟨rfl, HB3.out⟩

set_option maxRecDepth 100000 in
set_option maxHeartbeats 4000000 in
theorem f_no2 (w : World) (c : Int) (hc : 0 < c) (hk : c ≠ 0) :
    Calls Tryz.prog 76 #[.int .i64 2, .int .i64 c] w fun e w' => e = .returned (.tuple #[.agg z7.toArray, .bool false]) ∧ Below w.heap.size w w' := by
  have HO := Lib.hid (fun W => c_operations W)
  have hc0 : ((c : Int) == 0) = false := by rw [beq_eq_false_iff_ne]; omega
  have hck : (((0 : Int)) != c) = true := by rw [bne_iff_ne]; omega
  clear hc hk
  go_enter Tryz.func76, Tryz.ntmps76
  go_wp2_with fail
  have hr0 := heap_alloc_new w (.cells z7.toArray 118)
  refine (HO.out _).mono ?_
  rintro e w1 ⟨rfl, hb1⟩
  have hr1 : w1.heap[w.heap.size]? = some (.cells z7.toArray 118 (0, 0)) := (hb1.block _ (by simp)).trans hr0
  have hlt : w.heap.size < w1.heap.size := (Array.getElem?_eq_some_iff.1 hr1).1
  have HB1 : Hid (Below w.heap.size w w1) := btr ((Below.refl _ _).alloc (Nat.le_refl _) _) hb1
  clear hr0 hb1
  generalize HT : tab.toArray = TT
  have HH := Lib.hid HT
  clear HT HO
  go_wp2_with (first | (refine wpList_store_row 158 _ _ rfl rfl rfl w1.heap.size 158 rfl tab (congrArg Value.agg HH.out.symm) _ (heap_alloc_new w1 _) (by kernel_rfl) info_tab tab_one ?_; intro w2 hh2 hg2 hz2; have hr2 : w2.heap[w.heap.size]? = some (.cells z7.toArray 118 (0, 0)) := (hg2.block _ (by simp; omega) (by simp; omega)).trans ((Below.heap_alloc w1 _ _ hlt).trans hr1); have HB2 : Hid (Below w.heap.size w w2) := (HB1.out.alloc (by omega) _).grown hg2 (by simp; omega) (fun k hk => by injection hk with hk; omega); clear hz2 hg2 hr1; have c0 : w2.cell? ⟨w1.heap.size, 14, none⟩ = some (.int .i64 0) := (by rw [cell_of_row _ _ _ _ _ _ hh2]; kernel_rfl)) | (refine wpList_store_row 118 _ _ rfl rfl rfl w.heap.size 118 rfl z7 rfl _ hr2 rfl info_op z7_one ?_; intro w3 hh3 hg3 hz3; have HB3 : Hid (Below w.heap.size w w3) := HB2.out.grown hg3 (HB2.out.size) (fun k hk => by injection hk with hk; omega); clear hz3 hg3))
  refine bodyPost_ret (v := .tuple #[.agg z7.toArray, .bool false]) (results_cell_tmp Tryz.results76 _ _ w.heap.size 118 _ (0, 0) _ rfl hh3 Tryz.underlying118 rfl (by rw [info_op]; rfl)) rfl ⟨rfl, HB3.out⟩

set_option maxRecDepth 100000 in
set_option maxHeartbeats 4000000 in
theorem f_no3 (w : World) (c : Int) (hc : 0 < c) (hk : c ≠ 0) :
    Calls Tryz.prog 76 #[.int .i64 3, .int .i64 c] w fun e w' => e = .returned (.tuple #[.agg z7.toArray, .bool false]) ∧ Below w.heap.size w w' := by
  have HO := Lib.hid (fun W => c_operations W)
  have hc0 : ((c : Int) == 0) = false := by rw [beq_eq_false_iff_ne]; omega
  have hck : (((0 : Int)) != c) = true := by rw [bne_iff_ne]; omega
  clear hc hk
  go_enter Tryz.func76, Tryz.ntmps76
  go_wp2_with fail
  have hr0 := heap_alloc_new w (.cells z7.toArray 118)
  refine (HO.out _).mono ?_
  rintro e w1 ⟨rfl, hb1⟩
  have hr1 : w1.heap[w.heap.size]? = some (.cells z7.toArray 118 (0, 0)) := (hb1.block _ (by simp)).trans hr0
  have hlt : w.heap.size < w1.heap.size := (Array.getElem?_eq_some_iff.1 hr1).1
  have HB1 : Hid (Below w.heap.size w w1) := btr ((Below.refl _ _).alloc (Nat.le_refl _) _) hb1
  clear hr0 hb1
  generalize HT : tab.toArray = TT
  have HH := Lib.hid HT
  clear HT HO
  go_wp2_with (first | (refine wpList_store_row 158 _ _ rfl rfl rfl w1.heap.size 158 rfl tab (congrArg Value.agg HH.out.symm) _ (heap_alloc_new w1 _) (by kernel_rfl) info_tab tab_one ?_; intro w2 hh2 hg2 hz2; have hr2 : w2.heap[w.heap.size]? = some (.cells z7.toArray 118 (0, 0)) := (hg2.block _ (by simp; omega) (by simp; omega)).trans ((Below.heap_alloc w1 _ _ hlt).trans hr1); have HB2 : Hid (Below w.heap.size w w2) := (HB1.out.alloc (by omega) _).grown hg2 (by simp; omega) (fun k hk => by injection hk with hk; omega); clear hz2 hg2 hr1; have c0 : w2.cell? ⟨w1.heap.size, 21, none⟩ = some (.int .i64 0) := (by rw [cell_of_row _ _ _ _ _ _ hh2]; kernel_rfl)) | (refine wpList_store_row 118 _ _ rfl rfl rfl w.heap.size 118 rfl z7 rfl _ hr2 rfl info_op z7_one ?_; intro w3 hh3 hg3 hz3; have HB3 : Hid (Below w.heap.size w w3) := HB2.out.grown hg3 (HB2.out.size) (fun k hk => by injection hk with hk; omega); clear hz3 hg3))
  refine bodyPost_ret (v := .tuple #[.agg z7.toArray, .bool false]) (results_cell_tmp Tryz.results76 _ _ w.heap.size 118 _ (0, 0) _ rfl hh3 Tryz.underlying118 rfl (by rw [info_op]; rfl)) rfl ⟨rfl, HB3.out⟩

set_option maxRecDepth 100000 in
set_option maxHeartbeats 4000000 in
theorem f_no4 (w : World) (c : Int) (hc : 0 < c) (hk : c ≠ 1) :
    Calls Tryz.prog 76 #[.int .i64 4, .int .i64 c] w fun e w' => e = .returned (.tuple #[.agg z7.toArray, .bool false]) ∧ Below w.heap.size w w' := by
  have HO := Lib.hid (fun W => c_operations W)
  have hc0 : ((c : Int) == 0) = false := by rw [beq_eq_false_iff_ne]; omega
  have hck : (((1 : Int)) != c) = true := by rw [bne_iff_ne]; omega
  clear hc hk
  go_enter Tryz.func76, Tryz.ntmps76
  go_wp2_with fail
  have hr0 := heap_alloc_new w (.cells z7.toArray 118)
  refine (HO.out _).mono ?_
  rintro e w1 ⟨rfl, hb1⟩
  have hr1 : w1.heap[w.heap.size]? = some (.cells z7.toArray 118 (0, 0)) := (hb1.block _ (by simp)).trans hr0
  have hlt : w.heap.size < w1.heap.size := (Array.getElem?_eq_some_iff.1 hr1).1
  have HB1 : Hid (Below w.heap.size w w1) := btr ((Below.refl _ _).alloc (Nat.le_refl _) _) hb1
  clear hr0 hb1
  generalize HT : tab.toArray = TT
  have HH := Lib.hid HT
  clear HT HO
  go_wp2_with (first | (refine wpList_store_row 158 _ _ rfl rfl rfl w1.heap.size 158 rfl tab (congrArg Value.agg HH.out.symm) _ (heap_alloc_new w1 _) (by kernel_rfl) info_tab tab_one ?_; intro w2 hh2 hg2 hz2; have hr2 : w2.heap[w.heap.size]? = some (.cells z7.toArray 118 (0, 0)) := (hg2.block _ (by simp; omega) (by simp; omega)).trans ((Below.heap_alloc w1 _ _ hlt).trans hr1); have HB2 : Hid (Below w.heap.size w w2) := (HB1.out.alloc (by omega) _).grown hg2 (by simp; omega) (fun k hk => by injection hk with hk; omega); clear hz2 hg2 hr1; have c0 : w2.cell? ⟨w1.heap.size, 28, none⟩ = some (.int .i64 1) := (by rw [cell_of_row _ _ _ _ _ _ hh2]; kernel_rfl)) | (refine wpList_store_row 118 _ _ rfl rfl rfl w.heap.size 118 rfl z7 rfl _ hr2 rfl info_op z7_one ?_; intro w3 hh3 hg3 hz3; have HB3 : Hid (Below w.heap.size w w3) := HB2.out.grown hg3 (HB2.out.size) (fun k hk => by injection hk with hk; omega); clear hz3 hg3))
  refine bodyPost_ret (v := .tuple #[.agg z7.toArray, .bool false]) (results_cell_tmp Tryz.results76 _ _ w.heap.size 118 _ (0, 0) _ rfl hh3 Tryz.underlying118 rfl (by rw [info_op]; rfl)) rfl ⟨rfl, HB3.out⟩

set_option maxRecDepth 100000 in
set_option maxHeartbeats 4000000 in
theorem f_no5 (w : World) (c : Int) (hc : 0 < c) (hk : c ≠ 1) :
    Calls Tryz.prog 76 #[.int .i64 5, .int .i64 c] w fun e w' => e = .returned (.tuple #[.agg z7.toArray, .bool false]) ∧ Below w.heap.size w w' := by
  have HO := Lib.hid (fun W => c_operations W)
  have hc0 : ((c : Int) == 0) = false := by rw [beq_eq_false_iff_ne]; omega
  have hck : (((1 : Int)) != c) = true := by rw [bne_iff_ne]; omega
  clear hc hk
  go_enter Tryz.func76, Tryz.ntmps76
  go_wp2_with fail
  have hr0 := heap_alloc_new w (.cells z7.toArray 118)
  refine (HO.out _).mono ?_
  rintro e w1 ⟨rfl, hb1⟩
  have hr1 : w1.heap[w.heap.size]? = some (.cells z7.toArray 118 (0, 0)) := (hb1.block _ (by simp)).trans hr0
  have hlt : w.heap.size < w1.heap.size := (Array.getElem?_eq_some_iff.1 hr1).1
  have HB1 : Hid (Below w.heap.size w w1) := btr ((Below.refl _ _).alloc (Nat.le_refl _) _) hb1
  clear hr0 hb1
  generalize HT : tab.toArray = TT
  have HH := Lib.hid HT
  clear HT HO
  go_wp2_with (first | (refine wpList_store_row 158 _ _ rfl rfl rfl w1.heap.size 158 rfl tab (congrArg Value.agg HH.out.symm) _ (heap_alloc_new w1 _) (by kernel_rfl) info_tab tab_one ?_; intro w2 hh2 hg2 hz2; have hr2 : w2.heap[w.heap.size]? = some (.cells z7.toArray 118 (0, 0)) := (hg2.block _ (by simp; omega) (by simp; omega)).trans ((Below.heap_alloc w1 _ _ hlt).trans hr1); have HB2 : Hid (Below w.heap.size w w2) := (HB1.out.alloc (by omega) _).grown hg2 (by simp; omega) (fun k hk => by injection hk with hk; omega); clear hz2 hg2 hr1; have c0 : w2.cell? ⟨w1.heap.size, 35, none⟩ = some (.int .i64 1) := (by rw [cell_of_row _ _ _ _ _ _ hh2]; kernel_rfl)) | (refine wpList_store_row 118 _ _ rfl rfl rfl w.heap.size 118 rfl z7 rfl _ hr2 rfl info_op z7_one ?_; intro w3 hh3 hg3 hz3; have HB3 : Hid (Below w.heap.size w w3) := HB2.out.grown hg3 (HB2.out.size) (fun k hk => by injection hk with hk; omega); clear hz3 hg3))
  refine bodyPost_ret (v := .tuple #[.agg z7.toArray, .bool false]) (results_cell_tmp Tryz.results76 _ _ w.heap.size 118 _ (0, 0) _ rfl hh3 Tryz.underlying118 rfl (by rw [info_op]; rfl)) rfl ⟨rfl, HB3.out⟩

set_option maxRecDepth 100000 in
set_option maxHeartbeats 4000000 in
theorem f_no6 (w : World) (c : Int) (hc : 0 < c) (hk : c ≠ 1) :
    Calls Tryz.prog 76 #[.int .i64 6, .int .i64 c] w fun e w' => e = .returned (.tuple #[.agg z7.toArray, .bool false]) ∧ Below w.heap.size w w' := by
  have HO := Lib.hid (fun W => c_operations W)
  have hc0 : ((c : Int) == 0) = false := by rw [beq_eq_false_iff_ne]; omega
  have hck : (((1 : Int)) != c) = true := by rw [bne_iff_ne]; omega
  clear hc hk
  go_enter Tryz.func76, Tryz.ntmps76
  go_wp2_with fail
  have hr0 := heap_alloc_new w (.cells z7.toArray 118)
  refine (HO.out _).mono ?_
  rintro e w1 ⟨rfl, hb1⟩
  have hr1 : w1.heap[w.heap.size]? = some (.cells z7.toArray 118 (0, 0)) := (hb1.block _ (by simp)).trans hr0
  have hlt : w.heap.size < w1.heap.size := (Array.getElem?_eq_some_iff.1 hr1).1
  have HB1 : Hid (Below w.heap.size w w1) := btr ((Below.refl _ _).alloc (Nat.le_refl _) _) hb1
  clear hr0 hb1
  generalize HT : tab.toArray = TT
  have HH := Lib.hid HT
  clear HT HO
  go_wp2_with (first | (refine wpList_store_row 158 _ _ rfl rfl rfl w1.heap.size 158 rfl tab (congrArg Value.agg HH.out.symm) _ (heap_alloc_new w1 _) (by kernel_rfl) info_tab tab_one ?_; intro w2 hh2 hg2 hz2; have hr2 : w2.heap[w.heap.size]? = some (.cells z7.toArray 118 (0, 0)) := (hg2.block _ (by simp; omega) (by simp; omega)).trans ((Below.heap_alloc w1 _ _ hlt).trans hr1); have HB2 : Hid (Below w.heap.size w w2) := (HB1.out.alloc (by omega) _).grown hg2 (by simp; omega) (fun k hk => by injection hk with hk; omega); clear hz2 hg2 hr1; have c0 : w2.cell? ⟨w1.heap.size, 42, none⟩ = some (.int .i64 1) := (by rw [cell_of_row _ _ _ _ _ _ hh2]; kernel_rfl)) | (refine wpList_store_row 118 _ _ rfl rfl rfl w.heap.size 118 rfl z7 rfl _ hr2 rfl info_op z7_one ?_; intro w3 hh3 hg3 hz3; have HB3 : Hid (Below w.heap.size w w3) := HB2.out.grown hg3 (HB2.out.size) (fun k hk => by injection hk with hk; omega); clear hz3 hg3))
  refine bodyPost_ret (v := .tuple #[.agg z7.toArray, .bool false]) (results_cell_tmp Tryz.results76 _ _ w.heap.size 118 _ (0, 0) _ rfl hh3 Tryz.underlying118 rfl (by rw [info_op]; rfl)) rfl ⟨rfl, HB3.out⟩

set_option maxRecDepth 100000 in
set_option maxHeartbeats 4000000 in
theorem f_no7 (w : World) (c : Int) (hc : 0 < c) (hk : c ≠ 1) :
    Calls Tryz.prog 76 #[.int .i64 7, .int .i64 c] w fun e w' => e = .returned (.tuple #[.agg z7.toArray, .bool false]) ∧ Below w.heap.size w w' := by
  have HO := Lib.hid (fun W => c_operations W)
  have hc0 : ((c : Int) == 0) = false := by rw [beq_eq_false_iff_ne]; omega
  have hck : (((1 : Int)) != c) = true := by rw [bne_iff_ne]; omega
  clear hc hk
  go_enter Tryz.func76, Tryz.ntmps76
  go_wp2_with fail
  have hr0 := heap_alloc_new w (.cells z7.toArray 118)
  refine (HO.out _).mono ?_
  rintro e w1 ⟨rfl, hb1⟩
  have hr1 : w1.heap[w.heap.size]? = some (.cells z7.toArray 118 (0, 0)) := (hb1.block _ (by simp)).trans hr0
  have hlt : w.heap.size < w1.heap.size := (Array.getElem?_eq_some_iff.1 hr1).1
  have HB1 : Hid (Below w.heap.size w w1) := btr ((Below.refl _ _).alloc (Nat.le_refl _) _) hb1
  clear hr0 hb1
  generalize HT : tab.toArray = TT
  have HH := Lib.hid HT
  clear HT HO
  go_wp2_with (first | (refine wpList_store_row 158 _ _ rfl rfl rfl w1.heap.size 158 rfl tab (congrArg Value.agg HH.out.symm) _ (heap_alloc_new w1 _) (by kernel_rfl) info_tab tab_one ?_; intro w2 hh2 hg2 hz2; have hr2 : w2.heap[w.heap.size]? = some (.cells z7.toArray 118 (0, 0)) := (hg2.block _ (by simp; omega) (by simp; omega)).trans ((Below.heap_alloc w1 _ _ hlt).trans hr1); have HB2 : Hid (Below w.heap.size w w2) := (HB1.out.alloc (by omega) _).grown hg2 (by simp; omega) (fun k hk => by injection hk with hk; omega); clear hz2 hg2 hr1; have c0 : w2.cell? ⟨w1.heap.size, 49, none⟩ = some (.int .i64 1) := (by rw [cell_of_row _ _ _ _ _ _ hh2]; kernel_rfl)) | (refine wpList_store_row 118 _ _ rfl rfl rfl w.heap.size 118 rfl z7 rfl _ hr2 rfl info_op z7_one ?_; intro w3 hh3 hg3 hz3; have HB3 : Hid (Below w.heap.size w w3) := HB2.out.grown hg3 (HB2.out.size) (fun k hk => by injection hk with hk; omega); clear hz3 hg3))
  refine bodyPost_ret (v := .tuple #[.agg z7.toArray, .bool false]) (results_cell_tmp Tryz.results76 _ _ w.heap.size 118 _ (0, 0) _ rfl hh3 Tryz.underlying118 rfl (by rw [info_op]; rfl)) rfl ⟨rfl, HB3.out⟩

set_option maxRecDepth 100000 in
set_option maxHeartbeats 4000000 in
theorem f_no8 (w : World) (c : Int) (hc : 0 < c) (hk : c ≠ 1) :
    Calls Tryz.prog 76 #[.int .i64 8, .int .i64 c] w fun e w' => e = .returned (.tuple #[.agg z7.toArray, .bool false]) ∧ Below w.heap.size w w' := by
  have HO := Lib.hid (fun W => c_operations W)
  have hc0 : ((c : Int) == 0) = false := by rw [beq_eq_false_iff_ne]; omega
  have hck : (((1 : Int)) != c) = true := by rw [bne_iff_ne]; omega
  clear hc hk
  go_enter Tryz.func76, Tryz.ntmps76
  go_wp2_with fail
  have hr0 := heap_alloc_new w (.cells z7.toArray 118)
  refine (HO.out _).mono ?_
  rintro e w1 ⟨rfl, hb1⟩
  have hr1 : w1.heap[w.heap.size]? = some (.cells z7.toArray 118 (0, 0)) := (hb1.block _ (by simp)).trans hr0
  have hlt : w.heap.size < w1.heap.size := (Array.getElem?_eq_some_iff.1 hr1).1
  have HB1 : Hid (Below w.heap.size w w1) := btr ((Below.refl _ _).alloc (Nat.le_refl _) _) hb1
  clear hr0 hb1
  generalize HT : tab.toArray = TT
  have HH := Lib.hid HT
  clear HT HO
  go_wp2_with (first | (refine wpList_store_row 158 _ _ rfl rfl rfl w1.heap.size 158 rfl tab (congrArg Value.agg HH.out.symm) _ (heap_alloc_new w1 _) (by kernel_rfl) info_tab tab_one ?_; intro w2 hh2 hg2 hz2; have hr2 : w2.heap[w.heap.size]? = some (.cells z7.toArray 118 (0, 0)) := (hg2.block _ (by simp; omega) (by simp; omega)).trans ((Below.heap_alloc w1 _ _ hlt).trans hr1); have HB2 : Hid (Below w.heap.size w w2) := (HB1.out.alloc (by omega) _).grown hg2 (by simp; omega) (fun k hk => by injection hk with hk; omega); clear hz2 hg2 hr1; have c0 : w2.cell? ⟨w1.heap.size, 56, none⟩ = some (.int .i64 1) := (by rw [cell_of_row _ _ _ _ _ _ hh2]; kernel_rfl)) | (refine wpList_store_row 118 _ _ rfl rfl rfl w.heap.size 118 rfl z7 rfl _ hr2 rfl info_op z7_one ?_; intro w3 hh3 hg3 hz3; have HB3 : Hid (Below w.heap.size w w3) := HB2.out.grown hg3 (HB2.out.size) (fun k hk => by injection hk with hk; omega); clear hz3 hg3))
  refine bodyPost_ret (v := .tuple #[.agg z7.toArray, .bool false]) (results_cell_tmp Tryz.results76 _ _ w.heap.size 118 _ (0, 0) _ rfl hh3 Tryz.underlying118 rfl (by rw [info_op]; rfl)) rfl ⟨rfl, HB3.out⟩

set_option maxRecDepth 100000 in
set_option maxHeartbeats 4000000 in
theorem f_no9 (w : World) (c : Int) (hc : 0 < c) (hk : c ≠ 2) :
    Calls Tryz.prog 76 #[.int .i64 9, .int .i64 c] w fun e w' => e = .returned (.tuple #[.agg z7.toArray, .bool false]) ∧ Below w.heap.size w w' := by
  have HO := Lib.hid (fun W => c_operations W)
  have hc0 : ((c : Int) == 0) = false := by rw [beq_eq_false_iff_ne]; omega
  have hck : (((2 : Int)) != c) = true := by rw [bne_iff_ne]; omega
  clear hc hk
  go_enter Tryz.func76, Tryz.ntmps76
  go_wp2_with fail
  have hr0 := heap_alloc_new w (.cells z7.toArray 118)
  refine (HO.out _).mono ?_
  rintro e w1 ⟨rfl, hb1⟩
  have hr1 : w1.heap[w.heap.size]? = some (.cells z7.toArray 118 (0, 0)) := (hb1.block _ (by simp)).trans hr0
  have hlt : w.heap.size < w1.heap.size := (Array.getElem?_eq_some_iff.1 hr1).1
  have HB1 : Hid (Below w.heap.size w w1) := btr ((Below.refl _ _).alloc (Nat.le_refl _) _) hb1
  clear hr0 hb1
  generalize HT : tab.toArray = TT
  have HH := Lib.hid HT
  clear HT HO
  go_wp2_with (first | (refine wpList_store_row 158 _ _ rfl rfl rfl w1.heap.size 158 rfl tab (congrArg Value.agg HH.out.symm) _ (heap_alloc_new w1 _) (by kernel_rfl) info_tab tab_one ?_; intro w2 hh2 hg2 hz2; have hr2 : w2.heap[w.heap.size]? = some (.cells z7.toArray 118 (0, 0)) := (hg2.block _ (by simp; omega) (by simp; omega)).trans ((Below.heap_alloc w1 _ _ hlt).trans hr1); have HB2 : Hid (Below w.heap.size w w2) := (HB1.out.alloc (by omega) _).grown hg2 (by simp; omega) (fun k hk => by injection hk with hk; omega); clear hz2 hg2 hr1; have c0 : w2.cell? ⟨w1.heap.size, 63, none⟩ = some (.int .i64 2) := (by rw [cell_of_row _ _ _ _ _ _ hh2]; kernel_rfl)) | (refine wpList_store_row 118 _ _ rfl rfl rfl w.heap.size 118 rfl z7 rfl _ hr2 rfl info_op z7_one ?_; intro w3 hh3 hg3 hz3; have HB3 : Hid (Below w.heap.size w w3) := HB2.out.grown hg3 (HB2.out.size) (fun k hk => by injection hk with hk; omega); clear hz3 hg3))
  refine bodyPost_ret (v := .tuple #[.agg z7.toArray, .bool false]) (results_cell_tmp Tryz.results76 _ _ w.heap.size 118 _ (0, 0) _ rfl hh3 Tryz.underlying118 rfl (by rw [info_op]; rfl)) rfl ⟨rfl, HB3.out⟩

set_option maxRecDepth 100000 in
set_option maxHeartbeats 4000000 in
theorem f_no10 (w : World) (c : Int) (hc : 0 < c) (hk : c ≠ 2) :
    Calls Tryz.prog 76 #[.int .i64 10, .int .i64 c] w fun e w' => e = .returned (.tuple #[.agg z7.toArray, .bool false]) ∧ Below w.heap.size w w' := by
  have HO := Lib.hid (fun W => c_operations W)
  have hc0 : ((c : Int) == 0) = false := by rw [beq_eq_false_iff_ne]; omega
  have hck : (((2 : Int)) != c) = true := by rw [bne_iff_ne]; omega
  clear hc hk
  go_enter Tryz.func76, Tryz.ntmps76
  go_wp2_with fail
  have hr0 := heap_alloc_new w (.cells z7.toArray 118)
  refine (HO.out _).mono ?_
  rintro e w1 ⟨rfl, hb1⟩
  have hr1 : w1.heap[w.heap.size]? = some (.cells z7.toArray 118 (0, 0)) := (hb1.block _ (by simp)).trans hr0
  have hlt : w.heap.size < w1.heap.size := (Array.getElem?_eq_some_iff.1 hr1).1
  have HB1 : Hid (Below w.heap.size w w1) := btr ((Below.refl _ _).alloc (Nat.le_refl _) _) hb1
  clear hr0 hb1
  generalize HT : tab.toArray = TT
  have HH := Lib.hid HT
  clear HT HO
  go_wp2_with (first | (refine wpList_store_row 158 _ _ rfl rfl rfl w1.heap.size 158 rfl tab (congrArg Value.agg HH.out.symm) _ (heap_alloc_new w1 _) (by kernel_rfl) info_tab tab_one ?_; intro w2 hh2 hg2 hz2; have hr2 : w2.heap[w.heap.size]? = some (.cells z7.toArray 118 (0, 0)) := (hg2.block _ (by simp; omega) (by simp; omega)).trans ((Below.heap_alloc w1 _ _ hlt).trans hr1); have HB2 : Hid (Below w.heap.size w w2) := (HB1.out.alloc (by omega) _).grown hg2 (by simp; omega) (fun k hk => by injection hk with hk; omega); clear hz2 hg2 hr1; have c0 : w2.cell? ⟨w1.heap.size, 70, none⟩ = some (.int .i64 2) := (by rw [cell_of_row _ _ _ _ _ _ hh2]; kernel_rfl)) | (refine wpList_store_row 118 _ _ rfl rfl rfl w.heap.size 118 rfl z7 rfl _ hr2 rfl info_op z7_one ?_; intro w3 hh3 hg3 hz3; have HB3 : Hid (Below w.heap.size w w3) := HB2.out.grown hg3 (HB2.out.size) (fun k hk => by injection hk with hk; omega); clear hz3 hg3))
  refine bodyPost_ret (v := .tuple #[.agg z7.toArray, .bool false]) (results_cell_tmp Tryz.results76 _ _ w.heap.size 118 _ (0, 0) _ rfl hh3 Tryz.underlying118 rfl (by rw [info_op]; rfl)) rfl ⟨rfl, HB3.out⟩

set_option maxRecDepth 100000 in
set_option maxHeartbeats 4000000 in
theorem f_no11 (w : World) (c : Int) (hc : 0 < c) (hk : c ≠ 2) :
    Calls Tryz.prog 76 #[.int .i64 11, .int .i64 c] w fun e w' => e = .returned (.tuple #[.agg z7.toArray, .bool false]) ∧ Below w.heap.size w w' := by
  have HO := Lib.hid (fun W => c_operations W)
  have hc0 : ((c : Int) == 0) = false := by rw [beq_eq_false_iff_ne]; omega
  have hck : (((2 : Int)) != c) = true := by rw [bne_iff_ne]; omega
  clear hc hk
  go_enter Tryz.func76, Tryz.ntmps76
  go_wp2_with fail
  have hr0 := heap_alloc_new w (.cells z7.toArray 118)
  refine (HO.out _).mono ?_
  rintro e w1 ⟨rfl, hb1⟩
  have hr1 : w1.heap[w.heap.size]? = some (.cells z7.toArray 118 (0, 0)) := (hb1.block _ (by simp)).trans hr0
  have hlt : w.heap.size < w1.heap.size := (Array.getElem?_eq_some_iff.1 hr1).1
  have HB1 : Hid (Below w.heap.size w w1) := btr ((Below.refl _ _).alloc (Nat.le_refl _) _) hb1
  clear hr0 hb1
  generalize HT : tab.toArray = TT
  have HH := Lib.hid HT
  clear HT HO
  go_wp2_with (first | (refine wpList_store_row 158 _ _ rfl rfl rfl w1.heap.size 158 rfl tab (congrArg Value.agg HH.out.symm) _ (heap_alloc_new w1 _) (by kernel_rfl) info_tab tab_one ?_; intro w2 hh2 hg2 hz2; have hr2 : w2.heap[w.heap.size]? = some (.cells z7.toArray 118 (0, 0)) := (hg2.block _ (by simp; omega) (by simp; omega)).trans ((Below.heap_alloc w1 _ _ hlt).trans hr1); have HB2 : Hid (Below w.heap.size w w2) := (HB1.out.alloc (by omega) _).grown hg2 (by simp; omega) (fun k hk => by injection hk with hk; omega); clear hz2 hg2 hr1; have c0 : w2.cell? ⟨w1.heap.size, 77, none⟩ = some (.int .i64 2) := (by rw [cell_of_row _ _ _ _ _ _ hh2]; kernel_rfl)) | (refine wpList_store_row 118 _ _ rfl rfl rfl w.heap.size 118 rfl z7 rfl _ hr2 rfl info_op z7_one ?_; intro w3 hh3 hg3 hz3; have HB3 : Hid (Below w.heap.size w w3) := HB2.out.grown hg3 (HB2.out.size) (fun k hk => by injection hk with hk; omega); clear hz3 hg3))
  refine bodyPost_ret (v := .tuple #[.agg z7.toArray, .bool false]) (results_cell_tmp Tryz.results76 _ _ w.heap.size 118 _ (0, 0) _ rfl hh3 Tryz.underlying118 rfl (by rw [info_op]; rfl)) rfl ⟨rfl, HB3.out⟩

set_option maxRecDepth 100000 in
set_option maxHeartbeats 4000000 in
theorem f_no12 (w : World) (c : Int) (hc : 0 < c) (hk : c ≠ 2) :
    Calls Tryz.prog 76 #[.int .i64 12, .int .i64 c] w fun e w' => e = .returned (.tuple #[.agg z7.toArray, .bool false]) ∧ Below w.heap.size w w' := by
  have HO := Lib.hid (fun W => c_operations W)
  have hc0 : ((c : Int) == 0) = false := by rw [beq_eq_false_iff_ne]; omega
  have hck : (((2 : Int)) != c) = true := by rw [bne_iff_ne]; omega
  clear hc hk
  go_enter Tryz.func76, Tryz.ntmps76
  go_wp2_with fail
  have hr0 := heap_alloc_new w (.cells z7.toArray 118)
  refine (HO.out _).mono ?_
  rintro e w1 ⟨rfl, hb1⟩
  have hr1 : w1.heap[w.heap.size]? = some (.cells z7.toArray 118 (0, 0)) := (hb1.block _ (by simp)).trans hr0
  have hlt : w.heap.size < w1.heap.size := (Array.getElem?_eq_some_iff.1 hr1).1
  have HB1 : Hid (Below w.heap.size w w1) := btr ((Below.refl _ _).alloc (Nat.le_refl _) _) hb1
  clear hr0 hb1
  generalize HT : tab.toArray = TT
  have HH := Lib.hid HT
  clear HT HO
  go_wp2_with (first | (refine wpList_store_row 158 _ _ rfl rfl rfl w1.heap.size 158 rfl tab (congrArg Value.agg HH.out.symm) _ (heap_alloc_new w1 _) (by kernel_rfl) info_tab tab_one ?_; intro w2 hh2 hg2 hz2; have hr2 : w2.heap[w.heap.size]? = some (.cells z7.toArray 118 (0, 0)) := (hg2.block _ (by simp; omega) (by simp; omega)).trans ((Below.heap_alloc w1 _ _ hlt).trans hr1); have HB2 : Hid (Below w.heap.size w w2) := (HB1.out.alloc (by omega) _).grown hg2 (by simp; omega) (fun k hk => by injection hk with hk; omega); clear hz2 hg2 hr1; have c0 : w2.cell? ⟨w1.heap.size, 84, none⟩ = some (.int .i64 2) := (by rw [cell_of_row _ _ _ _ _ _ hh2]; kernel_rfl)) | (refine wpList_store_row 118 _ _ rfl rfl rfl w.heap.size 118 rfl z7 rfl _ hr2 rfl info_op z7_one ?_; intro w3 hh3 hg3 hz3; have HB3 : Hid (Below w.heap.size w w3) := HB2.out.grown hg3 (HB2.out.size) (fun k hk => by injection hk with hk; omega); clear hz3 hg3))
  refine bodyPost_ret (v := .tuple #[.agg z7.toArray, .bool false]) (results_cell_tmp Tryz.results76 _ _ w.heap.size 118 _ (0, 0) _ rfl hh3 Tryz.underlying118 rfl (by rw [info_op]; rfl)) rfl ⟨rfl, HB3.out⟩

set_option maxRecDepth 100000 in
set_option maxHeartbeats 4000000 in
theorem f_no13 (w : World) (c : Int) (hc : 0 < c) (hk : c ≠ 2) :
    Calls Tryz.prog 76 #[.int .i64 13, .int .i64 c] w fun e w' => e = .returned (.tuple #[.agg z7.toArray, .bool false]) ∧ Below w.heap.size w w' := by
  have HO := Lib.hid (fun W => c_operations W)
  have hc0 : ((c : Int) == 0) = false := by rw [beq_eq_false_iff_ne]; omega
  have hck : (((2 : Int)) != c) = true := by rw [bne_iff_ne]; omega
  clear hc hk
  go_enter Tryz.func76, Tryz.ntmps76
  go_wp2_with fail
  have hr0 := heap_alloc_new w (.cells z7.toArray 118)
  refine (HO.out _).mono ?_
  rintro e w1 ⟨rfl, hb1⟩
  have hr1 : w1.heap[w.heap.size]? = some (.cells z7.toArray 118 (0, 0)) := (hb1.block _ (by simp)).trans hr0
  have hlt : w.heap.size < w1.heap.size := (Array.getElem?_eq_some_iff.1 hr1).1
  have HB1 : Hid (Below w.heap.size w w1) := btr ((Below.refl _ _).alloc (Nat.le_refl _) _) hb1
  clear hr0 hb1
  generalize HT : tab.toArray = TT
  have HH := Lib.hid HT
  clear HT HO
  go_wp2_with (first | (refine wpList_store_row 158 _ _ rfl rfl rfl w1.heap.size 158 rfl tab (congrArg Value.agg HH.out.symm) _ (heap_alloc_new w1 _) (by kernel_rfl) info_tab tab_one ?_; intro w2 hh2 hg2 hz2; have hr2 : w2.heap[w.heap.size]? = some (.cells z7.toArray 118 (0, 0)) := (hg2.block _ (by simp; omega) (by simp; omega)).trans ((Below.heap_alloc w1 _ _ hlt).trans hr1); have HB2 : Hid (Below w.heap.size w w2) := (HB1.out.alloc (by omega) _).grown hg2 (by simp; omega) (fun k hk => by injection hk with hk; omega); clear hz2 hg2 hr1; have c0 : w2.cell? ⟨w1.heap.size, 91, none⟩ = some (.int .i64 2) := (by rw [cell_of_row _ _ _ _ _ _ hh2]; kernel_rfl)) | (refine wpList_store_row 118 _ _ rfl rfl rfl w.heap.size 118 rfl z7 rfl _ hr2 rfl info_op z7_one ?_; intro w3 hh3 hg3 hz3; have HB3 : Hid (Below w.heap.size w w3) := HB2.out.grown hg3 (HB2.out.size) (fun k hk => by injection hk with hk; omega); clear hz3 hg3))
  refine bodyPost_ret (v := .tuple #[.agg z7.toArray, .bool false]) (results_cell_tmp Tryz.results76 _ _ w.heap.size 118 _ (0, 0) _ rfl hh3 Tryz.underlying118 rfl (by rw [info_op]; rfl)) rfl ⟨rfl, HB3.out⟩

set_option maxRecDepth 100000 in
set_option maxHeartbeats 4000000 in
theorem f_no14 (w : World) (c : Int) (hc : 0 < c) (hk : c ≠ 2) :
    Calls Tryz.prog 76 #[.int .i64 14, .int .i64 c] w fun e w' => e = .returned (.tuple #[.agg z7.toArray, .bool false]) ∧ Below w.heap.size w w' := by
  have HO := Lib.hid (fun W => c_operations W)
  have hc0 : ((c : Int) == 0) = false := by rw [beq_eq_false_iff_ne]; omega
  have hck : (((2 : Int)) != c) = true := by rw [bne_iff_ne]; omega
  clear hc hk
  go_enter Tryz.func76, Tryz.ntmps76
  go_wp2_with fail
  have hr0 := heap_alloc_new w (.cells z7.toArray 118)
  refine (HO.out _).mono ?_
  rintro e w1 ⟨rfl, hb1⟩
  have hr1 : w1.heap[w.heap.size]? = some (.cells z7.toArray 118 (0, 0)) := (hb1.block _ (by simp)).trans hr0
  have hlt : w.heap.size < w1.heap.size := (Array.getElem?_eq_some_iff.1 hr1).1
  have HB1 : Hid (Below w.heap.size w w1) := btr ((Below.refl _ _).alloc (Nat.le_refl _) _) hb1
  clear hr0 hb1
  generalize HT : tab.toArray = TT
  have HH := Lib.hid HT
  clear HT HO
  go_wp2_with (first | (refine wpList_store_row 158 _ _ rfl rfl rfl w1.heap.size 158 rfl tab (congrArg Value.agg HH.out.symm) _ (heap_alloc_new w1 _) (by kernel_rfl) info_tab tab_one ?_; intro w2 hh2 hg2 hz2; have hr2 : w2.heap[w.heap.size]? = some (.cells z7.toArray 118 (0, 0)) := (hg2.block _ (by simp; omega) (by simp; omega)).trans ((Below.heap_alloc w1 _ _ hlt).trans hr1); have HB2 : Hid (Below w.heap.size w w2) := (HB1.out.alloc (by omega) _).grown hg2 (by simp; omega) (fun k hk => by injection hk with hk; omega); clear hz2 hg2 hr1; have c0 : w2.cell? ⟨w1.heap.size, 98, none⟩ = some (.int .i64 2) := (by rw [cell_of_row _ _ _ _ _ _ hh2]; kernel_rfl)) | (refine wpList_store_row 118 _ _ rfl rfl rfl w.heap.size 118 rfl z7 rfl _ hr2 rfl info_op z7_one ?_; intro w3 hh3 hg3 hz3; have HB3 : Hid (Below w.heap.size w w3) := HB2.out.grown hg3 (HB2.out.size) (fun k hk => by injection hk with hk; omega); clear hz3 hg3))
  refine bodyPost_ret (v := .tuple #[.agg z7.toArray, .bool false]) (results_cell_tmp Tryz.results76 _ _ w.heap.size 118 _ (0, 0) _ rfl hh3 Tryz.underlying118 rfl (by rw [info_op]; rfl)) rfl ⟨rfl, HB3.out⟩

set_option maxRecDepth 100000 in
set_option maxHeartbeats 4000000 in
theorem f_no15 (w : World) (c : Int) (hc : 0 < c) (hk : c ≠ 2) :
    Calls Tryz.prog 76 #[.int .i64 15, .int .i64 c] w fun e w' => e = .returned (.tuple #[.agg z7.toArray, .bool false]) ∧ Below w.heap.size w w' := by
  have HO := Lib.hid (fun W => c_operations W)
  have hc0 : ((c : Int) == 0) = false := by rw [beq_eq_false_iff_ne]; omega
  have hck : (((2 : Int)) != c) = true := by rw [bne_iff_ne]; omega
  clear hc hk
  go_enter Tryz.func76, Tryz.ntmps76
  go_wp2_with fail
  have hr0 := heap_alloc_new w (.cells z7.toArray 118)
  refine (HO.out _).mono ?_
  rintro e w1 ⟨rfl, hb1⟩
  have hr1 : w1.heap[w.heap.size]? = some (.cells z7.toArray 118 (0, 0)) := (hb1.block _ (by simp)).trans hr0
  have hlt : w.heap.size < w1.heap.size := (Array.getElem?_eq_some_iff.1 hr1).1
  have HB1 : Hid (Below w.heap.size w w1) := btr ((Below.refl _ _).alloc (Nat.le_refl _) _) hb1
  clear hr0 hb1
  generalize HT : tab.toArray = TT
  have HH := Lib.hid HT
  clear HT HO
  go_wp2_with (first | (refine wpList_store_row 158 _ _ rfl rfl rfl w1.heap.size 158 rfl tab (congrArg Value.agg HH.out.symm) _ (heap_alloc_new w1 _) (by kernel_rfl) info_tab tab_one ?_; intro w2 hh2 hg2 hz2; have hr2 : w2.heap[w.heap.size]? = some (.cells z7.toArray 118 (0, 0)) := (hg2.block _ (by simp; omega) (by simp; omega)).trans ((Below.heap_alloc w1 _ _ hlt).trans hr1); have HB2 : Hid (Below w.heap.size w w2) := (HB1.out.alloc (by omega) _).grown hg2 (by simp; omega) (fun k hk => by injection hk with hk; omega); clear hz2 hg2 hr1; have c0 : w2.cell? ⟨w1.heap.size, 105, none⟩ = some (.int .i64 2) := (by rw [cell_of_row _ _ _ _ _ _ hh2]; kernel_rfl)) | (refine wpList_store_row 118 _ _ rfl rfl rfl w.heap.size 118 rfl z7 rfl _ hr2 rfl info_op z7_one ?_; intro w3 hh3 hg3 hz3; have HB3 : Hid (Below w.heap.size w w3) := HB2.out.grown hg3 (HB2.out.size) (fun k hk => by injection hk with hk; omega); clear hz3 hg3))
  refine bodyPost_ret (v := .tuple #[.agg z7.toArray, .bool false]) (results_cell_tmp Tryz.results76 _ _ w.heap.size 118 _ (0, 0) _ rfl hh3 Tryz.underlying118 rfl (by rw [info_op]; rfl)) rfl ⟨rfl, HB3.out⟩

set_option maxRecDepth 100000 in
set_option maxHeartbeats 4000000 in
theorem f_no16 (w : World) (c : Int) (hc : 0 < c) (hk : c ≠ 2) :
    Calls Tryz.prog 76 #[.int .i64 16, .int .i64 c] w fun e w' => e = .returned (.tuple #[.agg z7.toArray, .bool false]) ∧ Below w.heap.size w w' := by
  have HO := Lib.hid (fun W => c_operations W)
  have hc0 : ((c : Int) == 0) = false := by rw [beq_eq_false_iff_ne]; omega
  have hck : (((2 : Int)) != c) = true := by rw [bne_iff_ne]; omega
  clear hc hk
  go_enter Tryz.func76, Tryz.ntmps76
  go_wp2_with fail
  have hr0 := heap_alloc_new w (.cells z7.toArray 118)
  refine (HO.out _).mono ?_
  rintro e w1 ⟨rfl, hb1⟩
  have hr1 : w1.heap[w.heap.size]? = some (.cells z7.toArray 118 (0, 0)) := (hb1.block _ (by simp)).trans hr0
  have hlt : w.heap.size < w1.heap.size := (Array.getElem?_eq_some_iff.1 hr1).1
  have HB1 : Hid (Below w.heap.size w w1) := btr ((Below.refl _ _).alloc (Nat.le_refl _) _) hb1
  clear hr0 hb1
  generalize HT : tab.toArray = TT
  have HH := Lib.hid HT
  clear HT HO
  go_wp2_with (first | (refine wpList_store_row 158 _ _ rfl rfl rfl w1.heap.size 158 rfl tab (congrArg Value.agg HH.out.symm) _ (heap_alloc_new w1 _) (by kernel_rfl) info_tab tab_one ?_; intro w2 hh2 hg2 hz2; have hr2 : w2.heap[w.heap.size]? = some (.cells z7.toArray 118 (0, 0)) := (hg2.block _ (by simp; omega) (by simp; omega)).trans ((Below.heap_alloc w1 _ _ hlt).trans hr1); have HB2 : Hid (Below w.heap.size w w2) := (HB1.out.alloc (by omega) _).grown hg2 (by simp; omega) (fun k hk => by injection hk with hk; omega); clear hz2 hg2 hr1; have c0 : w2.cell? ⟨w1.heap.size, 112, none⟩ = some (.int .i64 2) := (by rw [cell_of_row _ _ _ _ _ _ hh2]; kernel_rfl)) | (refine wpList_store_row 118 _ _ rfl rfl rfl w.heap.size 118 rfl z7 rfl _ hr2 rfl info_op z7_one ?_; intro w3 hh3 hg3 hz3; have HB3 : Hid (Below w.heap.size w w3) := HB2.out.grown hg3 (HB2.out.size) (fun k hk => by injection hk with hk; omega); clear hz3 hg3))
  refine bodyPost_ret (v := .tuple #[.agg z7.toArray, .bool false]) (results_cell_tmp Tryz.results76 _ _ w.heap.size 118 _ (0, 0) _ rfl hh3 Tryz.underlying118 rfl (by rw [info_op]; rfl)) rfl ⟨rfl, HB3.out⟩

set_option maxRecDepth 100000 in
set_option maxHeartbeats 4000000 in
theorem f_no17 (w : World) (c : Int) (hc : 0 < c) (hk : c ≠ 2) :
    Calls Tryz.prog 76 #[.int .i64 17, .int .i64 c] w fun e w' => e = .returned (.tuple #[.agg z7.toArray, .bool false]) ∧ Below w.heap.size w w' := by
  have HO := Lib.hid (fun W => c_operations W)
  have hc0 : ((c : Int) == 0) = false := by rw [beq_eq_false_iff_ne]; omega
  have hck : (((2 : Int)) != c) = true := by rw [bne_iff_ne]; omega
  clear hc hk
  go_enter Tryz.func76, Tryz.ntmps76
  go_wp2_with fail
  have hr0 := heap_alloc_new w (.cells z7.toArray 118)
  refine (HO.out _).mono ?_
  rintro e w1 ⟨rfl, hb1⟩
  have hr1 : w1.heap[w.heap.size]? = some (.cells z7.toArray 118 (0, 0)) := (hb1.block _ (by simp)).trans hr0
  have hlt : w.heap.size < w1.heap.size := (Array.getElem?_eq_some_iff.1 hr1).1
  have HB1 : Hid (Below w.heap.size w w1) := btr ((Below.refl _ _).alloc (Nat.le_refl _) _) hb1
  clear hr0 hb1
  generalize HT : tab.toArray = TT
  have HH := Lib.hid HT
  clear HT HO
  go_wp2_with (first | (refine wpList_store_row 158 _ _ rfl rfl rfl w1.heap.size 158 rfl tab (congrArg Value.agg HH.out.symm) _ (heap_alloc_new w1 _) (by kernel_rfl) info_tab tab_one ?_; intro w2 hh2 hg2 hz2; have hr2 : w2.heap[w.heap.size]? = some (.cells z7.toArray 118 (0, 0)) := (hg2.block _ (by simp; omega) (by simp; omega)).trans ((Below.heap_alloc w1 _ _ hlt).trans hr1); have HB2 : Hid (Below w.heap.size w w2) := (HB1.out.alloc (by omega) _).grown hg2 (by simp; omega) (fun k hk => by injection hk with hk; omega); clear hz2 hg2 hr1; have c0 : w2.cell? ⟨w1.heap.size, 119, none⟩ = some (.int .i64 2) := (by rw [cell_of_row _ _ _ _ _ _ hh2]; kernel_rfl)) | (refine wpList_store_row 118 _ _ rfl rfl rfl w.heap.size 118 rfl z7 rfl _ hr2 rfl info_op z7_one ?_; intro w3 hh3 hg3 hz3; have HB3 : Hid (Below w.heap.size w w3) := HB2.out.grown hg3 (HB2.out.size) (fun k hk => by injection hk with hk; omega); clear hz3 hg3))
  refine bodyPost_ret (v := .tuple #[.agg z7.toArray, .bool false]) (results_cell_tmp Tryz.results76 _ _ w.heap.size 118 _ (0, 0) _ rfl hh3 Tryz.underlying118 rfl (by rw [info_op]; rfl)) rfl ⟨rfl, HB3.out⟩

set_option maxRecDepth 100000 in
set_option maxHeartbeats 4000000 in
theorem f_no18 (w : World) (c : Int) (hc : 0 < c) (hk : c ≠ 2) :
    Calls Tryz.prog 76 #[.int .i64 18, .int .i64 c] w fun e w' => e = .returned (.tuple #[.agg z7.toArray, .bool false]) ∧ Below w.heap.size w w' := by
  have HO := Lib.hid (fun W => c_operations W)
  have hc0 : ((c : Int) == 0) = false := by rw [beq_eq_false_iff_ne]; omega
  have hck : (((2 : Int)) != c) = true := by rw [bne_iff_ne]; omega
  clear hc hk
  go_enter Tryz.func76, Tryz.ntmps76
  go_wp2_with fail
  have hr0 := heap_alloc_new w (.cells z7.toArray 118)
  refine (HO.out _).mono ?_
  rintro e w1 ⟨rfl, hb1⟩
  have hr1 : w1.heap[w.heap.size]? = some (.cells z7.toArray 118 (0, 0)) := (hb1.block _ (by simp)).trans hr0
  have hlt : w.heap.size < w1.heap.size := (Array.getElem?_eq_some_iff.1 hr1).1
  have HB1 : Hid (Below w.heap.size w w1) := btr ((Below.refl _ _).alloc (Nat.le_refl _) _) hb1
  clear hr0 hb1
  generalize HT : tab.toArray = TT
  have HH := Lib.hid HT
  clear HT HO
  go_wp2_with (first | (refine wpList_store_row 158 _ _ rfl rfl rfl w1.heap.size 158 rfl tab (congrArg Value.agg HH.out.symm) _ (heap_alloc_new w1 _) (by kernel_rfl) info_tab tab_one ?_; intro w2 hh2 hg2 hz2; have hr2 : w2.heap[w.heap.size]? = some (.cells z7.toArray 118 (0, 0)) := (hg2.block _ (by simp; omega) (by simp; omega)).trans ((Below.heap_alloc w1 _ _ hlt).trans hr1); have HB2 : Hid (Below w.heap.size w w2) := (HB1.out.alloc (by omega) _).grown hg2 (by simp; omega) (fun k hk => by injection hk with hk; omega); clear hz2 hg2 hr1; have c0 : w2.cell? ⟨w1.heap.size, 126, none⟩ = some (.int .i64 2) := (by rw [cell_of_row _ _ _ _ _ _ hh2]; kernel_rfl)) | (refine wpList_store_row 118 _ _ rfl rfl rfl w.heap.size 118 rfl z7 rfl _ hr2 rfl info_op z7_one ?_; intro w3 hh3 hg3 hz3; have HB3 : Hid (Below w.heap.size w w3) := HB2.out.grown hg3 (HB2.out.size) (fun k hk => by injection hk with hk; omega); clear hz3 hg3))
  refine bodyPost_ret (v := .tuple #[.agg z7.toArray, .bool false]) (results_cell_tmp Tryz.results76 _ _ w.heap.size 118 _ (0, 0) _ rfl hh3 Tryz.underlying118 rfl (by rw [info_op]; rfl)) rfl ⟨rfl, HB3.out⟩

set_option maxRecDepth 100000 in
set_option maxHeartbeats 4000000 in
theorem f_no19 (w : World) (c : Int) (hc : 0 < c) (hk : c ≠ 2) :
    Calls Tryz.prog 76 #[.int .i64 19, .int .i64 c] w fun e w' => e = .returned (.tuple #[.agg z7.toArray, .bool false]) ∧ Below w.heap.size w w' := by
  have HO := Lib.hid (fun W => c_operations W)
  have hc0 : ((c : Int) == 0) = false := by rw [beq_eq_false_iff_ne]; omega
  have hck : (((2 : Int)) != c) = true := by rw [bne_iff_ne]; omega
  clear hc hk
  go_enter Tryz.func76, Tryz.ntmps76
  go_wp2_with fail
  have hr0 := heap_alloc_new w (.cells z7.toArray 118)
  refine (HO.out _).mono ?_
  rintro e w1 ⟨rfl, hb1⟩
  have hr1 : w1.heap[w.heap.size]? = some (.cells z7.toArray 118 (0, 0)) := (hb1.block _ (by simp)).trans hr0
  have hlt : w.heap.size < w1.heap.size := (Array.getElem?_eq_some_iff.1 hr1).1
  have HB1 : Hid (Below w.heap.size w w1) := btr ((Below.refl _ _).alloc (Nat.le_refl _) _) hb1
  clear hr0 hb1
  generalize HT : tab.toArray = TT
  have HH := Lib.hid HT
  clear HT HO
  go_wp2_with (first | (refine wpList_store_row 158 _ _ rfl rfl rfl w1.heap.size 158 rfl tab (congrArg Value.agg HH.out.symm) _ (heap_alloc_new w1 _) (by kernel_rfl) info_tab tab_one ?_; intro w2 hh2 hg2 hz2; have hr2 : w2.heap[w.heap.size]? = some (.cells z7.toArray 118 (0, 0)) := (hg2.block _ (by simp; omega) (by simp; omega)).trans ((Below.heap_alloc w1 _ _ hlt).trans hr1); have HB2 : Hid (Below w.heap.size w w2) := (HB1.out.alloc (by omega) _).grown hg2 (by simp; omega) (fun k hk => by injection hk with hk; omega); clear hz2 hg2 hr1; have c0 : w2.cell? ⟨w1.heap.size, 133, none⟩ = some (.int .i64 2) := (by rw [cell_of_row _ _ _ _ _ _ hh2]; kernel_rfl)) | (refine wpList_store_row 118 _ _ rfl rfl rfl w.heap.size 118 rfl z7 rfl _ hr2 rfl info_op z7_one ?_; intro w3 hh3 hg3 hz3; have HB3 : Hid (Below w.heap.size w w3) := HB2.out.grown hg3 (HB2.out.size) (fun k hk => by injection hk with hk; omega); clear hz3 hg3))
  refine bodyPost_ret (v := .tuple #[.agg z7.toArray, .bool false]) (results_cell_tmp Tryz.results76 _ _ w.heap.size 118 _ (0, 0) _ rfl hh3 Tryz.underlying118 rfl (by rw [info_op]; rfl)) rfl ⟨rfl, HB3.out⟩

set_option maxRecDepth 100000 in
set_option maxHeartbeats 4000000 in
theorem f_no20 (w : World) (c : Int) (hc : 0 < c) (hk : c ≠ 2) :
    Calls Tryz.prog 76 #[.int .i64 20, .int .i64 c] w fun e w' => e = .returned (.tuple #[.agg z7.toArray, .bool false]) ∧ Below w.heap.size w w' := by
  have HO := Lib.hid (fun W => c_operations W)
  have hc0 : ((c : Int) == 0) = false := by rw [beq_eq_false_iff_ne]; omega
  have hck : (((2 : Int)) != c) = true := by rw [bne_iff_ne]; omega
  clear hc hk
  go_enter Tryz.func76, Tryz.ntmps76
  go_wp2_with fail
  have hr0 := heap_alloc_new w (.cells z7.toArray 118)
  refine (HO.out _).mono ?_
  rintro e w1 ⟨rfl, hb1⟩
  have hr1 : w1.heap[w.heap.size]? = some (.cells z7.toArray 118 (0, 0)) := (hb1.block _ (by simp)).trans hr0
  have hlt : w.heap.size < w1.heap.size := (Array.getElem?_eq_some_iff.1 hr1).1
  have HB1 : Hid (Below w.heap.size w w1) := btr ((Below.refl _ _).alloc (Nat.le_refl _) _) hb1
  clear hr0 hb1
  generalize HT : tab.toArray = TT
  have HH := Lib.hid HT
  clear HT HO
  go_wp2_with (first | (refine wpList_store_row 158 _ _ rfl rfl rfl w1.heap.size 158 rfl tab (congrArg Value.agg HH.out.symm) _ (heap_alloc_new w1 _) (by kernel_rfl) info_tab tab_one ?_; intro w2 hh2 hg2 hz2; have hr2 : w2.heap[w.heap.size]? = some (.cells z7.toArray 118 (0, 0)) := (hg2.block _ (by simp; omega) (by simp; omega)).trans ((Below.heap_alloc w1 _ _ hlt).trans hr1); have HB2 : Hid (Below w.heap.size w w2) := (HB1.out.alloc (by omega) _).grown hg2 (by simp; omega) (fun k hk => by injection hk with hk; omega); clear hz2 hg2 hr1; have c0 : w2.cell? ⟨w1.heap.size, 140, none⟩ = some (.int .i64 2) := (by rw [cell_of_row _ _ _ _ _ _ hh2]; kernel_rfl)) | (refine wpList_store_row 118 _ _ rfl rfl rfl w.heap.size 118 rfl z7 rfl _ hr2 rfl info_op z7_one ?_; intro w3 hh3 hg3 hz3; have HB3 : Hid (Below w.heap.size w w3) := HB2.out.grown hg3 (HB2.out.size) (fun k hk => by injection hk with hk; omega); clear hz3 hg3))
  refine bodyPost_ret (v := .tuple #[.agg z7.toArray, .bool false]) (results_cell_tmp Tryz.results76 _ _ w.heap.size 118 _ (0, 0) _ rfl hh3 Tryz.underlying118 rfl (by rw [info_op]; rfl)) rfl ⟨rfl, HB3.out⟩

set_option maxRecDepth 100000 in
set_option maxHeartbeats 4000000 in
theorem f_no21 (w : World) (c : Int) (hc : 0 < c) (hk : c ≠ 2) :
    Calls Tryz.prog 76 #[.int .i64 21, .int .i64 c] w fun e w' => e = .returned (.tuple #[.agg z7.toArray, .bool false]) ∧ Below w.heap.size w w' := by
  have HO := Lib.hid (fun W => c_operations W)
  have hc0 : ((c : Int) == 0) = false := by rw [beq_eq_false_iff_ne]; omega
  have hck : (((2 : Int)) != c) = true := by rw [bne_iff_ne]; omega
  clear hc hk
  go_enter Tryz.func76, Tryz.ntmps76
  go_wp2_with fail
  have hr0 := heap_alloc_new w (.cells z7.toArray 118)
  refine (HO.out _).mono ?_
  rintro e w1 ⟨rfl, hb1⟩
  have hr1 : w1.heap[w.heap.size]? = some (.cells z7.toArray 118 (0, 0)) := (hb1.block _ (by simp)).trans hr0
  have hlt : w.heap.size < w1.heap.size := (Array.getElem?_eq_some_iff.1 hr1).1
  have HB1 : Hid (Below w.heap.size w w1) := btr ((Below.refl _ _).alloc (Nat.le_refl _) _) hb1
  clear hr0 hb1
  generalize HT : tab.toArray = TT
  have HH := Lib.hid HT
  clear HT HO
  go_wp2_with (first | (refine wpList_store_row 158 _ _ rfl rfl rfl w1.heap.size 158 rfl tab (congrArg Value.agg HH.out.symm) _ (heap_alloc_new w1 _) (by kernel_rfl) info_tab tab_one ?_; intro w2 hh2 hg2 hz2; have hr2 : w2.heap[w.heap.size]? = some (.cells z7.toArray 118 (0, 0)) := (hg2.block _ (by simp; omega) (by simp; omega)).trans ((Below.heap_alloc w1 _ _ hlt).trans hr1); have HB2 : Hid (Below w.heap.size w w2) := (HB1.out.alloc (by omega) _).grown hg2 (by simp; omega) (fun k hk => by injection hk with hk; omega); clear hz2 hg2 hr1; have c0 : w2.cell? ⟨w1.heap.size, 147, none⟩ = some (.int .i64 2) := (by rw [cell_of_row _ _ _ _ _ _ hh2]; kernel_rfl)) | (refine wpList_store_row 118 _ _ rfl rfl rfl w.heap.size 118 rfl z7 rfl _ hr2 rfl info_op z7_one ?_; intro w3 hh3 hg3 hz3; have HB3 : Hid (Below w.heap.size w w3) := HB2.out.grown hg3 (HB2.out.size) (fun k hk => by injection hk with hk; omega); clear hz3 hg3))
  refine bodyPost_ret (v := .tuple #[.agg z7.toArray, .bool false]) (results_cell_tmp Tryz.results76 _ _ w.heap.size 118 _ (0, 0) _ rfl hh3 Tryz.underlying118 rfl (by rw [info_op]; rfl)) rfl ⟨rfl, HB3.out⟩

set_option maxRecDepth 100000 in
set_option maxHeartbeats 4000000 in
theorem f_no22 (w : World) (c : Int) (hc : 0 < c) (hk : c ≠ 3) :
    Calls Tryz.prog 76 #[.int .i64 22, .int .i64 c] w fun e w' => e = .returned (.tuple #[.agg z7.toArray, .bool false]) ∧ Below w.heap.size w w' := by
  have HO := Lib.hid (fun W => c_operations W)
  have hc0 : ((c : Int) == 0) = false := by rw [beq_eq_false_iff_ne]; omega
  have hck : (((3 : Int)) != c) = true := by rw [bne_iff_ne]; omega
  clear hc hk
  go_enter Tryz.func76, Tryz.ntmps76
  go_wp2_with fail
  have hr0 := heap_alloc_new w (.cells z7.toArray 118)
  refine (HO.out _).mono ?_
  rintro e w1 ⟨rfl, hb1⟩
  have hr1 : w1.heap[w.heap.size]? = some (.cells z7.toArray 118 (0, 0)) := (hb1.block _ (by simp)).trans hr0
  have hlt : w.heap.size < w1.heap.size := (Array.getElem?_eq_some_iff.1 hr1).1
  have HB1 : Hid (Below w.heap.size w w1) := btr ((Below.refl _ _).alloc (Nat.le_refl _) _) hb1
  clear hr0 hb1
  generalize HT : tab.toArray = TT
  have HH := Lib.hid HT
  clear HT HO
  go_wp2_with (first | (refine wpList_store_row 158 _ _ rfl rfl rfl w1.heap.size 158 rfl tab (congrArg Value.agg HH.out.symm) _ (heap_alloc_new w1 _) (by kernel_rfl) info_tab tab_one ?_; intro w2 hh2 hg2 hz2; have hr2 : w2.heap[w.heap.size]? = some (.cells z7.toArray 118 (0, 0)) := (hg2.block _ (by simp; omega) (by simp; omega)).trans ((Below.heap_alloc w1 _ _ hlt).trans hr1); have HB2 : Hid (Below w.heap.size w w2) := (HB1.out.alloc (by omega) _).grown hg2 (by simp; omega) (fun k hk => by injection hk with hk; omega); clear hz2 hg2 hr1; have c0 : w2.cell? ⟨w1.heap.size, 154, none⟩ = some (.int .i64 3) := (by rw [cell_of_row _ _ _ _ _ _ hh2]; kernel_rfl)) | (refine wpList_store_row 118 _ _ rfl rfl rfl w.heap.size 118 rfl z7 rfl _ hr2 rfl info_op z7_one ?_; intro w3 hh3 hg3 hz3; have HB3 : Hid (Below w.heap.size w w3) := HB2.out.grown hg3 (HB2.out.size) (fun k hk => by injection hk with hk; omega); clear hz3 hg3))
  refine bodyPost_ret (v := .tuple #[.agg z7.toArray, .bool false]) (results_cell_tmp Tryz.results76 _ _ w.heap.size 118 _ (0, 0) _ rfl hh3 Tryz.underlying118 rfl (by rw [info_op]; rfl)) rfl ⟨rfl, HB3.out⟩

/-- How many operands an operation has; 0 for what is none. -/
def opn (op : Int) : Int := if 4 ≤ op ∧ op ≤ 8 then 1 else if 9 ≤ op ∧ op ≤ 21 then 2 else if op = 22 then 3 else 0
theorem f_none (w : World) (op c : Int) (hc : 0 ≤ c) (h : opn op = 0 ∨ opn op ≠ c) :
    Calls Tryz.prog 76 #[.int .i64 op, .int .i64 c] w fun e w' => e = .returned (.tuple #[.agg z7.toArray, .bool false]) ∧ Below w.heap.size w w' := by
  by_cases h1 : op < 0
  · exact f_bad w op c (.inl h1)
  by_cases h2 : 23 ≤ op
  · exact f_bad w op c (.inr (.inl ⟨by omega, h2⟩))
  by_cases h3 : c = 0
  · exact f_bad w op c (.inr (.inr ⟨by omega, by omega, h3⟩))
  have hk : op = 0 ∨ op = 1 ∨ op = 2 ∨ op = 3 ∨ op = 4 ∨ op = 5 ∨ op = 6 ∨ op = 7 ∨ op = 8 ∨ op = 9 ∨ op = 10 ∨ op = 11 ∨ op = 12 ∨ op = 13 ∨ op = 14 ∨ op = 15 ∨ op = 16 ∨ op = 17 ∨ op = 18 ∨ op = 19 ∨ op = 20 ∨ op = 21 ∨ op = 22 := by omega
  rcases hk with rfl | rfl | rfl | rfl | rfl | rfl | rfl | rfl | rfl | rfl | rfl | rfl | rfl | rfl | rfl | rfl | rfl | rfl | rfl | rfl | rfl | rfl | rfl
  · exact f_no0 w c (by omega) (by unfold opn at h; simp at h; omega)
  · exact f_no1 w c (by omega) (by unfold opn at h; simp at h; omega)
  · exact f_no2 w c (by omega) (by unfold opn at h; simp at h; omega)
  · exact f_no3 w c (by omega) (by unfold opn at h; simp at h; omega)
  · exact f_no4 w c (by omega) (by unfold opn at h; simp at h; omega)
  · exact f_no5 w c (by omega) (by unfold opn at h; simp at h; omega)
  · exact f_no6 w c (by omega) (by unfold opn at h; simp at h; omega)
  · exact f_no7 w c (by omega) (by unfold opn at h; simp at h; omega)
  · exact f_no8 w c (by omega) (by unfold opn at h; simp at h; omega)
  · exact f_no9 w c (by omega) (by unfold opn at h; simp at h; omega)
  · exact f_no10 w c (by omega) (by unfold opn at h; simp at h; omega)
  · exact f_no11 w c (by omega) (by unfold opn at h; simp at h; omega)
  · exact f_no12 w c (by omega) (by unfold opn at h; simp at h; omega)
  · exact f_no13 w c (by omega) (by unfold opn at h; simp at h; omega)
  · exact f_no14 w c (by omega) (by unfold opn at h; simp at h; omega)
  · exact f_no15 w c (by omega) (by unfold opn at h; simp at h; omega)
  · exact f_no16 w c (by omega) (by unfold opn at h; simp at h; omega)
  · exact f_no17 w c (by omega) (by unfold opn at h; simp at h; omega)
  · exact f_no18 w c (by omega) (by unfold opn at h; simp at h; omega)
  · exact f_no19 w c (by omega) (by unfold opn at h; simp at h; omega)
  · exact f_no20 w c (by omega) (by unfold opn at h; simp at h; omega)
  · exact f_no21 w c (by omega) (by unfold opn at h; simp at h; omega)
  · exact f_no22 w c (by omega) (by unfold opn at h; simp at h; omega)
end Go.Proofs.YtoiihehlgfgikaaGreatDoor
end

/- The type of the result of an operation: every operation, every list of types. -/
section
namespace Go.Proofs.YtoiihehlgfgikaaGreatDoor
open Go.RowKit Go.Deep

def isTy (t : Int) : Bool := decide (1 ≤ t) && decide (t ≤ 4)
def isNum (t : Int) : Bool := t == 2 || t == 3
def cmT (a b : Int) : Int := if a = 0 ∨ a = b then b else if isNum a = true ∧ isNum b = true then 3 else 0

theorem c_isTypeB (t : Int) (w : World) :
    Calls Tryz.prog 61 #[.int .i64 t] w fun e w' => e = .returned (.bool (isTy t)) ∧ w = w' := by
  unfold isTy
  by_cases h1 : 1 ≤ t
  · have h1' : decide (1 ≤ t) = true := by simpa using h1
    rw [h1']
    go_enter Tryz.func61, Tryz.ntmps61
    go_wp2
    go_ret
    exact ⟨rfl, rfl⟩
  · have h1' : decide (1 ≤ t) = false := by simpa using h1
    rw [h1']
    go_enter Tryz.func61, Tryz.ntmps61
    go_wp2
    go_ret
    exact ⟨rfl, rfl⟩

theorem c_isNumericB (t : Int) (w : World) :
    Calls Tryz.prog 120 #[.int .i64 t] w fun e w' => e = .returned (.bool (isNum t)) ∧ w = w' := by
  unfold isNum
  by_cases h1 : t = 2
  · subst h1
    go_enter Tryz.func120, Tryz.ntmps120
    go_wp2
    go_ret
    exact ⟨rfl, rfl⟩
  · have h1' : (t == 2) = false := by rw [beq_eq_false_iff_ne]; exact h1
    rw [h1']
    go_enter Tryz.func120, Tryz.ntmps120
    go_wp2
    go_ret
    exact ⟨rfl, rfl⟩

theorem c_commonTypeB (a b : Int) (w : World) :
    Calls Tryz.prog 121 #[.int .i64 a, .int .i64 b] w fun e w' => e = .returned (.int .i64 (cmT a b)) ∧ w = w' := by
  unfold cmT
  by_cases h1 : a = 0
  · subst h1
    rw [if_pos (.inl rfl)]
    go_enter Tryz.func121, Tryz.ntmps121
    go_wp2
    go_ret
    exact ⟨rfl, rfl⟩
  · have h1' : (a == 0) = false := by rw [beq_eq_false_iff_ne]; exact h1
    by_cases h2 : a = b
    · subst h2
      have h2' : (a == a) = true := by simp
      rw [if_pos (.inr rfl)]
      go_enter Tryz.func121, Tryz.ntmps121
      go_wp2
      go_ret
      exact ⟨rfl, rfl⟩
    · have h2' : (a == b) = false := by rw [beq_eq_false_iff_ne]; exact h2
      rw [if_neg (by omega)]
      have HA := Lib.hid (c_isNumericB a w)
      have HB := Lib.hid (c_isNumericB b w)
      generalize isNum a = p at *
      generalize isNum b = q at *
      cases p <;> cases q
      all_goals
        go_enter Tryz.func121, Tryz.ntmps121
        go_wp2_with fail
        refine HA.out.mono ?_
        rintro e w1 ⟨rfl, rfl⟩
        go_wp2_with fail
        first
        | (refine HB.out.mono ?_
           rintro e w2 ⟨rfl, rfl⟩
           go_wp2
           go_ret
           exact ⟨rfl, rfl⟩)
        | (go_ret
           exact ⟨rfl, rfl⟩)

def stepT (nd sh t : Int) : Option Int := if nd = 2 then (if t = 1 then some sh else none) else if nd = 3 then (if isNum t = true then some (cmT sh t) else none) else if nd = 4 then (if cmT sh t = 0 then none else some (cmT sh t)) else some sh
def foldT (nd ts : Nat → Int) : Nat → Option Int
  | 0 => some 0
  | k + 1 => (foldT nd ts k).bind fun sh => stepT (nd k) sh (ts k)
theorem foldT_none {nd ts : Nat → Int} {k n : Nat} (h : foldT nd ts k = none) (hn : k ≤ n) : foldT nd ts n = none := by
  induction n with
  | zero =>
    obtain rfl : k = 0 := by omega
    exact h
  | succ n ih =>
    by_cases e : k = n + 1
    · rw [← e]; exact h
    · rw [foldT, ih (by omega)]; rfl
def shRes (o : Option Int) : Value := match o with | some s => .tuple #[.int .i64 s, .bool true] | none => .tuple #[.int .i64 0, .bool false]
def n3 (n1 n2 n3 : Int) (k : Nat) : Int := if k = 0 then n1 else if k = 1 then n2 else n3

set_option maxRecDepth 100000 in
set_option maxHeartbeats 4000000 in
theorem c_sharedT (w : World) (A : Option Addr) (n cap : Nat) (c n1 n2 m3 r : Int) (l : Bool) (F : Value) (ts : Nat → Int) (hn : n ≤ 3) (h : 0 < n → ∃ b o, A = some ⟨b, o, none⟩ ∧ b < w.heap.size ∧ ∀ k, k < n → w.cell? ⟨b, o + k, none⟩ = some (.int .i64 (ts k))) :
    Calls Tryz.prog 77 #[.agg #[.int .i64 c, .int .i64 n1, .int .i64 n2, .int .i64 m3, .int .i64 r, .bool l, F], .slice A n cap] w fun e w' => e = .returned (shRes (foldT (n3 n1 n2 m3) ts n)) ∧ Below w.heap.size w w' := by
  go_enter Tryz.func77, Tryz.ntmps77
  go_wp2
  have hrow := heap_alloc_new w (.cells #[.int .i64 c, .int .i64 n1, .int .i64 n2, .int .i64 m3, .int .i64 r, .bool l, F] 118)
  have B0 : Below w.heap.size w (w.alloc (.cells #[.int .i64 c, .int .i64 n1, .int .i64 n2, .int .i64 m3, .int .i64 r, .bool l, F] 118)) := (Below.refl _ _).alloc (Nat.le_refl _) _
  generalize w.alloc (.cells #[.int .i64 c, .int .i64 n1, .int .i64 n2, .int .i64 m3, .int .i64 r, .bool l, F] 118) = W0 at *
  have HN : Hid (∀ k, k < 3 → W0.cell? ⟨w.heap.size, 1 + k, none⟩ = some (.int .i64 (n3 n1 n2 m3 k))) := fun k hk => by
    match k, hk with
    | 0, _ => rw [cell_of_row _ _ _ _ _ _ hrow]; rfl
    | 1, _ => rw [cell_of_row _ _ _ _ _ _ hrow]; rfl
    | 2, _ => rw [cell_of_row _ _ _ _ _ _ hrow]; rfl
  have HT : Hid (∀ k, k < n → ∃ b o, A = some ⟨b, o, none⟩ ∧ W0.cell? ⟨b, o + k, none⟩ = some (.int .i64 (ts k))) := fun k hk => by
    obtain ⟨b, o, h1, h2, h3⟩ := h (by omega)
    exact ⟨b, o, h1, (B0.cell (p := ⟨b, o + k, none⟩) h2).trans (h3 k hk)⟩
  have HB := Lib.hid B0
  clear h hrow B0
  go_loop [6, 11] (fun s i => ∃ (k : Nat) (sh : Int), k ≤ n ∧ i = .int .i64 k ∧ s = .int .i64 sh ∧ Hid (foldT (n3 n1 n2 m3) ts k = some sh)) (fun _ i => n - (intOf i).toNat)
  case atStart => exact ⟨0, 0, Nat.zero_le _, rfl, rfl, rfl⟩
  case round =>
    obtain ⟨k, sh, hk, rfl, rfl, HF⟩ := hrel
    by_cases hlt : k < n
    · obtain ⟨b, o, rfl, hc⟩ := HT.out k hlt
      have hk3 : k < 3 := by omega
      have hd := HN.out k hk3
      have HS : Hid (foldT (n3 n1 n2 m3) ts (k + 1) = stepT (n3 n1 n2 m3 k) sh (ts k)) := by show _ = _; rw [foldT, HF.out]; rfl
      have HX : Hid (∀ s, stepT (n3 n1 n2 m3 k) sh (ts k) = none → foldT (n3 n1 n2 m3) ts n = none ∨ s = 0) := fun s e => .inl (foldT_none (k := k + 1) (by rw [HS.out, e]) (by omega))
      have HC := Lib.hid (c_commonTypeB sh (ts k) W0)
      have HNm := Lib.hid (c_isNumericB (ts k) W0)
      generalize n3 n1 n2 m3 k = nd at *
      generalize ts k = t at *
      by_cases e2 : nd = 2
      · subst e2
        by_cases e1 : t = 1
        · subst e1
          go_wp2
          go_round
          case rel => exact ⟨k + 1, sh, by omega, by go_num, rfl, by show _ = _; rw [HS.out]; rfl⟩
          case measure => simp [intOf]; omega
        · have e1' : (t != 1) = true := by rw [bne_iff_ne]; exact e1
          have HE : Hid (foldT (n3 n1 n2 m3) ts n = none) := foldT_none (k := k + 1) (by rw [HS.out]; simp [stepT, e1]) (by omega)
          go_wp2
          go_ret2
          exact ⟨by rw [HE.out]; rfl, HB.out⟩
      · have e2' : (nd == 2) = false := by rw [beq_eq_false_iff_ne]; exact e2
        by_cases e3 : nd = 3
        · subst e3
          by_cases e1 : isNum t = true
          · have HE : Hid (stepT 3 sh t = some (cmT sh t)) := by show _ = _; simp [stepT, e1]
            rw [e1] at HNm
            go_wp2_with fail
            refine HNm.out.mono ?_
            rintro e w1 ⟨rfl, rfl⟩
            go_wp2_with fail
            refine HC.out.mono ?_
            rintro e w1 ⟨rfl, rfl⟩
            go_wp2
            go_round
            case rel => exact ⟨k + 1, cmT sh t, by omega, by go_num, rfl, by show _ = _; rw [HS.out, HE.out]⟩
            case measure => simp [intOf]; omega
          · have HE : Hid (foldT (n3 n1 n2 m3) ts n = none) := foldT_none (k := k + 1) (by rw [HS.out]; simp [stepT, e1]) (by omega)
            have e1' : isNum t = false := by simpa using e1
            rw [e1'] at HNm
            go_wp2_with fail
            refine HNm.out.mono ?_
            rintro e w1 ⟨rfl, rfl⟩
            go_wp2
            go_ret2
            exact ⟨by rw [HE.out]; rfl, HB.out⟩
        · have e3' : (nd == 3) = false := by rw [beq_eq_false_iff_ne]; exact e3
          by_cases e4 : nd = 4
          · subst e4
            by_cases e1 : cmT sh t = 0
            · have HE : Hid (foldT (n3 n1 n2 m3) ts n = none) := foldT_none (k := k + 1) (by rw [HS.out]; simp [stepT, e1]) (by omega)
              rw [e1] at HC
              go_wp2_with fail
              refine HC.out.mono ?_
              rintro e w1 ⟨rfl, rfl⟩
              go_wp2
              go_ret2
              exact ⟨by rw [HE.out]; rfl, HB.out⟩
            · have HE : Hid (stepT 4 sh t = some (cmT sh t)) := by show _ = _; simp [stepT, e1]
              have e1' : (cmT sh t == 0) = false := by rw [beq_eq_false_iff_ne]; exact e1
              generalize cmT sh t = cm at *
              go_wp2_with fail
              refine HC.out.mono ?_
              rintro e w1 ⟨rfl, rfl⟩
              go_wp2
              go_round
              case rel => exact ⟨k + 1, cm, by omega, by go_num, rfl, by show _ = _; rw [HS.out, HE.out]⟩
              case measure => simp [intOf]; omega
          · have e4' : (nd == 4) = false := by rw [beq_eq_false_iff_ne]; exact e4
            have HE : Hid (stepT nd sh t = some sh) := by show _ = _; simp [stepT, e2, e3, e4]
            go_wp2
            go_round
            case rel => exact ⟨k + 1, sh, by omega, by go_num, rfl, by show _ = _; rw [HS.out, HE.out]⟩
            case measure => simp [intOf]; omega
    · obtain rfl : k = n := by omega
      go_wp2
      go_ret2
      exact ⟨by rw [HF.out]; rfl, HB.out⟩
end Go.Proofs.YtoiihehlgfgikaaGreatDoor
end

/- Finding an operation by its number and its number of operands. -/
import Derived.Test.YtmejbkfamapnkaaGreatDoorZOps
namespace Go.Proofs.YtmejbkfamapnkaaGreatDoor
open Go.RowKit Go.Deep

theorem results_cell_tmp {P : Program} {fn : Func} {p q : Tmp} {ty : TypeId} (h : fn.results = #[.cell p ty, .tmp q]) (tmps : Array Value) (w : World) (g : Nat) (t : TypeId) (cs : Array Value) (fr : Nat × Nat) (d : TypeDesc)
    (hp : tmps.getD p undef = .pointer (some ⟨g, 0, none⟩)) (hg : w.heap[g]? = some (.cells cs t fr))
    (hu : P.underlying ty = some d) (hd : (match d with | .struct _ | .array _ _ => true | _ => false) = true) (hi : (P.info? ty).map (·.size) = some cs.size) :
    (results fn tmps).run P w = .ok (.tuple #[.agg cs, tmps.getD q undef]) w := by
  have hp' : tmps[p]?.getD undef = .pointer (some ⟨g, 0, none⟩) := by simpa using hp
  simp [results, h, hp', asAddr, run_loadVar_row w g t ty cs fr d hg hu hd hi]
theorem info_op : (Tryz.prog.info? 54).map (·.size) = some 7 := by kernel_rfl
theorem o7_one (c n1 n2 n3 r : Int) (l : Bool) (f : Nat) : ∀ v ∈ o7 c n1 n2 n3 r l f, v.oneCell' = true := by
  intro v hv
  simp only [o7, List.mem_cons, List.not_mem_nil, or_false] at hv
  rcases hv with rfl | rfl | rfl | rfl | rfl | rfl | rfl <;> rfl
theorem z7_one : ∀ v ∈ z7, v.oneCell' = true := by
  intro v hv
  simp only [z7, List.mem_cons, List.not_mem_nil, or_false] at hv
  rcases hv with rfl | rfl | rfl | rfl | rfl | rfl | rfl <;> rfl

set_option maxRecDepth 100000 in
set_option maxHeartbeats 4000000 in
theorem f_op4 (w : World) :
    Calls Tryz.prog 28 #[.int .i64 4, .int .i64 1] w fun e w' => e = .returned (.tuple #[.agg (o7 1 2 0 0 1 false 127).toArray, .bool true]) ∧ Below w.heap.size w w' := by
  have HO := Lib.hid (fun W => c_operations W)
  go_enter Tryz.func28, Tryz.ntmps28
  go_wp2_with fail
  have hr0 := heap_alloc_new w (.cells z7.toArray 54)
  refine (HO.out _).mono ?_
  rintro e w1 ⟨rfl, hb1⟩
  have hr1 : w1.heap[w.heap.size]? = some (.cells z7.toArray 54 (0, 0)) := (hb1.block _ (by simp)).trans hr0
  have hlt : w.heap.size < w1.heap.size := (Array.getElem?_eq_some_iff.1 hr1).1
  have HB1 : Hid (Below w.heap.size w w1) := btr ((Below.refl _ _).alloc (Nat.le_refl _) _) hb1
  clear hr0 hb1
  generalize HT : tab.toArray = TT
  have HH := Lib.hid HT
  clear HT HO
  go_wp2_with (first | (refine wpList_store_row 113 _ _ rfl rfl rfl w1.heap.size 113 rfl tab (congrArg Value.agg HH.out.symm) _ (heap_alloc_new w1 _) (by kernel_rfl) info_tab tab_one ?_; intro w2 hh2 hg2 hz2; have hr2 : w2.heap[w.heap.size]? = some (.cells z7.toArray 54 (0, 0)) := (hg2.block _ (by simp; omega) (by simp; omega)).trans ((Below.heap_alloc w1 _ _ hlt).trans hr1); have HB2 : Hid (Below w.heap.size w w2) := (HB1.out.alloc (by omega) _).grown hg2 (by simp; omega) (fun k hk => by injection hk with hk; omega); clear hz2 hg2 hr1; have c0 : w2.cell? ⟨w1.heap.size, 28, none⟩ = some (.int .i64 1) := (by rw [cell_of_row _ _ _ _ _ _ hh2]; kernel_rfl); have c1 : w2.cell? ⟨w1.heap.size, 29, none⟩ = some (.int .i64 2) := (by rw [cell_of_row _ _ _ _ _ _ hh2]; kernel_rfl); have c2 : w2.cell? ⟨w1.heap.size, 30, none⟩ = some (.int .i64 0) := (by rw [cell_of_row _ _ _ _ _ _ hh2]; kernel_rfl); have c3 : w2.cell? ⟨w1.heap.size, 31, none⟩ = some (.int .i64 0) := (by rw [cell_of_row _ _ _ _ _ _ hh2]; kernel_rfl); have c4 : w2.cell? ⟨w1.heap.size, 32, none⟩ = some (.int .i64 1) := (by rw [cell_of_row _ _ _ _ _ _ hh2]; kernel_rfl); have c5 : w2.cell? ⟨w1.heap.size, 33, none⟩ = some (.bool false) := (by rw [cell_of_row _ _ _ _ _ _ hh2]; kernel_rfl); have c6 : w2.cell? ⟨w1.heap.size, 34, none⟩ = some (.func (.func 127) #[] #[]) := (by rw [cell_of_row _ _ _ _ _ _ hh2]; kernel_rfl)) | (refine wpList_store_row 54 _ _ rfl rfl rfl w.heap.size 54 rfl (o7 1 2 0 0 1 false 127) rfl _ hr2 rfl info_op (o7_one _ _ _ _ _ _ _) ?_; intro w3 hh3 hg3 hz3; have HB3 : Hid (Below w.heap.size w w3) := HB2.out.grown hg3 (HB2.out.size) (fun k hk => by injection hk with hk; omega); clear hz3 hg3))
  refine bodyPost_ret (v := .tuple #[.agg (o7 1 2 0 0 1 false 127).toArray, .bool true]) (results_cell_tmp Tryz.results28 _ _ w.heap.size 54 _ (0, 0) _ rfl hh3 Tryz.underlying54 rfl (by rw [info_op]; rfl)) rfl ⟨rfl, HB3.out⟩

set_option maxRecDepth 100000 in
set_option maxHeartbeats 4000000 in
theorem f_op9 (w : World) :
    Calls Tryz.prog 28 #[.int .i64 9, .int .i64 2] w fun e w' => e = .returned (.tuple #[.agg (o7 2 3 3 0 0 false 134).toArray, .bool true]) ∧ Below w.heap.size w w' := by
  have HO := Lib.hid (fun W => c_operations W)
  go_enter Tryz.func28, Tryz.ntmps28
  go_wp2_with fail
  have hr0 := heap_alloc_new w (.cells z7.toArray 54)
  refine (HO.out _).mono ?_
  rintro e w1 ⟨rfl, hb1⟩
  have hr1 : w1.heap[w.heap.size]? = some (.cells z7.toArray 54 (0, 0)) := (hb1.block _ (by simp)).trans hr0
  have hlt : w.heap.size < w1.heap.size := (Array.getElem?_eq_some_iff.1 hr1).1
  have HB1 : Hid (Below w.heap.size w w1) := btr ((Below.refl _ _).alloc (Nat.le_refl _) _) hb1
  clear hr0 hb1
  generalize HT : tab.toArray = TT
  have HH := Lib.hid HT
  clear HT HO
  go_wp2_with (first | (refine wpList_store_row 113 _ _ rfl rfl rfl w1.heap.size 113 rfl tab (congrArg Value.agg HH.out.symm) _ (heap_alloc_new w1 _) (by kernel_rfl) info_tab tab_one ?_; intro w2 hh2 hg2 hz2; have hr2 : w2.heap[w.heap.size]? = some (.cells z7.toArray 54 (0, 0)) := (hg2.block _ (by simp; omega) (by simp; omega)).trans ((Below.heap_alloc w1 _ _ hlt).trans hr1); have HB2 : Hid (Below w.heap.size w w2) := (HB1.out.alloc (by omega) _).grown hg2 (by simp; omega) (fun k hk => by injection hk with hk; omega); clear hz2 hg2 hr1; have c0 : w2.cell? ⟨w1.heap.size, 63, none⟩ = some (.int .i64 2) := (by rw [cell_of_row _ _ _ _ _ _ hh2]; kernel_rfl); have c1 : w2.cell? ⟨w1.heap.size, 64, none⟩ = some (.int .i64 3) := (by rw [cell_of_row _ _ _ _ _ _ hh2]; kernel_rfl); have c2 : w2.cell? ⟨w1.heap.size, 65, none⟩ = some (.int .i64 3) := (by rw [cell_of_row _ _ _ _ _ _ hh2]; kernel_rfl); have c3 : w2.cell? ⟨w1.heap.size, 66, none⟩ = some (.int .i64 0) := (by rw [cell_of_row _ _ _ _ _ _ hh2]; kernel_rfl); have c4 : w2.cell? ⟨w1.heap.size, 67, none⟩ = some (.int .i64 0) := (by rw [cell_of_row _ _ _ _ _ _ hh2]; kernel_rfl); have c5 : w2.cell? ⟨w1.heap.size, 68, none⟩ = some (.bool false) := (by rw [cell_of_row _ _ _ _ _ _ hh2]; kernel_rfl); have c6 : w2.cell? ⟨w1.heap.size, 69, none⟩ = some (.func (.func 134) #[] #[]) := (by rw [cell_of_row _ _ _ _ _ _ hh2]; kernel_rfl)) | (refine wpList_store_row 54 _ _ rfl rfl rfl w.heap.size 54 rfl (o7 2 3 3 0 0 false 134) rfl _ hr2 rfl info_op (o7_one _ _ _ _ _ _ _) ?_; intro w3 hh3 hg3 hz3; have HB3 : Hid (Below w.heap.size w w3) := HB2.out.grown hg3 (HB2.out.size) (fun k hk => by injection hk with hk; omega); clear hz3 hg3))
  refine bodyPost_ret (v := .tuple #[.agg (o7 2 3 3 0 0 false 134).toArray, .bool true]) (results_cell_tmp Tryz.results28 _ _ w.heap.size 54 _ (0, 0) _ rfl hh3 Tryz.underlying54 rfl (by rw [info_op]; rfl)) rfl ⟨rfl, HB3.out⟩

set_option maxRecDepth 100000 in
set_option maxHeartbeats 4000000 in
theorem f_op12 (w : World) :
    Calls Tryz.prog 28 #[.int .i64 12, .int .i64 2] w fun e w' => e = .returned (.tuple #[.agg (o7 2 3 3 0 3 false 138).toArray, .bool true]) ∧ Below w.heap.size w w' := by
  have HO := Lib.hid (fun W => c_operations W)
  go_enter Tryz.func28, Tryz.ntmps28
  go_wp2_with fail
  have hr0 := heap_alloc_new w (.cells z7.toArray 54)
  refine (HO.out _).mono ?_
  rintro e w1 ⟨rfl, hb1⟩
  have hr1 : w1.heap[w.heap.size]? = some (.cells z7.toArray 54 (0, 0)) := (hb1.block _ (by simp)).trans hr0
  have hlt : w.heap.size < w1.heap.size := (Array.getElem?_eq_some_iff.1 hr1).1
  have HB1 : Hid (Below w.heap.size w w1) := btr ((Below.refl _ _).alloc (Nat.le_refl _) _) hb1
  clear hr0 hb1
  generalize HT : tab.toArray = TT
  have HH := Lib.hid HT
  clear HT HO
  go_wp2_with (first | (refine wpList_store_row 113 _ _ rfl rfl rfl w1.heap.size 113 rfl tab (congrArg Value.agg HH.out.symm) _ (heap_alloc_new w1 _) (by kernel_rfl) info_tab tab_one ?_; intro w2 hh2 hg2 hz2; have hr2 : w2.heap[w.heap.size]? = some (.cells z7.toArray 54 (0, 0)) := (hg2.block _ (by simp; omega) (by simp; omega)).trans ((Below.heap_alloc w1 _ _ hlt).trans hr1); have HB2 : Hid (Below w.heap.size w w2) := (HB1.out.alloc (by omega) _).grown hg2 (by simp; omega) (fun k hk => by injection hk with hk; omega); clear hz2 hg2 hr1; have c0 : w2.cell? ⟨w1.heap.size, 84, none⟩ = some (.int .i64 2) := (by rw [cell_of_row _ _ _ _ _ _ hh2]; kernel_rfl); have c1 : w2.cell? ⟨w1.heap.size, 85, none⟩ = some (.int .i64 3) := (by rw [cell_of_row _ _ _ _ _ _ hh2]; kernel_rfl); have c2 : w2.cell? ⟨w1.heap.size, 86, none⟩ = some (.int .i64 3) := (by rw [cell_of_row _ _ _ _ _ _ hh2]; kernel_rfl); have c3 : w2.cell? ⟨w1.heap.size, 87, none⟩ = some (.int .i64 0) := (by rw [cell_of_row _ _ _ _ _ _ hh2]; kernel_rfl); have c4 : w2.cell? ⟨w1.heap.size, 88, none⟩ = some (.int .i64 3) := (by rw [cell_of_row _ _ _ _ _ _ hh2]; kernel_rfl); have c5 : w2.cell? ⟨w1.heap.size, 89, none⟩ = some (.bool false) := (by rw [cell_of_row _ _ _ _ _ _ hh2]; kernel_rfl); have c6 : w2.cell? ⟨w1.heap.size, 90, none⟩ = some (.func (.func 138) #[] #[]) := (by rw [cell_of_row _ _ _ _ _ _ hh2]; kernel_rfl)) | (refine wpList_store_row 54 _ _ rfl rfl rfl w.heap.size 54 rfl (o7 2 3 3 0 3 false 138) rfl _ hr2 rfl info_op (o7_one _ _ _ _ _ _ _) ?_; intro w3 hh3 hg3 hz3; have HB3 : Hid (Below w.heap.size w w3) := HB2.out.grown hg3 (HB2.out.size) (fun k hk => by injection hk with hk; omega); clear hz3 hg3))
  refine bodyPost_ret (v := .tuple #[.agg (o7 2 3 3 0 3 false 138).toArray, .bool true]) (results_cell_tmp Tryz.results28 _ _ w.heap.size 54 _ (0, 0) _ rfl hh3 Tryz.underlying54 rfl (by rw [info_op]; rfl)) rfl ⟨rfl, HB3.out⟩

set_option maxRecDepth 100000 in
set_option maxHeartbeats 4000000 in
theorem f_op19 (w : World) :
    Calls Tryz.prog 28 #[.int .i64 19, .int .i64 2] w fun e w' => e = .returned (.tuple #[.agg (o7 2 2 2 0 1 true 145).toArray, .bool true]) ∧ Below w.heap.size w w' := by
  have HO := Lib.hid (fun W => c_operations W)
  go_enter Tryz.func28, Tryz.ntmps28
  go_wp2_with fail
  have hr0 := heap_alloc_new w (.cells z7.toArray 54)
  refine (HO.out _).mono ?_
  rintro e w1 ⟨rfl, hb1⟩
  have hr1 : w1.heap[w.heap.size]? = some (.cells z7.toArray 54 (0, 0)) := (hb1.block _ (by simp)).trans hr0
  have hlt : w.heap.size < w1.heap.size := (Array.getElem?_eq_some_iff.1 hr1).1
  have HB1 : Hid (Below w.heap.size w w1) := btr ((Below.refl _ _).alloc (Nat.le_refl _) _) hb1
  clear hr0 hb1
  generalize HT : tab.toArray = TT
  have HH := Lib.hid HT
  clear HT HO
  go_wp2_with (first | (refine wpList_store_row 113 _ _ rfl rfl rfl w1.heap.size 113 rfl tab (congrArg Value.agg HH.out.symm) _ (heap_alloc_new w1 _) (by kernel_rfl) info_tab tab_one ?_; intro w2 hh2 hg2 hz2; have hr2 : w2.heap[w.heap.size]? = some (.cells z7.toArray 54 (0, 0)) := (hg2.block _ (by simp; omega) (by simp; omega)).trans ((Below.heap_alloc w1 _ _ hlt).trans hr1); have HB2 : Hid (Below w.heap.size w w2) := (HB1.out.alloc (by omega) _).grown hg2 (by simp; omega) (fun k hk => by injection hk with hk; omega); clear hz2 hg2 hr1; have c0 : w2.cell? ⟨w1.heap.size, 133, none⟩ = some (.int .i64 2) := (by rw [cell_of_row _ _ _ _ _ _ hh2]; kernel_rfl); have c1 : w2.cell? ⟨w1.heap.size, 134, none⟩ = some (.int .i64 2) := (by rw [cell_of_row _ _ _ _ _ _ hh2]; kernel_rfl); have c2 : w2.cell? ⟨w1.heap.size, 135, none⟩ = some (.int .i64 2) := (by rw [cell_of_row _ _ _ _ _ _ hh2]; kernel_rfl); have c3 : w2.cell? ⟨w1.heap.size, 136, none⟩ = some (.int .i64 0) := (by rw [cell_of_row _ _ _ _ _ _ hh2]; kernel_rfl); have c4 : w2.cell? ⟨w1.heap.size, 137, none⟩ = some (.int .i64 1) := (by rw [cell_of_row _ _ _ _ _ _ hh2]; kernel_rfl); have c5 : w2.cell? ⟨w1.heap.size, 138, none⟩ = some (.bool true) := (by rw [cell_of_row _ _ _ _ _ _ hh2]; kernel_rfl); have c6 : w2.cell? ⟨w1.heap.size, 139, none⟩ = some (.func (.func 145) #[] #[]) := (by rw [cell_of_row _ _ _ _ _ _ hh2]; kernel_rfl)) | (refine wpList_store_row 54 _ _ rfl rfl rfl w.heap.size 54 rfl (o7 2 2 2 0 1 true 145) rfl _ hr2 rfl info_op (o7_one _ _ _ _ _ _ _) ?_; intro w3 hh3 hg3 hz3; have HB3 : Hid (Below w.heap.size w w3) := HB2.out.grown hg3 (HB2.out.size) (fun k hk => by injection hk with hk; omega); clear hz3 hg3))
  refine bodyPost_ret (v := .tuple #[.agg (o7 2 2 2 0 1 true 145).toArray, .bool true]) (results_cell_tmp Tryz.results28 _ _ w.heap.size 54 _ (0, 0) _ rfl hh3 Tryz.underlying54 rfl (by rw [info_op]; rfl)) rfl ⟨rfl, HB3.out⟩

set_option maxRecDepth 100000 in
set_option maxHeartbeats 4000000 in
theorem f_op20 (w : World) :
    Calls Tryz.prog 28 #[.int .i64 20, .int .i64 2] w fun e w' => e = .returned (.tuple #[.agg (o7 2 2 2 0 1 true 147).toArray, .bool true]) ∧ Below w.heap.size w w' := by
  have HO := Lib.hid (fun W => c_operations W)
  go_enter Tryz.func28, Tryz.ntmps28
  go_wp2_with fail
  have hr0 := heap_alloc_new w (.cells z7.toArray 54)
  refine (HO.out _).mono ?_
  rintro e w1 ⟨rfl, hb1⟩
  have hr1 : w1.heap[w.heap.size]? = some (.cells z7.toArray 54 (0, 0)) := (hb1.block _ (by simp)).trans hr0
  have hlt : w.heap.size < w1.heap.size := (Array.getElem?_eq_some_iff.1 hr1).1
  have HB1 : Hid (Below w.heap.size w w1) := btr ((Below.refl _ _).alloc (Nat.le_refl _) _) hb1
  clear hr0 hb1
  generalize HT : tab.toArray = TT
  have HH := Lib.hid HT
  clear HT HO
  go_wp2_with (first | (refine wpList_store_row 113 _ _ rfl rfl rfl w1.heap.size 113 rfl tab (congrArg Value.agg HH.out.symm) _ (heap_alloc_new w1 _) (by kernel_rfl) info_tab tab_one ?_; intro w2 hh2 hg2 hz2; have hr2 : w2.heap[w.heap.size]? = some (.cells z7.toArray 54 (0, 0)) := (hg2.block _ (by simp; omega) (by simp; omega)).trans ((Below.heap_alloc w1 _ _ hlt).trans hr1); have HB2 : Hid (Below w.heap.size w w2) := (HB1.out.alloc (by omega) _).grown hg2 (by simp; omega) (fun k hk => by injection hk with hk; omega); clear hz2 hg2 hr1; have c0 : w2.cell? ⟨w1.heap.size, 140, none⟩ = some (.int .i64 2) := (by rw [cell_of_row _ _ _ _ _ _ hh2]; kernel_rfl); have c1 : w2.cell? ⟨w1.heap.size, 141, none⟩ = some (.int .i64 2) := (by rw [cell_of_row _ _ _ _ _ _ hh2]; kernel_rfl); have c2 : w2.cell? ⟨w1.heap.size, 142, none⟩ = some (.int .i64 2) := (by rw [cell_of_row _ _ _ _ _ _ hh2]; kernel_rfl); have c3 : w2.cell? ⟨w1.heap.size, 143, none⟩ = some (.int .i64 0) := (by rw [cell_of_row _ _ _ _ _ _ hh2]; kernel_rfl); have c4 : w2.cell? ⟨w1.heap.size, 144, none⟩ = some (.int .i64 1) := (by rw [cell_of_row _ _ _ _ _ _ hh2]; kernel_rfl); have c5 : w2.cell? ⟨w1.heap.size, 145, none⟩ = some (.bool true) := (by rw [cell_of_row _ _ _ _ _ _ hh2]; kernel_rfl); have c6 : w2.cell? ⟨w1.heap.size, 146, none⟩ = some (.func (.func 147) #[] #[]) := (by rw [cell_of_row _ _ _ _ _ _ hh2]; kernel_rfl)) | (refine wpList_store_row 54 _ _ rfl rfl rfl w.heap.size 54 rfl (o7 2 2 2 0 1 true 147) rfl _ hr2 rfl info_op (o7_one _ _ _ _ _ _ _) ?_; intro w3 hh3 hg3 hz3; have HB3 : Hid (Below w.heap.size w w3) := HB2.out.grown hg3 (HB2.out.size) (fun k hk => by injection hk with hk; omega); clear hz3 hg3))
  refine bodyPost_ret (v := .tuple #[.agg (o7 2 2 2 0 1 true 147).toArray, .bool true]) (results_cell_tmp Tryz.results28 _ _ w.heap.size 54 _ (0, 0) _ rfl hh3 Tryz.underlying54 rfl (by rw [info_op]; rfl)) rfl ⟨rfl, HB3.out⟩

set_option maxRecDepth 100000 in
set_option maxHeartbeats 4000000 in
theorem f_op21 (w : World) :
    Calls Tryz.prog 28 #[.int .i64 21, .int .i64 2] w fun e w' => e = .returned (.tuple #[.agg (o7 2 4 4 0 0 true 148).toArray, .bool true]) ∧ Below w.heap.size w w' := by
  have HO := Lib.hid (fun W => c_operations W)
  go_enter Tryz.func28, Tryz.ntmps28
  go_wp2_with fail
  have hr0 := heap_alloc_new w (.cells z7.toArray 54)
  refine (HO.out _).mono ?_
  rintro e w1 ⟨rfl, hb1⟩
  have hr1 : w1.heap[w.heap.size]? = some (.cells z7.toArray 54 (0, 0)) := (hb1.block _ (by simp)).trans hr0
  have hlt : w.heap.size < w1.heap.size := (Array.getElem?_eq_some_iff.1 hr1).1
  have HB1 : Hid (Below w.heap.size w w1) := btr ((Below.refl _ _).alloc (Nat.le_refl _) _) hb1
  clear hr0 hb1
  generalize HT : tab.toArray = TT
  have HH := Lib.hid HT
  clear HT HO
  go_wp2_with (first | (refine wpList_store_row 113 _ _ rfl rfl rfl w1.heap.size 113 rfl tab (congrArg Value.agg HH.out.symm) _ (heap_alloc_new w1 _) (by kernel_rfl) info_tab tab_one ?_; intro w2 hh2 hg2 hz2; have hr2 : w2.heap[w.heap.size]? = some (.cells z7.toArray 54 (0, 0)) := (hg2.block _ (by simp; omega) (by simp; omega)).trans ((Below.heap_alloc w1 _ _ hlt).trans hr1); have HB2 : Hid (Below w.heap.size w w2) := (HB1.out.alloc (by omega) _).grown hg2 (by simp; omega) (fun k hk => by injection hk with hk; omega); clear hz2 hg2 hr1; have c0 : w2.cell? ⟨w1.heap.size, 147, none⟩ = some (.int .i64 2) := (by rw [cell_of_row _ _ _ _ _ _ hh2]; kernel_rfl); have c1 : w2.cell? ⟨w1.heap.size, 148, none⟩ = some (.int .i64 4) := (by rw [cell_of_row _ _ _ _ _ _ hh2]; kernel_rfl); have c2 : w2.cell? ⟨w1.heap.size, 149, none⟩ = some (.int .i64 4) := (by rw [cell_of_row _ _ _ _ _ _ hh2]; kernel_rfl); have c3 : w2.cell? ⟨w1.heap.size, 150, none⟩ = some (.int .i64 0) := (by rw [cell_of_row _ _ _ _ _ _ hh2]; kernel_rfl); have c4 : w2.cell? ⟨w1.heap.size, 151, none⟩ = some (.int .i64 0) := (by rw [cell_of_row _ _ _ _ _ _ hh2]; kernel_rfl); have c5 : w2.cell? ⟨w1.heap.size, 152, none⟩ = some (.bool true) := (by rw [cell_of_row _ _ _ _ _ _ hh2]; kernel_rfl); have c6 : w2.cell? ⟨w1.heap.size, 153, none⟩ = some (.func (.func 148) #[] #[]) := (by rw [cell_of_row _ _ _ _ _ _ hh2]; kernel_rfl)) | (refine wpList_store_row 54 _ _ rfl rfl rfl w.heap.size 54 rfl (o7 2 4 4 0 0 true 148) rfl _ hr2 rfl info_op (o7_one _ _ _ _ _ _ _) ?_; intro w3 hh3 hg3 hz3; have HB3 : Hid (Below w.heap.size w w3) := HB2.out.grown hg3 (HB2.out.size) (fun k hk => by injection hk with hk; omega); clear hz3 hg3))
  refine bodyPost_ret (v := .tuple #[.agg (o7 2 4 4 0 0 true 148).toArray, .bool true]) (results_cell_tmp Tryz.results28 _ _ w.heap.size 54 _ (0, 0) _ rfl hh3 Tryz.underlying54 rfl (by rw [info_op]; rfl)) rfl ⟨rfl, HB3.out⟩

set_option maxRecDepth 100000 in
set_option maxHeartbeats 4000000 in
theorem f_op22 (w : World) :
    Calls Tryz.prog 28 #[.int .i64 22, .int .i64 3] w fun e w' => e = .returned (.tuple #[.agg (o7 3 2 4 4 0 true 150).toArray, .bool true]) ∧ Below w.heap.size w w' := by
  have HO := Lib.hid (fun W => c_operations W)
  go_enter Tryz.func28, Tryz.ntmps28
  go_wp2_with fail
  have hr0 := heap_alloc_new w (.cells z7.toArray 54)
  refine (HO.out _).mono ?_
  rintro e w1 ⟨rfl, hb1⟩
  have hr1 : w1.heap[w.heap.size]? = some (.cells z7.toArray 54 (0, 0)) := (hb1.block _ (by simp)).trans hr0
  have hlt : w.heap.size < w1.heap.size := (Array.getElem?_eq_some_iff.1 hr1).1
  have HB1 : Hid (Below w.heap.size w w1) := btr ((Below.refl _ _).alloc (Nat.le_refl _) _) hb1
  clear hr0 hb1
  generalize HT : tab.toArray = TT
  have HH := Lib.hid HT
  clear HT HO
  go_wp2_with (first | (refine wpList_store_row 113 _ _ rfl rfl rfl w1.heap.size 113 rfl tab (congrArg Value.agg HH.out.symm) _ (heap_alloc_new w1 _) (by kernel_rfl) info_tab tab_one ?_; intro w2 hh2 hg2 hz2; have hr2 : w2.heap[w.heap.size]? = some (.cells z7.toArray 54 (0, 0)) := (hg2.block _ (by simp; omega) (by simp; omega)).trans ((Below.heap_alloc w1 _ _ hlt).trans hr1); have HB2 : Hid (Below w.heap.size w w2) := (HB1.out.alloc (by omega) _).grown hg2 (by simp; omega) (fun k hk => by injection hk with hk; omega); clear hz2 hg2 hr1; have c0 : w2.cell? ⟨w1.heap.size, 154, none⟩ = some (.int .i64 3) := (by rw [cell_of_row _ _ _ _ _ _ hh2]; kernel_rfl); have c1 : w2.cell? ⟨w1.heap.size, 155, none⟩ = some (.int .i64 2) := (by rw [cell_of_row _ _ _ _ _ _ hh2]; kernel_rfl); have c2 : w2.cell? ⟨w1.heap.size, 156, none⟩ = some (.int .i64 4) := (by rw [cell_of_row _ _ _ _ _ _ hh2]; kernel_rfl); have c3 : w2.cell? ⟨w1.heap.size, 157, none⟩ = some (.int .i64 4) := (by rw [cell_of_row _ _ _ _ _ _ hh2]; kernel_rfl); have c4 : w2.cell? ⟨w1.heap.size, 158, none⟩ = some (.int .i64 0) := (by rw [cell_of_row _ _ _ _ _ _ hh2]; kernel_rfl); have c5 : w2.cell? ⟨w1.heap.size, 159, none⟩ = some (.bool true) := (by rw [cell_of_row _ _ _ _ _ _ hh2]; kernel_rfl); have c6 : w2.cell? ⟨w1.heap.size, 160, none⟩ = some (.func (.func 150) #[] #[]) := (by rw [cell_of_row _ _ _ _ _ _ hh2]; kernel_rfl)) | (refine wpList_store_row 54 _ _ rfl rfl rfl w.heap.size 54 rfl (o7 3 2 4 4 0 true 150) rfl _ hr2 rfl info_op (o7_one _ _ _ _ _ _ _) ?_; intro w3 hh3 hg3 hz3; have HB3 : Hid (Below w.heap.size w w3) := HB2.out.grown hg3 (HB2.out.size) (fun k hk => by injection hk with hk; omega); clear hz3 hg3))
  refine bodyPost_ret (v := .tuple #[.agg (o7 3 2 4 4 0 true 150).toArray, .bool true]) (results_cell_tmp Tryz.results28 _ _ w.heap.size 54 _ (0, 0) _ rfl hh3 Tryz.underlying54 rfl (by rw [info_op]; rfl)) rfl ⟨rfl, HB3.out⟩

set_option maxRecDepth 100000 in
set_option maxHeartbeats 4000000 in
theorem f_bad (w : World) (op c : Int) (hbad : op < 0 ∨ (0 ≤ op ∧ 23 ≤ op) ∨ (0 ≤ op ∧ op < 23 ∧ c = 0)) :
    Calls Tryz.prog 28 #[.int .i64 op, .int .i64 c] w fun e w' => e = .returned (.tuple #[.agg z7.toArray, .bool false]) ∧ Below w.heap.size w w' := by
  have HO := Lib.hid (fun W => c_operations W)
  rcases hbad with hbad | hbad | ⟨h1, h2, rfl⟩
  all_goals
    go_enter Tryz.func28, Tryz.ntmps28
    go_wp2_with fail
    have hr0 := heap_alloc_new w (.cells z7.toArray 54)
    refine (HO.out _).mono ?_
    rintro e w1 ⟨rfl, hb1⟩
    have hr1 : w1.heap[w.heap.size]? = some (.cells z7.toArray 54 (0, 0)) := (hb1.block _ (by simp)).trans hr0
    have hlt : w.heap.size < w1.heap.size := (Array.getElem?_eq_some_iff.1 hr1).1
    have HB1 : Hid (Below w.heap.size w w1) := btr ((Below.refl _ _).alloc (Nat.le_refl _) _) hb1
    clear hr0 hb1
    generalize HT : tab.toArray = TT
    have HH := Lib.hid HT
    clear HT HO
    go_wp2_with (first | (refine wpList_store_row 113 _ _ rfl rfl rfl w1.heap.size 113 rfl tab (congrArg Value.agg HH.out.symm) _ (heap_alloc_new w1 _) (by kernel_rfl) info_tab tab_one ?_; intro w2 hh2 hg2 hz2; have hr2 : w2.heap[w.heap.size]? = some (.cells z7.toArray 54 (0, 0)) := (hg2.block _ (by simp; omega) (by simp; omega)).trans ((Below.heap_alloc w1 _ _ hlt).trans hr1); have HB2 : Hid (Below w.heap.size w w2) := (HB1.out.alloc (by omega) _).grown hg2 (by simp; omega) (fun k hk => by injection hk with hk; omega); clear hz2 hg2 hr1) | (refine wpList_store_row 54 _ _ rfl rfl rfl w.heap.size 54 rfl z7 rfl _ hr2 rfl info_op z7_one ?_; intro w3 hh3 hg3 hz3; have HB3 : Hid (Below w.heap.size w w3) := HB2.out.grown hg3 (HB2.out.size) (fun k hk => by injection hk with hk; omega); clear hz3 hg3))
    refine bodyPost_ret (v := .tuple #[.agg z7.toArray, .bool false]) (results_cell_tmp Tryz.results28 _ _ w.heap.size 54 _ (0, 0) _ rfl hh3 Tryz.underlying54 rfl (by rw [info_op]; rfl)) rfl ⟨rfl, HB3.out⟩
end Go.Proofs.YtmejbkfamapnkaaGreatDoor

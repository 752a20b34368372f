/- Finding an operation by its number and its number of operands. -/
import Derived.Test.YthppcklegdnjdaaGreatDoorZOps

/- Finding an operation by its number and its number of operands. -/
section
namespace Go.Proofs.YthppcklegdnjdaaGreatDoor
open Go.RowKit Go.Deep

theorem results_cell_tmp {P : Program} {fn : Func} {p q : Tmp} {ty : TypeId} (h : fn.results = #[.cell p ty, .tmp q]) (tmps : Array Value) (w : World) (g : Nat) (t : TypeId) (cs : Array Value) (fr : Nat × Nat) (d : TypeDesc)
    (hp : tmps.getD p undef = .pointer (some ⟨g, 0, none⟩)) (hg : w.heap[g]? = some (.cells cs t fr))
    (hu : P.underlying ty = some d) (hd : (match d with | .struct _ | .array _ _ => true | _ => false) = true) (hi : (P.info? ty).map (·.size) = some cs.size) :
    (results fn tmps).run P w = .ok (.tuple #[.agg cs, tmps.getD q undef]) w := by
  have hp' : tmps[p]?.getD undef = .pointer (some ⟨g, 0, none⟩) := by simpa using hp
  simp [results, h, hp', asAddr, run_loadVar_row w g t ty cs fr d hg hu hd hi]
theorem info_op : (Tryz.prog.info? 89).map (·.size) = some 7 := by kernel_rfl
theorem o7_one (c n1 n2 n3 r : Int) (l : Bool) (f : Nat) : ∀ v ∈ o7 c n1 n2 n3 r l f, v.oneCell' = true := by
  intro v hv
  simp only [o7, List.mem_cons, List.not_mem_nil, or_false] at hv
  rcases hv with rfl | rfl | rfl | rfl | rfl | rfl | rfl <;> rfl
theorem z7_one : ∀ v ∈ z7, v.oneCell' = true := by
  intro v hv
  simp only [z7, List.mem_cons, List.not_mem_nil, or_false] at hv
  rcases hv with rfl | rfl | rfl | rfl | rfl | rfl | rfl <;> rfl

set_option maxRecDepth 100000 in
set_option maxHeartbeats 4000000 in
theorem f_op4 (w : World) :
    Calls Tryz.prog 50 #[.int .i64 4, .int .i64 1] w fun e w' => e = .returned (.tuple #[.agg (o7 1 2 0 0 1 false 127).toArray, .bool true]) ∧ Below w.heap.size w w' := by
  have HO := Lib.hid (fun W => c_operations W)
  go_enter Tryz.func50, Tryz.ntmps50
  go_wp2_with fail
  have hr0 := heap_alloc_new w (.cells z7.toArray 89)
  refine (HO.out _).mono ?_
  rintro e w1 ⟨rfl, hb1⟩
  have hr1 : w1.heap[w.heap.size]? = some (.cells z7.toArray 89 (0, 0)) := (hb1.block _ (by simp)).trans hr0
  have hlt : w.heap.size < w1.heap.size := (Array.getElem?_eq_some_iff.1 hr1).1
  have HB1 : Hid (Below w.heap.size w w1) := btr ((Below.refl _ _).alloc (Nat.le_refl _) _) hb1
  clear hr0 hb1
  generalize HT : tab.toArray = TT
  have HH := Lib.hid HT
  clear HT HO
  go_wp2_with (first | (refine wpList_store_row 135 _ _ rfl rfl rfl w1.heap.size 135 rfl tab (congrArg Value.agg HH.out.symm) _ (heap_alloc_new w1 _) (by kernel_rfl) info_tab tab_one ?_; intro w2 hh2 hg2 hz2; have hr2 : w2.heap[w.heap.size]? = some (.cells z7.toArray 89 (0, 0)) := (hg2.block _ (by simp; omega) (by simp; omega)).trans ((Below.heap_alloc w1 _ _ hlt).trans hr1); have HB2 : Hid (Below w.heap.size w w2) := (HB1.out.alloc (by omega) _).grown hg2 (by simp; omega) (fun k hk => by injection hk with hk; omega); clear hz2 hg2 hr1; have c0 : w2.cell? ⟨w1.heap.size, 28, none⟩ = some (.int .i64 1) := (by rw [cell_of_row _ _ _ _ _ _ hh2]; kernel_rfl); have c1 : w2.cell? ⟨w1.heap.size, 29, none⟩ = some (.int .i64 2) := (by rw [cell_of_row _ _ _ _ _ _ hh2]; kernel_rfl); have c2 : w2.cell? ⟨w1.heap.size, 30, none⟩ = some (.int .i64 0) := (by rw [cell_of_row _ _ _ _ _ _ hh2]; kernel_rfl); have c3 : w2.cell? ⟨w1.heap.size, 31, none⟩ = some (.int .i64 0) := (by rw [cell_of_row _ _ _ _ _ _ hh2]; kernel_rfl); have c4 : w2.cell? ⟨w1.heap.size, 32, none⟩ = some (.int .i64 1) := (by rw [cell_of_row _ _ _ _ _ _ hh2]; kernel_rfl); have c5 : w2.cell? ⟨w1.heap.size, 33, none⟩ = some (.bool false) := (by rw [cell_of_row _ _ _ _ _ _ hh2]; kernel_rfl); have c6 : w2.cell? ⟨w1.heap.size, 34, none⟩ = some (.func (.func 127) #[] #[]) := (by rw [cell_of_row _ _ _ _ _ _ hh2]; kernel_rfl)) | (refine wpList_store_row 89 _ _ rfl rfl rfl w.heap.size 89 rfl (o7 1 2 0 0 1 false 127) rfl _ hr2 rfl info_op (o7_one _ _ _ _ _ _ _) ?_; intro w3 hh3 hg3 hz3; have HB3 : Hid (Below w.heap.size w w3) := HB2.out.grown hg3 (HB2.out.size) (fun k hk => by injection hk with hk; omega); clear hz3 hg3))
  refine bodyPost_ret (v := .tuple #[.agg (o7 1 2 0 0 1 false 127).toArray, .bool true]) (results_cell_tmp Tryz.results50 _ _ w.heap.size 89 _ (0, 0) _ rfl hh3 Tryz.underlying89 rfl (by rw [info_op]; rfl)) rfl ⟨rfl, HB3.out⟩

set_option maxRecDepth 100000 in
set_option maxHeartbeats 4000000 in
theorem f_op9 (w : World) :
    Calls Tryz.prog 50 #[.int .i64 9, .int .i64 2] w fun e w' => e = .returned (.tuple #[.agg (o7 2 3 3 0 0 false 134).toArray, .bool true]) ∧ Below w.heap.size w w' := by
  have HO := Lib.hid (fun W => c_operations W)
  go_enter Tryz.func50, Tryz.ntmps50
  go_wp2_with fail
  have hr0 := heap_alloc_new w (.cells z7.toArray 89)
  refine (HO.out _).mono ?_
  rintro e w1 ⟨rfl, hb1⟩
  have hr1 : w1.heap[w.heap.size]? = some (.cells z7.toArray 89 (0, 0)) := (hb1.block _ (by simp)).trans hr0
  have hlt : w.heap.size < w1.heap.size := (Array.getElem?_eq_some_iff.1 hr1).1
  have HB1 : Hid (Below w.heap.size w w1) := btr ((Below.refl _ _).alloc (Nat.le_refl _) _) hb1
  clear hr0 hb1
  generalize HT : tab.toArray = TT
  have HH := Lib.hid HT
  clear HT HO
  go_wp2_with (first | (refine wpList_store_row 135 _ _ rfl rfl rfl w1.heap.size 135 rfl tab (congrArg Value.agg HH.out.symm) _ (heap_alloc_new w1 _) (by kernel_rfl) info_tab tab_one ?_; intro w2 hh2 hg2 hz2; have hr2 : w2.heap[w.heap.size]? = some (.cells z7.toArray 89 (0, 0)) := (hg2.block _ (by simp; omega) (by simp; omega)).trans ((Below.heap_alloc w1 _ _ hlt).trans hr1); have HB2 : Hid (Below w.heap.size w w2) := (HB1.out.alloc (by omega) _).grown hg2 (by simp; omega) (fun k hk => by injection hk with hk; omega); clear hz2 hg2 hr1; have c0 : w2.cell? ⟨w1.heap.size, 63, none⟩ = some (.int .i64 2) := (by rw [cell_of_row _ _ _ _ _ _ hh2]; kernel_rfl); have c1 : w2.cell? ⟨w1.heap.size, 64, none⟩ = some (.int .i64 3) := (by rw [cell_of_row _ _ _ _ _ _ hh2]; kernel_rfl); have c2 : w2.cell? ⟨w1.heap.size, 65, none⟩ = some (.int .i64 3) := (by rw [cell_of_row _ _ _ _ _ _ hh2]; kernel_rfl); have c3 : w2.cell? ⟨w1.heap.size, 66, none⟩ = some (.int .i64 0) := (by rw [cell_of_row _ _ _ _ _ _ hh2]; kernel_rfl); have c4 : w2.cell? ⟨w1.heap.size, 67, none⟩ = some (.int .i64 0) := (by rw [cell_of_row _ _ _ _ _ _ hh2]; kernel_rfl); have c5 : w2.cell? ⟨w1.heap.size, 68, none⟩ = some (.bool false) := (by rw [cell_of_row _ _ _ _ _ _ hh2]; kernel_rfl); have c6 : w2.cell? ⟨w1.heap.size, 69, none⟩ = some (.func (.func 134) #[] #[]) := (by rw [cell_of_row _ _ _ _ _ _ hh2]; kernel_rfl)) | (refine wpList_store_row 89 _ _ rfl rfl rfl w.heap.size 89 rfl (o7 2 3 3 0 0 false 134) rfl _ hr2 rfl info_op (o7_one _ _ _ _ _ _ _) ?_; intro w3 hh3 hg3 hz3; have HB3 : Hid (Below w.heap.size w w3) := HB2.out.grown hg3 (HB2.out.size) (fun k hk => by injection hk with hk; omega); clear hz3 hg3))
  refine bodyPost_ret (v := .tuple #[.agg (o7 2 3 3 0 0 false 134).toArray, .bool true]) (results_cell_tmp Tryz.results50 _ _ w.heap.size 89 _ (0, 0) _ rfl hh3 Tryz.underlying89 rfl (by rw [info_op]; rfl)) rfl ⟨rfl, HB3.out⟩

set_option maxRecDepth 100000 in
set_option maxHeartbeats 4000000 in
theorem f_op12 (w : World) :
    Calls Tryz.prog 50 #[.int .i64 12, .int .i64 2] w fun e w' => e = .returned (.tuple #[.agg (o7 2 3 3 0 3 false 137).toArray, .bool true]) ∧ Below w.heap.size w w' := by
  have HO := Lib.hid (fun W => c_operations W)
  go_enter Tryz.func50, Tryz.ntmps50
  go_wp2_with fail
  have hr0 := heap_alloc_new w (.cells z7.toArray 89)
  refine (HO.out _).mono ?_
  rintro e w1 ⟨rfl, hb1⟩
  have hr1 : w1.heap[w.heap.size]? = some (.cells z7.toArray 89 (0, 0)) := (hb1.block _ (by simp)).trans hr0
  have hlt : w.heap.size < w1.heap.size := (Array.getElem?_eq_some_iff.1 hr1).1
  have HB1 : Hid (Below w.heap.size w w1) := btr ((Below.refl _ _).alloc (Nat.le_refl _) _) hb1
  clear hr0 hb1
  generalize HT : tab.toArray = TT
  have HH := Lib.hid HT
  clear HT HO
  go_wp2_with (first | (refine wpList_store_row 135 _ _ rfl rfl rfl w1.heap.size 135 rfl tab (congrArg Value.agg HH.out.symm) _ (heap_alloc_new w1 _) (by kernel_rfl) info_tab tab_one ?_; intro w2 hh2 hg2 hz2; have hr2 : w2.heap[w.heap.size]? = some (.cells z7.toArray 89 (0, 0)) := (hg2.block _ (by simp; omega) (by simp; omega)).trans ((Below.heap_alloc w1 _ _ hlt).trans hr1); have HB2 : Hid (Below w.heap.size w w2) := (HB1.out.alloc (by omega) _).grown hg2 (by simp; omega) (fun k hk => by injection hk with hk; omega); clear hz2 hg2 hr1; have c0 : w2.cell? ⟨w1.heap.size, 84, none⟩ = some (.int .i64 2) := (by rw [cell_of_row _ _ _ _ _ _ hh2]; kernel_rfl); have c1 : w2.cell? ⟨w1.heap.size, 85, none⟩ = some (.int .i64 3) := (by rw [cell_of_row _ _ _ _ _ _ hh2]; kernel_rfl); have c2 : w2.cell? ⟨w1.heap.size, 86, none⟩ = some (.int .i64 3) := (by rw [cell_of_row _ _ _ _ _ _ hh2]; kernel_rfl); have c3 : w2.cell? ⟨w1.heap.size, 87, none⟩ = some (.int .i64 0) := (by rw [cell_of_row _ _ _ _ _ _ hh2]; kernel_rfl); have c4 : w2.cell? ⟨w1.heap.size, 88, none⟩ = some (.int .i64 3) := (by rw [cell_of_row _ _ _ _ _ _ hh2]; kernel_rfl); have c5 : w2.cell? ⟨w1.heap.size, 89, none⟩ = some (.bool false) := (by rw [cell_of_row _ _ _ _ _ _ hh2]; kernel_rfl); have c6 : w2.cell? ⟨w1.heap.size, 90, none⟩ = some (.func (.func 137) #[] #[]) := (by rw [cell_of_row _ _ _ _ _ _ hh2]; kernel_rfl)) | (refine wpList_store_row 89 _ _ rfl rfl rfl w.heap.size 89 rfl (o7 2 3 3 0 3 false 137) rfl _ hr2 rfl info_op (o7_one _ _ _ _ _ _ _) ?_; intro w3 hh3 hg3 hz3; have HB3 : Hid (Below w.heap.size w w3) := HB2.out.grown hg3 (HB2.out.size) (fun k hk => by injection hk with hk; omega); clear hz3 hg3))
  refine bodyPost_ret (v := .tuple #[.agg (o7 2 3 3 0 3 false 137).toArray, .bool true]) (results_cell_tmp Tryz.results50 _ _ w.heap.size 89 _ (0, 0) _ rfl hh3 Tryz.underlying89 rfl (by rw [info_op]; rfl)) rfl ⟨rfl, HB3.out⟩

set_option maxRecDepth 100000 in
set_option maxHeartbeats 4000000 in
theorem f_op19 (w : World) :
    Calls Tryz.prog 50 #[.int .i64 19, .int .i64 2] w fun e w' => e = .returned (.tuple #[.agg (o7 2 2 2 0 1 true 144).toArray, .bool true]) ∧ Below w.heap.size w w' := by
  have HO := Lib.hid (fun W => c_operations W)
  go_enter Tryz.func50, Tryz.ntmps50
  go_wp2_with fail
  have hr0 := heap_alloc_new w (.cells z7.toArray 89)
  refine (HO.out _).mono ?_
  rintro e w1 ⟨rfl, hb1⟩
  have hr1 : w1.heap[w.heap.size]? = some (.cells z7.toArray 89 (0, 0)) := (hb1.block _ (by simp)).trans hr0
  have hlt : w.heap.size < w1.heap.size := (Array.getElem?_eq_some_iff.1 hr1).1
  have HB1 : Hid (Below w.heap.size w w1) := btr ((Below.refl _ _).alloc (Nat.le_refl _) _) hb1
  clear hr0 hb1
  generalize HT : tab.toArray = TT
  have HH := Lib.hid HT
  clear HT HO
  go_wp2_with (first | (refine wpList_store_row 135 _ _ rfl rfl rfl w1.heap.size 135 rfl tab (congrArg Value.agg HH.out.symm) _ (heap_alloc_new w1 _) (by kernel_rfl) info_tab tab_one ?_; intro w2 hh2 hg2 hz2; have hr2 : w2.heap[w.heap.size]? = some (.cells z7.toArray 89 (0, 0)) := (hg2.block _ (by simp; omega) (by simp; omega)).trans ((Below.heap_alloc w1 _ _ hlt).trans hr1); have HB2 : Hid (Below w.heap.size w w2) := (HB1.out.alloc (by omega) _).grown hg2 (by simp; omega) (fun k hk => by injection hk with hk; omega); clear hz2 hg2 hr1; have c0 : w2.cell? ⟨w1.heap.size, 133, none⟩ = some (.int .i64 2) := (by rw [cell_of_row _ _ _ _ _ _ hh2]; kernel_rfl); have c1 : w2.cell? ⟨w1.heap.size, 134, none⟩ = some (.int .i64 2) := (by rw [cell_of_row _ _ _ _ _ _ hh2]; kernel_rfl); have c2 : w2.cell? ⟨w1.heap.size, 135, none⟩ = some (.int .i64 2) := (by rw [cell_of_row _ _ _ _ _ _ hh2]; kernel_rfl); have c3 : w2.cell? ⟨w1.heap.size, 136, none⟩ = some (.int .i64 0) := (by rw [cell_of_row _ _ _ _ _ _ hh2]; kernel_rfl); have c4 : w2.cell? ⟨w1.heap.size, 137, none⟩ = some (.int .i64 1) := (by rw [cell_of_row _ _ _ _ _ _ hh2]; kernel_rfl); have c5 : w2.cell? ⟨w1.heap.size, 138, none⟩ = some (.bool true) := (by rw [cell_of_row _ _ _ _ _ _ hh2]; kernel_rfl); have c6 : w2.cell? ⟨w1.heap.size, 139, none⟩ = some (.func (.func 144) #[] #[]) := (by rw [cell_of_row _ _ _ _ _ _ hh2]; kernel_rfl)) | (refine wpList_store_row 89 _ _ rfl rfl rfl w.heap.size 89 rfl (o7 2 2 2 0 1 true 144) rfl _ hr2 rfl info_op (o7_one _ _ _ _ _ _ _) ?_; intro w3 hh3 hg3 hz3; have HB3 : Hid (Below w.heap.size w w3) := HB2.out.grown hg3 (HB2.out.size) (fun k hk => by injection hk with hk; omega); clear hz3 hg3))
  refine bodyPost_ret (v := .tuple #[.agg (o7 2 2 2 0 1 true 144).toArray, .bool true]) (results_cell_tmp Tryz.results50 _ _ w.heap.size 89 _ (0, 0) _ rfl hh3 Tryz.underlying89 rfl (by rw [info_op]; rfl)) rfl ⟨rfl, HB3.out⟩

set_option maxRecDepth 100000 in
set_option maxHeartbeats 4000000 in
theorem f_op20 (w : World) :
    Calls Tryz.prog 50 #[.int .i64 20, .int .i64 2] w fun e w' => e = .returned (.tuple #[.agg (o7 2 2 2 0 1 true 146).toArray, .bool true]) ∧ Below w.heap.size w w' := by
  have HO := Lib.hid (fun W => c_operations W)
  go_enter Tryz.func50, Tryz.ntmps50
  go_wp2_with fail
  have hr0 := heap_alloc_new w (.cells z7.toArray 89)
  refine (HO.out _).mono ?_
  rintro e w1 ⟨rfl, hb1⟩
  have hr1 : w1.heap[w.heap.size]? = some (.cells z7.toArray 89 (0, 0)) := (hb1.block _ (by simp)).trans hr0
  have hlt : w.heap.size < w1.heap.size := (Array.getElem?_eq_some_iff.1 hr1).1
  have HB1 : Hid (Below w.heap.size w w1) := btr ((Below.refl _ _).alloc (Nat.le_refl _) _) hb1
  clear hr0 hb1
  generalize HT : tab.toArray = TT
  have HH := Lib.hid HT
  clear HT HO
  go_wp2_with (first | (refine wpList_store_row 135 _ _ rfl rfl rfl w1.heap.size 135 rfl tab (congrArg Value.agg HH.out.symm) _ (heap_alloc_new w1 _) (by kernel_rfl) info_tab tab_one ?_; intro w2 hh2 hg2 hz2; have hr2 : w2.heap[w.heap.size]? = some (.cells z7.toArray 89 (0, 0)) := (hg2.block _ (by simp; omega) (by simp; omega)).trans ((Below.heap_alloc w1 _ _ hlt).trans hr1); have HB2 : Hid (Below w.heap.size w w2) := (HB1.out.alloc (by omega) _).grown hg2 (by simp; omega) (fun k hk => by injection hk with hk; omega); clear hz2 hg2 hr1; have c0 : w2.cell? ⟨w1.heap.size, 140, none⟩ = some (.int .i64 2) := (by rw [cell_of_row _ _ _ _ _ _ hh2]; kernel_rfl); have c1 : w2.cell? ⟨w1.heap.size, 141, none⟩ = some (.int .i64 2) := (by rw [cell_of_row _ _ _ _ _ _ hh2]; kernel_rfl); have c2 : w2.cell? ⟨w1.heap.size, 142, none⟩ = some (.int .i64 2) := (by rw [cell_of_row _ _ _ _ _ _ hh2]; kernel_rfl); have c3 : w2.cell? ⟨w1.heap.size, 143, none⟩ = some (.int .i64 0) := (by rw [cell_of_row _ _ _ _ _ _ hh2]; kernel_rfl); have c4 : w2.cell? ⟨w1.heap.size, 144, none⟩ = some (.int .i64 1) := (by rw [cell_of_row _ _ _ _ _ _ hh2]; kernel_rfl); have c5 : w2.cell? ⟨w1.heap.size, 145, none⟩ = some (.bool true) := (by rw [cell_of_row _ _ _ _ _ _ hh2]; kernel_rfl); have c6 : w2.cell? ⟨w1.heap.size, 146, none⟩ = some (.func (.func 146) #[] #[]) := (by rw [cell_of_row _ _ _ _ _ _ hh2]; kernel_rfl)) | (refine wpList_store_row 89 _ _ rfl rfl rfl w.heap.size 89 rfl (o7 2 2 2 0 1 true 146) rfl _ hr2 rfl info_op (o7_one _ _ _ _ _ _ _) ?_; intro w3 hh3 hg3 hz3; have HB3 : Hid (Below w.heap.size w w3) := HB2.out.grown hg3 (HB2.out.size) (fun k hk => by injection hk with hk; omega); clear hz3 hg3))
  refine bodyPost_ret (v := .tuple #[.agg (o7 2 2 2 0 1 true 146).toArray, .bool true]) (results_cell_tmp Tryz.results50 _ _ w.heap.size 89 _ (0, 0) _ rfl hh3 Tryz.underlying89 rfl (by rw [info_op]; rfl)) rfl ⟨rfl, HB3.out⟩

set_option maxRecDepth 100000 in
set_option maxHeartbeats 4000000 in
theorem f_op21 (w : World) :
    Calls Tryz.prog 50 #[.int .i64 21, .int .i64 2] w fun e w' => e = .returned (.tuple #[.agg (o7 2 4 4 0 0 true 147).toArray, .bool true]) ∧ Below w.heap.size w w' := by
  have HO := Lib.hid (fun W => c_operations W)
  go_enter Tryz.func50, Tryz.ntmps50
  go_wp2_with fail
  have hr0 := heap_alloc_new w (.cells z7.toArray 89)
  refine (HO.out _).mono ?_
  rintro e w1 ⟨rfl, hb1⟩
  have hr1 : w1.heap[w.heap.size]? = some (.cells z7.toArray 89 (0, 0)) := (hb1.block _ (by simp)).trans hr0
  have hlt : w.heap.size < w1.heap.size := (Array.getElem?_eq_some_iff.1 hr1).1
  have HB1 : Hid (Below w.heap.size w w1) := btr ((Below.refl _ _).alloc (Nat.le_refl _) _) hb1
  clear hr0 hb1
  generalize HT : tab.toArray = TT
  have HH := Lib.hid HT
  clear HT HO
  go_wp2_with (first | (refine wpList_store_row 135 _ _ rfl rfl rfl w1.heap.size 135 rfl tab (congrArg Value.agg HH.out.symm) _ (heap_alloc_new w1 _) (by kernel_rfl) info_tab tab_one ?_; intro w2 hh2 hg2 hz2; have hr2 : w2.heap[w.heap.size]? = some (.cells z7.toArray 89 (0, 0)) := (hg2.block _ (by simp; omega) (by simp; omega)).trans ((Below.heap_alloc w1 _ _ hlt).trans hr1); have HB2 : Hid (Below w.heap.size w w2) := (HB1.out.alloc (by omega) _).grown hg2 (by simp; omega) (fun k hk => by injection hk with hk; omega); clear hz2 hg2 hr1; have c0 : w2.cell? ⟨w1.heap.size, 147, none⟩ = some (.int .i64 2) := (by rw [cell_of_row _ _ _ _ _ _ hh2]; kernel_rfl); have c1 : w2.cell? ⟨w1.heap.size, 148, none⟩ = some (.int .i64 4) := (by rw [cell_of_row _ _ _ _ _ _ hh2]; kernel_rfl); have c2 : w2.cell? ⟨w1.heap.size, 149, none⟩ = some (.int .i64 4) := (by rw [cell_of_row _ _ _ _ _ _ hh2]; kernel_rfl); have c3 : w2.cell? ⟨w1.heap.size, 150, none⟩ = some (.int .i64 0) := (by rw [cell_of_row _ _ _ _ _ _ hh2]; kernel_rfl); have c4 : w2.cell? ⟨w1.heap.size, 151, none⟩ = some (.int .i64 0) := (by rw [cell_of_row _ _ _ _ _ _ hh2]; kernel_rfl); have c5 : w2.cell? ⟨w1.heap.size, 152, none⟩ = some (.bool true) := (by rw [cell_of_row _ _ _ _ _ _ hh2]; kernel_rfl); have c6 : w2.cell? ⟨w1.heap.size, 153, none⟩ = some (.func (.func 147) #[] #[]) := (by rw [cell_of_row _ _ _ _ _ _ hh2]; kernel_rfl)) | (refine wpList_store_row 89 _ _ rfl rfl rfl w.heap.size 89 rfl (o7 2 4 4 0 0 true 147) rfl _ hr2 rfl info_op (o7_one _ _ _ _ _ _ _) ?_; intro w3 hh3 hg3 hz3; have HB3 : Hid (Below w.heap.size w w3) := HB2.out.grown hg3 (HB2.out.size) (fun k hk => by injection hk with hk; omega); clear hz3 hg3))
  refine bodyPost_ret (v := .tuple #[.agg (o7 2 4 4 0 0 true 147).toArray, .bool true]) (results_cell_tmp Tryz.results50 _ _ w.heap.size 89 _ (0, 0) _ rfl hh3 Tryz.underlying89 rfl (by rw [info_op]; rfl)) rfl ⟨rfl, HB3.out⟩

set_option maxRecDepth 100000 in
set_option maxHeartbeats 4000000 in
theorem f_op22 (w : World) :
    Calls Tryz.prog 50 #[.int .i64 22, .int .i64 3] w fun e w' => e = .returned (.tuple #[.agg (o7 3 2 4 4 0 true 149).toArray, .bool true]) ∧ Below w.heap.size w w' := by
  have HO := Lib.hid (fun W => c_operations W)
  go_enter Tryz.func50, Tryz.ntmps50
  go_wp2_with fail
  have hr0 := heap_alloc_new w (.cells z7.toArray 89)
  refine (HO.out _).mono ?_
  rintro e w1 ⟨rfl, hb1⟩
  have hr1 : w1.heap[w.heap.size]? = some (.cells z7.toArray 89 (0, 0)) := (hb1.block _ (by simp)).trans hr0
  have hlt : w.heap.size < w1.heap.size := (Array.getElem?_eq_some_iff.1 hr1).1
  have HB1 : Hid (Below w.heap.size w w1) := btr ((Below.refl _ _).alloc (Nat.le_refl _) _) hb1
  clear hr0 hb1
  generalize HT : tab.toArray = TT
  have HH := Lib.hid HT
  clear HT HO
  go_wp2_with (first | (refine wpList_store_row 135 _ _ rfl rfl rfl w1.heap.size 135 rfl tab (congrArg Value.agg HH.out.symm) _ (heap_alloc_new w1 _) (by kernel_rfl) info_tab tab_one ?_; intro w2 hh2 hg2 hz2; have hr2 : w2.heap[w.heap.size]? = some (.cells z7.toArray 89 (0, 0)) := (hg2.block _ (by simp; omega) (by simp; omega)).trans ((Below.heap_alloc w1 _ _ hlt).trans hr1); have HB2 : Hid (Below w.heap.size w w2) := (HB1.out.alloc (by omega) _).grown hg2 (by simp; omega) (fun k hk => by injection hk with hk; omega); clear hz2 hg2 hr1; have c0 : w2.cell? ⟨w1.heap.size, 154, none⟩ = some (.int .i64 3) := (by rw [cell_of_row _ _ _ _ _ _ hh2]; kernel_rfl); have c1 : w2.cell? ⟨w1.heap.size, 155, none⟩ = some (.int .i64 2) := (by rw [cell_of_row _ _ _ _ _ _ hh2]; kernel_rfl); have c2 : w2.cell? ⟨w1.heap.size, 156, none⟩ = some (.int .i64 4) := (by rw [cell_of_row _ _ _ _ _ _ hh2]; kernel_rfl); have c3 : w2.cell? ⟨w1.heap.size, 157, none⟩ = some (.int .i64 4) := (by rw [cell_of_row _ _ _ _ _ _ hh2]; kernel_rfl); have c4 : w2.cell? ⟨w1.heap.size, 158, none⟩ = some (.int .i64 0) := (by rw [cell_of_row _ _ _ _ _ _ hh2]; kernel_rfl); have c5 : w2.cell? ⟨w1.heap.size, 159, none⟩ = some (.bool true) := (by rw [cell_of_row _ _ _ _ _ _ hh2]; kernel_rfl); have c6 : w2.cell? ⟨w1.heap.size, 160, none⟩ = some (.func (.func 149) #[] #[]) := (by rw [cell_of_row _ _ _ _ _ _ hh2]; kernel_rfl)) | (refine wpList_store_row 89 _ _ rfl rfl rfl w.heap.size 89 rfl (o7 3 2 4 4 0 true 149) rfl _ hr2 rfl info_op (o7_one _ _ _ _ _ _ _) ?_; intro w3 hh3 hg3 hz3; have HB3 : Hid (Below w.heap.size w w3) := HB2.out.grown hg3 (HB2.out.size) (fun k hk => by injection hk with hk; omega); clear hz3 hg3))
  refine bodyPost_ret (v := .tuple #[.agg (o7 3 2 4 4 0 true 149).toArray, .bool true]) (results_cell_tmp Tryz.results50 _ _ w.heap.size 89 _ (0, 0) _ rfl hh3 Tryz.underlying89 rfl (by rw [info_op]; rfl)) rfl ⟨rfl, HB3.out⟩

set_option maxRecDepth 100000 in
set_option maxHeartbeats 4000000 in
theorem f_bad (w : World) (op c : Int) (hbad : op < 0 ∨ (0 ≤ op ∧ 23 ≤ op) ∨ (0 ≤ op ∧ op < 23 ∧ c = 0)) :
    Calls Tryz.prog 50 #[.int .i64 op, .int .i64 c] w fun e w' => e = .returned (.tuple #[.agg z7.toArray, .bool false]) ∧ Below w.heap.size w w' := by
  have HO := Lib.hid (fun W => c_operations W)
  rcases hbad with hbad | hbad | ⟨h1, h2, rfl⟩
  all_goals
    go_enter Tryz.func50, Tryz.ntmps50
    go_wp2_with fail
    have hr0 := heap_alloc_new w (.cells z7.toArray 89)
    refine (HO.out _).mono ?_
    rintro e w1 ⟨rfl, hb1⟩
    have hr1 : w1.heap[w.heap.size]? = some (.cells z7.toArray 89 (0, 0)) := (hb1.block _ (by simp)).trans hr0
    have hlt : w.heap.size < w1.heap.size := (Array.getElem?_eq_some_iff.1 hr1).1
    have HB1 : Hid (Below w.heap.size w w1) := btr ((Below.refl _ _).alloc (Nat.le_refl _) _) hb1
    clear hr0 hb1
    generalize HT : tab.toArray = TT
    have HH := Lib.hid HT
    clear HT HO
    go_wp2_with (first | (refine wpList_store_row 135 _ _ rfl rfl rfl w1.heap.size 135 rfl tab (congrArg Value.agg HH.out.symm) _ (heap_alloc_new w1 _) (by kernel_rfl) info_tab tab_one ?_; intro w2 hh2 hg2 hz2; have hr2 : w2.heap[w.heap.size]? = some (.cells z7.toArray 89 (0, 0)) := (hg2.block _ (by simp; omega) (by simp; omega)).trans ((Below.heap_alloc w1 _ _ hlt).trans hr1); have HB2 : Hid (Below w.heap.size w w2) := (HB1.out.alloc (by omega) _).grown hg2 (by simp; omega) (fun k hk => by injection hk with hk; omega); clear hz2 hg2 hr1) | (refine wpList_store_row 89 _ _ rfl rfl rfl w.heap.size 89 rfl z7 rfl _ hr2 rfl info_op z7_one ?_; intro w3 hh3 hg3 hz3; have HB3 : Hid (Below w.heap.size w w3) := HB2.out.grown hg3 (HB2.out.size) (fun k hk => by injection hk with hk; omega); clear hz3 hg3))
    refine bodyPost_ret (v := .tuple #[.agg z7.toArray, .bool false]) (results_cell_tmp Tryz.results50 _ _ w.heap.size 89 _ (0, 0) _ rfl hh3 Tryz.underlying89 rfl (by rw [info_op]; rfl)) rfl ⟨rfl, HB3.out⟩
end Go.Proofs.YthppcklegdnjdaaGreatDoor
end

/- Finding an operation by its number and its number of operands: the others. -/
section
namespace Go.Proofs.YthppcklegdnjdaaGreatDoor
open Go.RowKit Go.Deep

set_option maxRecDepth 100000 in
set_option maxHeartbeats 4000000 in
theorem f_op5 (w : World) :
    Calls Tryz.prog 50 #[.int .i64 5, .int .i64 1] w fun e w' => e = .returned (.tuple #[.agg (o7 1 3 0 0 0 false 128).toArray, .bool true]) ∧ Below w.heap.size w w' := by
  have HO := Lib.hid (fun W => c_operations W)
  go_enter Tryz.func50, Tryz.ntmps50
  go_wp2_with fail
  have hr0 := heap_alloc_new w (.cells z7.toArray 89)
  refine (HO.out _).mono ?_
  rintro e w1 ⟨rfl, hb1⟩
  have hr1 : w1.heap[w.heap.size]? = some (.cells z7.toArray 89 (0, 0)) := (hb1.block _ (by simp)).trans hr0
  have hlt : w.heap.size < w1.heap.size := (Array.getElem?_eq_some_iff.1 hr1).1
  have HB1 : Hid (Below w.heap.size w w1) := btr ((Below.refl _ _).alloc (Nat.le_refl _) _) hb1
  clear hr0 hb1
  generalize HT : tab.toArray = TT
  have HH := Lib.hid HT
  clear HT HO
  go_wp2_with (first | (refine wpList_store_row 135 _ _ rfl rfl rfl w1.heap.size 135 rfl tab (congrArg Value.agg HH.out.symm) _ (heap_alloc_new w1 _) (by kernel_rfl) info_tab tab_one ?_; intro w2 hh2 hg2 hz2; have hr2 : w2.heap[w.heap.size]? = some (.cells z7.toArray 89 (0, 0)) := (hg2.block _ (by simp; omega) (by simp; omega)).trans ((Below.heap_alloc w1 _ _ hlt).trans hr1); have HB2 : Hid (Below w.heap.size w w2) := (HB1.out.alloc (by omega) _).grown hg2 (by simp; omega) (fun k hk => by injection hk with hk; omega); clear hz2 hg2 hr1; have c0 : w2.cell? ⟨w1.heap.size, 35, none⟩ = some (.int .i64 1) := (by rw [cell_of_row _ _ _ _ _ _ hh2]; kernel_rfl); have c1 : w2.cell? ⟨w1.heap.size, 36, none⟩ = some (.int .i64 3) := (by rw [cell_of_row _ _ _ _ _ _ hh2]; kernel_rfl); have c2 : w2.cell? ⟨w1.heap.size, 37, none⟩ = some (.int .i64 0) := (by rw [cell_of_row _ _ _ _ _ _ hh2]; kernel_rfl); have c3 : w2.cell? ⟨w1.heap.size, 38, none⟩ = some (.int .i64 0) := (by rw [cell_of_row _ _ _ _ _ _ hh2]; kernel_rfl); have c4 : w2.cell? ⟨w1.heap.size, 39, none⟩ = some (.int .i64 0) := (by rw [cell_of_row _ _ _ _ _ _ hh2]; kernel_rfl); have c5 : w2.cell? ⟨w1.heap.size, 40, none⟩ = some (.bool false) := (by rw [cell_of_row _ _ _ _ _ _ hh2]; kernel_rfl); have c6 : w2.cell? ⟨w1.heap.size, 41, none⟩ = some (.func (.func 128) #[] #[]) := (by rw [cell_of_row _ _ _ _ _ _ hh2]; kernel_rfl)) | (refine wpList_store_row 89 _ _ rfl rfl rfl w.heap.size 89 rfl (o7 1 3 0 0 0 false 128) rfl _ hr2 rfl info_op (o7_one _ _ _ _ _ _ _) ?_; intro w3 hh3 hg3 hz3; have HB3 : Hid (Below w.heap.size w w3) := HB2.out.grown hg3 (HB2.out.size) (fun k hk => by injection hk with hk; omega); clear hz3 hg3))
  refine bodyPost_ret (v := .tuple #[.agg (o7 1 3 0 0 0 false 128).toArray, .bool true]) (results_cell_tmp Tryz.results50 _ _ w.heap.size 89 _ (0, 0) _ rfl hh3 Tryz.underlying89 rfl (by rw [info_op]; rfl)) rfl ⟨rfl, HB3.out⟩

set_option maxRecDepth 100000 in
set_option maxHeartbeats 4000000 in
theorem f_op6 (w : World) :
    Calls Tryz.prog 50 #[.int .i64 6, .int .i64 1] w fun e w' => e = .returned (.tuple #[.agg (o7 1 3 0 0 2 false 131).toArray, .bool true]) ∧ Below w.heap.size w w' := by
  have HO := Lib.hid (fun W => c_operations W)
  go_enter Tryz.func50, Tryz.ntmps50
  go_wp2_with fail
  have hr0 := heap_alloc_new w (.cells z7.toArray 89)
  refine (HO.out _).mono ?_
  rintro e w1 ⟨rfl, hb1⟩
  have hr1 : w1.heap[w.heap.size]? = some (.cells z7.toArray 89 (0, 0)) := (hb1.block _ (by simp)).trans hr0
  have hlt : w.heap.size < w1.heap.size := (Array.getElem?_eq_some_iff.1 hr1).1
  have HB1 : Hid (Below w.heap.size w w1) := btr ((Below.refl _ _).alloc (Nat.le_refl _) _) hb1
  clear hr0 hb1
  generalize HT : tab.toArray = TT
  have HH := Lib.hid HT
  clear HT HO
  go_wp2_with (first | (refine wpList_store_row 135 _ _ rfl rfl rfl w1.heap.size 135 rfl tab (congrArg Value.agg HH.out.symm) _ (heap_alloc_new w1 _) (by kernel_rfl) info_tab tab_one ?_; intro w2 hh2 hg2 hz2; have hr2 : w2.heap[w.heap.size]? = some (.cells z7.toArray 89 (0, 0)) := (hg2.block _ (by simp; omega) (by simp; omega)).trans ((Below.heap_alloc w1 _ _ hlt).trans hr1); have HB2 : Hid (Below w.heap.size w w2) := (HB1.out.alloc (by omega) _).grown hg2 (by simp; omega) (fun k hk => by injection hk with hk; omega); clear hz2 hg2 hr1; have c0 : w2.cell? ⟨w1.heap.size, 42, none⟩ = some (.int .i64 1) := (by rw [cell_of_row _ _ _ _ _ _ hh2]; kernel_rfl); have c1 : w2.cell? ⟨w1.heap.size, 43, none⟩ = some (.int .i64 3) := (by rw [cell_of_row _ _ _ _ _ _ hh2]; kernel_rfl); have c2 : w2.cell? ⟨w1.heap.size, 44, none⟩ = some (.int .i64 0) := (by rw [cell_of_row _ _ _ _ _ _ hh2]; kernel_rfl); have c3 : w2.cell? ⟨w1.heap.size, 45, none⟩ = some (.int .i64 0) := (by rw [cell_of_row _ _ _ _ _ _ hh2]; kernel_rfl); have c4 : w2.cell? ⟨w1.heap.size, 46, none⟩ = some (.int .i64 2) := (by rw [cell_of_row _ _ _ _ _ _ hh2]; kernel_rfl); have c5 : w2.cell? ⟨w1.heap.size, 47, none⟩ = some (.bool false) := (by rw [cell_of_row _ _ _ _ _ _ hh2]; kernel_rfl); have c6 : w2.cell? ⟨w1.heap.size, 48, none⟩ = some (.func (.func 131) #[] #[]) := (by rw [cell_of_row _ _ _ _ _ _ hh2]; kernel_rfl)) | (refine wpList_store_row 89 _ _ rfl rfl rfl w.heap.size 89 rfl (o7 1 3 0 0 2 false 131) rfl _ hr2 rfl info_op (o7_one _ _ _ _ _ _ _) ?_; intro w3 hh3 hg3 hz3; have HB3 : Hid (Below w.heap.size w w3) := HB2.out.grown hg3 (HB2.out.size) (fun k hk => by injection hk with hk; omega); clear hz3 hg3))
  refine bodyPost_ret (v := .tuple #[.agg (o7 1 3 0 0 2 false 131).toArray, .bool true]) (results_cell_tmp Tryz.results50 _ _ w.heap.size 89 _ (0, 0) _ rfl hh3 Tryz.underlying89 rfl (by rw [info_op]; rfl)) rfl ⟨rfl, HB3.out⟩

set_option maxRecDepth 100000 in
set_option maxHeartbeats 4000000 in
theorem f_op7 (w : World) :
    Calls Tryz.prog 50 #[.int .i64 7, .int .i64 1] w fun e w' => e = .returned (.tuple #[.agg (o7 1 1 0 0 1 true 132).toArray, .bool true]) ∧ Below w.heap.size w w' := by
  have HO := Lib.hid (fun W => c_operations W)
  go_enter Tryz.func50, Tryz.ntmps50
  go_wp2_with fail
  have hr0 := heap_alloc_new w (.cells z7.toArray 89)
  refine (HO.out _).mono ?_
  rintro e w1 ⟨rfl, hb1⟩
  have hr1 : w1.heap[w.heap.size]? = some (.cells z7.toArray 89 (0, 0)) := (hb1.block _ (by simp)).trans hr0
  have hlt : w.heap.size < w1.heap.size := (Array.getElem?_eq_some_iff.1 hr1).1
  have HB1 : Hid (Below w.heap.size w w1) := btr ((Below.refl _ _).alloc (Nat.le_refl _) _) hb1
  clear hr0 hb1
  generalize HT : tab.toArray = TT
  have HH := Lib.hid HT
  clear HT HO
  go_wp2_with (first | (refine wpList_store_row 135 _ _ rfl rfl rfl w1.heap.size 135 rfl tab (congrArg Value.agg HH.out.symm) _ (heap_alloc_new w1 _) (by kernel_rfl) info_tab tab_one ?_; intro w2 hh2 hg2 hz2; have hr2 : w2.heap[w.heap.size]? = some (.cells z7.toArray 89 (0, 0)) := (hg2.block _ (by simp; omega) (by simp; omega)).trans ((Below.heap_alloc w1 _ _ hlt).trans hr1); have HB2 : Hid (Below w.heap.size w w2) := (HB1.out.alloc (by omega) _).grown hg2 (by simp; omega) (fun k hk => by injection hk with hk; omega); clear hz2 hg2 hr1; have c0 : w2.cell? ⟨w1.heap.size, 49, none⟩ = some (.int .i64 1) := (by rw [cell_of_row _ _ _ _ _ _ hh2]; kernel_rfl); have c1 : w2.cell? ⟨w1.heap.size, 50, none⟩ = some (.int .i64 1) := (by rw [cell_of_row _ _ _ _ _ _ hh2]; kernel_rfl); have c2 : w2.cell? ⟨w1.heap.size, 51, none⟩ = some (.int .i64 0) := (by rw [cell_of_row _ _ _ _ _ _ hh2]; kernel_rfl); have c3 : w2.cell? ⟨w1.heap.size, 52, none⟩ = some (.int .i64 0) := (by rw [cell_of_row _ _ _ _ _ _ hh2]; kernel_rfl); have c4 : w2.cell? ⟨w1.heap.size, 53, none⟩ = some (.int .i64 1) := (by rw [cell_of_row _ _ _ _ _ _ hh2]; kernel_rfl); have c5 : w2.cell? ⟨w1.heap.size, 54, none⟩ = some (.bool true) := (by rw [cell_of_row _ _ _ _ _ _ hh2]; kernel_rfl); have c6 : w2.cell? ⟨w1.heap.size, 55, none⟩ = some (.func (.func 132) #[] #[]) := (by rw [cell_of_row _ _ _ _ _ _ hh2]; kernel_rfl)) | (refine wpList_store_row 89 _ _ rfl rfl rfl w.heap.size 89 rfl (o7 1 1 0 0 1 true 132) rfl _ hr2 rfl info_op (o7_one _ _ _ _ _ _ _) ?_; intro w3 hh3 hg3 hz3; have HB3 : Hid (Below w.heap.size w w3) := HB2.out.grown hg3 (HB2.out.size) (fun k hk => by injection hk with hk; omega); clear hz3 hg3))
  refine bodyPost_ret (v := .tuple #[.agg (o7 1 1 0 0 1 true 132).toArray, .bool true]) (results_cell_tmp Tryz.results50 _ _ w.heap.size 89 _ (0, 0) _ rfl hh3 Tryz.underlying89 rfl (by rw [info_op]; rfl)) rfl ⟨rfl, HB3.out⟩

set_option maxRecDepth 100000 in
set_option maxHeartbeats 4000000 in
theorem f_op8 (w : World) :
    Calls Tryz.prog 50 #[.int .i64 8, .int .i64 1] w fun e w' => e = .returned (.tuple #[.agg (o7 1 1 0 0 2 true 133).toArray, .bool true]) ∧ Below w.heap.size w w' := by
  have HO := Lib.hid (fun W => c_operations W)
  go_enter Tryz.func50, Tryz.ntmps50
  go_wp2_with fail
  have hr0 := heap_alloc_new w (.cells z7.toArray 89)
  refine (HO.out _).mono ?_
  rintro e w1 ⟨rfl, hb1⟩
  have hr1 : w1.heap[w.heap.size]? = some (.cells z7.toArray 89 (0, 0)) := (hb1.block _ (by simp)).trans hr0
  have hlt : w.heap.size < w1.heap.size := (Array.getElem?_eq_some_iff.1 hr1).1
  have HB1 : Hid (Below w.heap.size w w1) := btr ((Below.refl _ _).alloc (Nat.le_refl _) _) hb1
  clear hr0 hb1
  generalize HT : tab.toArray = TT
  have HH := Lib.hid HT
  clear HT HO
  go_wp2_with (first | (refine wpList_store_row 135 _ _ rfl rfl rfl w1.heap.size 135 rfl tab (congrArg Value.agg HH.out.symm) _ (heap_alloc_new w1 _) (by kernel_rfl) info_tab tab_one ?_; intro w2 hh2 hg2 hz2; have hr2 : w2.heap[w.heap.size]? = some (.cells z7.toArray 89 (0, 0)) := (hg2.block _ (by simp; omega) (by simp; omega)).trans ((Below.heap_alloc w1 _ _ hlt).trans hr1); have HB2 : Hid (Below w.heap.size w w2) := (HB1.out.alloc (by omega) _).grown hg2 (by simp; omega) (fun k hk => by injection hk with hk; omega); clear hz2 hg2 hr1; have c0 : w2.cell? ⟨w1.heap.size, 56, none⟩ = some (.int .i64 1) := (by rw [cell_of_row _ _ _ _ _ _ hh2]; kernel_rfl); have c1 : w2.cell? ⟨w1.heap.size, 57, none⟩ = some (.int .i64 1) := (by rw [cell_of_row _ _ _ _ _ _ hh2]; kernel_rfl); have c2 : w2.cell? ⟨w1.heap.size, 58, none⟩ = some (.int .i64 0) := (by rw [cell_of_row _ _ _ _ _ _ hh2]; kernel_rfl); have c3 : w2.cell? ⟨w1.heap.size, 59, none⟩ = some (.int .i64 0) := (by rw [cell_of_row _ _ _ _ _ _ hh2]; kernel_rfl); have c4 : w2.cell? ⟨w1.heap.size, 60, none⟩ = some (.int .i64 2) := (by rw [cell_of_row _ _ _ _ _ _ hh2]; kernel_rfl); have c5 : w2.cell? ⟨w1.heap.size, 61, none⟩ = some (.bool true) := (by rw [cell_of_row _ _ _ _ _ _ hh2]; kernel_rfl); have c6 : w2.cell? ⟨w1.heap.size, 62, none⟩ = some (.func (.func 133) #[] #[]) := (by rw [cell_of_row _ _ _ _ _ _ hh2]; kernel_rfl)) | (refine wpList_store_row 89 _ _ rfl rfl rfl w.heap.size 89 rfl (o7 1 1 0 0 2 true 133) rfl _ hr2 rfl info_op (o7_one _ _ _ _ _ _ _) ?_; intro w3 hh3 hg3 hz3; have HB3 : Hid (Below w.heap.size w w3) := HB2.out.grown hg3 (HB2.out.size) (fun k hk => by injection hk with hk; omega); clear hz3 hg3))
  refine bodyPost_ret (v := .tuple #[.agg (o7 1 1 0 0 2 true 133).toArray, .bool true]) (results_cell_tmp Tryz.results50 _ _ w.heap.size 89 _ (0, 0) _ rfl hh3 Tryz.underlying89 rfl (by rw [info_op]; rfl)) rfl ⟨rfl, HB3.out⟩

set_option maxRecDepth 100000 in
set_option maxHeartbeats 4000000 in
theorem f_op10 (w : World) :
    Calls Tryz.prog 50 #[.int .i64 10, .int .i64 2] w fun e w' => e = .returned (.tuple #[.agg (o7 2 3 3 0 0 false 135).toArray, .bool true]) ∧ Below w.heap.size w w' := by
  have HO := Lib.hid (fun W => c_operations W)
  go_enter Tryz.func50, Tryz.ntmps50
  go_wp2_with fail
  have hr0 := heap_alloc_new w (.cells z7.toArray 89)
  refine (HO.out _).mono ?_
  rintro e w1 ⟨rfl, hb1⟩
  have hr1 : w1.heap[w.heap.size]? = some (.cells z7.toArray 89 (0, 0)) := (hb1.block _ (by simp)).trans hr0
  have hlt : w.heap.size < w1.heap.size := (Array.getElem?_eq_some_iff.1 hr1).1
  have HB1 : Hid (Below w.heap.size w w1) := btr ((Below.refl _ _).alloc (Nat.le_refl _) _) hb1
  clear hr0 hb1
  generalize HT : tab.toArray = TT
  have HH := Lib.hid HT
  clear HT HO
  go_wp2_with (first | (refine wpList_store_row 135 _ _ rfl rfl rfl w1.heap.size 135 rfl tab (congrArg Value.agg HH.out.symm) _ (heap_alloc_new w1 _) (by kernel_rfl) info_tab tab_one ?_; intro w2 hh2 hg2 hz2; have hr2 : w2.heap[w.heap.size]? = some (.cells z7.toArray 89 (0, 0)) := (hg2.block _ (by simp; omega) (by simp; omega)).trans ((Below.heap_alloc w1 _ _ hlt).trans hr1); have HB2 : Hid (Below w.heap.size w w2) := (HB1.out.alloc (by omega) _).grown hg2 (by simp; omega) (fun k hk => by injection hk with hk; omega); clear hz2 hg2 hr1; have c0 : w2.cell? ⟨w1.heap.size, 70, none⟩ = some (.int .i64 2) := (by rw [cell_of_row _ _ _ _ _ _ hh2]; kernel_rfl); have c1 : w2.cell? ⟨w1.heap.size, 71, none⟩ = some (.int .i64 3) := (by rw [cell_of_row _ _ _ _ _ _ hh2]; kernel_rfl); have c2 : w2.cell? ⟨w1.heap.size, 72, none⟩ = some (.int .i64 3) := (by rw [cell_of_row _ _ _ _ _ _ hh2]; kernel_rfl); have c3 : w2.cell? ⟨w1.heap.size, 73, none⟩ = some (.int .i64 0) := (by rw [cell_of_row _ _ _ _ _ _ hh2]; kernel_rfl); have c4 : w2.cell? ⟨w1.heap.size, 74, none⟩ = some (.int .i64 0) := (by rw [cell_of_row _ _ _ _ _ _ hh2]; kernel_rfl); have c5 : w2.cell? ⟨w1.heap.size, 75, none⟩ = some (.bool false) := (by rw [cell_of_row _ _ _ _ _ _ hh2]; kernel_rfl); have c6 : w2.cell? ⟨w1.heap.size, 76, none⟩ = some (.func (.func 135) #[] #[]) := (by rw [cell_of_row _ _ _ _ _ _ hh2]; kernel_rfl)) | (refine wpList_store_row 89 _ _ rfl rfl rfl w.heap.size 89 rfl (o7 2 3 3 0 0 false 135) rfl _ hr2 rfl info_op (o7_one _ _ _ _ _ _ _) ?_; intro w3 hh3 hg3 hz3; have HB3 : Hid (Below w.heap.size w w3) := HB2.out.grown hg3 (HB2.out.size) (fun k hk => by injection hk with hk; omega); clear hz3 hg3))
  refine bodyPost_ret (v := .tuple #[.agg (o7 2 3 3 0 0 false 135).toArray, .bool true]) (results_cell_tmp Tryz.results50 _ _ w.heap.size 89 _ (0, 0) _ rfl hh3 Tryz.underlying89 rfl (by rw [info_op]; rfl)) rfl ⟨rfl, HB3.out⟩

set_option maxRecDepth 100000 in
set_option maxHeartbeats 4000000 in
theorem f_op11 (w : World) :
    Calls Tryz.prog 50 #[.int .i64 11, .int .i64 2] w fun e w' => e = .returned (.tuple #[.agg (o7 2 3 3 0 0 false 136).toArray, .bool true]) ∧ Below w.heap.size w w' := by
  have HO := Lib.hid (fun W => c_operations W)
  go_enter Tryz.func50, Tryz.ntmps50
  go_wp2_with fail
  have hr0 := heap_alloc_new w (.cells z7.toArray 89)
  refine (HO.out _).mono ?_
  rintro e w1 ⟨rfl, hb1⟩
  have hr1 : w1.heap[w.heap.size]? = some (.cells z7.toArray 89 (0, 0)) := (hb1.block _ (by simp)).trans hr0
  have hlt : w.heap.size < w1.heap.size := (Array.getElem?_eq_some_iff.1 hr1).1
  have HB1 : Hid (Below w.heap.size w w1) := btr ((Below.refl _ _).alloc (Nat.le_refl _) _) hb1
  clear hr0 hb1
  generalize HT : tab.toArray = TT
  have HH := Lib.hid HT
  clear HT HO
  go_wp2_with (first | (refine wpList_store_row 135 _ _ rfl rfl rfl w1.heap.size 135 rfl tab (congrArg Value.agg HH.out.symm) _ (heap_alloc_new w1 _) (by kernel_rfl) info_tab tab_one ?_; intro w2 hh2 hg2 hz2; have hr2 : w2.heap[w.heap.size]? = some (.cells z7.toArray 89 (0, 0)) := (hg2.block _ (by simp; omega) (by simp; omega)).trans ((Below.heap_alloc w1 _ _ hlt).trans hr1); have HB2 : Hid (Below w.heap.size w w2) := (HB1.out.alloc (by omega) _).grown hg2 (by simp; omega) (fun k hk => by injection hk with hk; omega); clear hz2 hg2 hr1; have c0 : w2.cell? ⟨w1.heap.size, 77, none⟩ = some (.int .i64 2) := (by rw [cell_of_row _ _ _ _ _ _ hh2]; kernel_rfl); have c1 : w2.cell? ⟨w1.heap.size, 78, none⟩ = some (.int .i64 3) := (by rw [cell_of_row _ _ _ _ _ _ hh2]; kernel_rfl); have c2 : w2.cell? ⟨w1.heap.size, 79, none⟩ = some (.int .i64 3) := (by rw [cell_of_row _ _ _ _ _ _ hh2]; kernel_rfl); have c3 : w2.cell? ⟨w1.heap.size, 80, none⟩ = some (.int .i64 0) := (by rw [cell_of_row _ _ _ _ _ _ hh2]; kernel_rfl); have c4 : w2.cell? ⟨w1.heap.size, 81, none⟩ = some (.int .i64 0) := (by rw [cell_of_row _ _ _ _ _ _ hh2]; kernel_rfl); have c5 : w2.cell? ⟨w1.heap.size, 82, none⟩ = some (.bool false) := (by rw [cell_of_row _ _ _ _ _ _ hh2]; kernel_rfl); have c6 : w2.cell? ⟨w1.heap.size, 83, none⟩ = some (.func (.func 136) #[] #[]) := (by rw [cell_of_row _ _ _ _ _ _ hh2]; kernel_rfl)) | (refine wpList_store_row 89 _ _ rfl rfl rfl w.heap.size 89 rfl (o7 2 3 3 0 0 false 136) rfl _ hr2 rfl info_op (o7_one _ _ _ _ _ _ _) ?_; intro w3 hh3 hg3 hz3; have HB3 : Hid (Below w.heap.size w w3) := HB2.out.grown hg3 (HB2.out.size) (fun k hk => by injection hk with hk; omega); clear hz3 hg3))
  refine bodyPost_ret (v := .tuple #[.agg (o7 2 3 3 0 0 false 136).toArray, .bool true]) (results_cell_tmp Tryz.results50 _ _ w.heap.size 89 _ (0, 0) _ rfl hh3 Tryz.underlying89 rfl (by rw [info_op]; rfl)) rfl ⟨rfl, HB3.out⟩

set_option maxRecDepth 100000 in
set_option maxHeartbeats 4000000 in
theorem f_op13 (w : World) :
    Calls Tryz.prog 50 #[.int .i64 13, .int .i64 2] w fun e w' => e = .returned (.tuple #[.agg (o7 2 4 4 0 1 false 138).toArray, .bool true]) ∧ Below w.heap.size w w' := by
  have HO := Lib.hid (fun W => c_operations W)
  go_enter Tryz.func50, Tryz.ntmps50
  go_wp2_with fail
  have hr0 := heap_alloc_new w (.cells z7.toArray 89)
  refine (HO.out _).mono ?_
  rintro e w1 ⟨rfl, hb1⟩
  have hr1 : w1.heap[w.heap.size]? = some (.cells z7.toArray 89 (0, 0)) := (hb1.block _ (by simp)).trans hr0
  have hlt : w.heap.size < w1.heap.size := (Array.getElem?_eq_some_iff.1 hr1).1
  have HB1 : Hid (Below w.heap.size w w1) := btr ((Below.refl _ _).alloc (Nat.le_refl _) _) hb1
  clear hr0 hb1
  generalize HT : tab.toArray = TT
  have HH := Lib.hid HT
  clear HT HO
  go_wp2_with (first | (refine wpList_store_row 135 _ _ rfl rfl rfl w1.heap.size 135 rfl tab (congrArg Value.agg HH.out.symm) _ (heap_alloc_new w1 _) (by kernel_rfl) info_tab tab_one ?_; intro w2 hh2 hg2 hz2; have hr2 : w2.heap[w.heap.size]? = some (.cells z7.toArray 89 (0, 0)) := (hg2.block _ (by simp; omega) (by simp; omega)).trans ((Below.heap_alloc w1 _ _ hlt).trans hr1); have HB2 : Hid (Below w.heap.size w w2) := (HB1.out.alloc (by omega) _).grown hg2 (by simp; omega) (fun k hk => by injection hk with hk; omega); clear hz2 hg2 hr1; have c0 : w2.cell? ⟨w1.heap.size, 91, none⟩ = some (.int .i64 2) := (by rw [cell_of_row _ _ _ _ _ _ hh2]; kernel_rfl); have c1 : w2.cell? ⟨w1.heap.size, 92, none⟩ = some (.int .i64 4) := (by rw [cell_of_row _ _ _ _ _ _ hh2]; kernel_rfl); have c2 : w2.cell? ⟨w1.heap.size, 93, none⟩ = some (.int .i64 4) := (by rw [cell_of_row _ _ _ _ _ _ hh2]; kernel_rfl); have c3 : w2.cell? ⟨w1.heap.size, 94, none⟩ = some (.int .i64 0) := (by rw [cell_of_row _ _ _ _ _ _ hh2]; kernel_rfl); have c4 : w2.cell? ⟨w1.heap.size, 95, none⟩ = some (.int .i64 1) := (by rw [cell_of_row _ _ _ _ _ _ hh2]; kernel_rfl); have c5 : w2.cell? ⟨w1.heap.size, 96, none⟩ = some (.bool false) := (by rw [cell_of_row _ _ _ _ _ _ hh2]; kernel_rfl); have c6 : w2.cell? ⟨w1.heap.size, 97, none⟩ = some (.func (.func 138) #[] #[]) := (by rw [cell_of_row _ _ _ _ _ _ hh2]; kernel_rfl)) | (refine wpList_store_row 89 _ _ rfl rfl rfl w.heap.size 89 rfl (o7 2 4 4 0 1 false 138) rfl _ hr2 rfl info_op (o7_one _ _ _ _ _ _ _) ?_; intro w3 hh3 hg3 hz3; have HB3 : Hid (Below w.heap.size w w3) := HB2.out.grown hg3 (HB2.out.size) (fun k hk => by injection hk with hk; omega); clear hz3 hg3))
  refine bodyPost_ret (v := .tuple #[.agg (o7 2 4 4 0 1 false 138).toArray, .bool true]) (results_cell_tmp Tryz.results50 _ _ w.heap.size 89 _ (0, 0) _ rfl hh3 Tryz.underlying89 rfl (by rw [info_op]; rfl)) rfl ⟨rfl, HB3.out⟩

set_option maxRecDepth 100000 in
set_option maxHeartbeats 4000000 in
theorem f_op14 (w : World) :
    Calls Tryz.prog 50 #[.int .i64 14, .int .i64 2] w fun e w' => e = .returned (.tuple #[.agg (o7 2 4 4 0 1 false 139).toArray, .bool true]) ∧ Below w.heap.size w w' := by
  have HO := Lib.hid (fun W => c_operations W)
  go_enter Tryz.func50, Tryz.ntmps50
  go_wp2_with fail
  have hr0 := heap_alloc_new w (.cells z7.toArray 89)
  refine (HO.out _).mono ?_
  rintro e w1 ⟨rfl, hb1⟩
  have hr1 : w1.heap[w.heap.size]? = some (.cells z7.toArray 89 (0, 0)) := (hb1.block _ (by simp)).trans hr0
  have hlt : w.heap.size < w1.heap.size := (Array.getElem?_eq_some_iff.1 hr1).1
  have HB1 : Hid (Below w.heap.size w w1) := btr ((Below.refl _ _).alloc (Nat.le_refl _) _) hb1
  clear hr0 hb1
  generalize HT : tab.toArray = TT
  have HH := Lib.hid HT
  clear HT HO
  go_wp2_with (first | (refine wpList_store_row 135 _ _ rfl rfl rfl w1.heap.size 135 rfl tab (congrArg Value.agg HH.out.symm) _ (heap_alloc_new w1 _) (by kernel_rfl) info_tab tab_one ?_; intro w2 hh2 hg2 hz2; have hr2 : w2.heap[w.heap.size]? = some (.cells z7.toArray 89 (0, 0)) := (hg2.block _ (by simp; omega) (by simp; omega)).trans ((Below.heap_alloc w1 _ _ hlt).trans hr1); have HB2 : Hid (Below w.heap.size w w2) := (HB1.out.alloc (by omega) _).grown hg2 (by simp; omega) (fun k hk => by injection hk with hk; omega); clear hz2 hg2 hr1; have c0 : w2.cell? ⟨w1.heap.size, 98, none⟩ = some (.int .i64 2) := (by rw [cell_of_row _ _ _ _ _ _ hh2]; kernel_rfl); have c1 : w2.cell? ⟨w1.heap.size, 99, none⟩ = some (.int .i64 4) := (by rw [cell_of_row _ _ _ _ _ _ hh2]; kernel_rfl); have c2 : w2.cell? ⟨w1.heap.size, 100, none⟩ = some (.int .i64 4) := (by rw [cell_of_row _ _ _ _ _ _ hh2]; kernel_rfl); have c3 : w2.cell? ⟨w1.heap.size, 101, none⟩ = some (.int .i64 0) := (by rw [cell_of_row _ _ _ _ _ _ hh2]; kernel_rfl); have c4 : w2.cell? ⟨w1.heap.size, 102, none⟩ = some (.int .i64 1) := (by rw [cell_of_row _ _ _ _ _ _ hh2]; kernel_rfl); have c5 : w2.cell? ⟨w1.heap.size, 103, none⟩ = some (.bool false) := (by rw [cell_of_row _ _ _ _ _ _ hh2]; kernel_rfl); have c6 : w2.cell? ⟨w1.heap.size, 104, none⟩ = some (.func (.func 139) #[] #[]) := (by rw [cell_of_row _ _ _ _ _ _ hh2]; kernel_rfl)) | (refine wpList_store_row 89 _ _ rfl rfl rfl w.heap.size 89 rfl (o7 2 4 4 0 1 false 139) rfl _ hr2 rfl info_op (o7_one _ _ _ _ _ _ _) ?_; intro w3 hh3 hg3 hz3; have HB3 : Hid (Below w.heap.size w w3) := HB2.out.grown hg3 (HB2.out.size) (fun k hk => by injection hk with hk; omega); clear hz3 hg3))
  refine bodyPost_ret (v := .tuple #[.agg (o7 2 4 4 0 1 false 139).toArray, .bool true]) (results_cell_tmp Tryz.results50 _ _ w.heap.size 89 _ (0, 0) _ rfl hh3 Tryz.underlying89 rfl (by rw [info_op]; rfl)) rfl ⟨rfl, HB3.out⟩

set_option maxRecDepth 100000 in
set_option maxHeartbeats 4000000 in
theorem f_op15 (w : World) :
    Calls Tryz.prog 50 #[.int .i64 15, .int .i64 2] w fun e w' => e = .returned (.tuple #[.agg (o7 2 4 4 0 1 false 140).toArray, .bool true]) ∧ Below w.heap.size w w' := by
  have HO := Lib.hid (fun W => c_operations W)
  go_enter Tryz.func50, Tryz.ntmps50
  go_wp2_with fail
  have hr0 := heap_alloc_new w (.cells z7.toArray 89)
  refine (HO.out _).mono ?_
  rintro e w1 ⟨rfl, hb1⟩
  have hr1 : w1.heap[w.heap.size]? = some (.cells z7.toArray 89 (0, 0)) := (hb1.block _ (by simp)).trans hr0
  have hlt : w.heap.size < w1.heap.size := (Array.getElem?_eq_some_iff.1 hr1).1
  have HB1 : Hid (Below w.heap.size w w1) := btr ((Below.refl _ _).alloc (Nat.le_refl _) _) hb1
  clear hr0 hb1
  generalize HT : tab.toArray = TT
  have HH := Lib.hid HT
  clear HT HO
  go_wp2_with (first | (refine wpList_store_row 135 _ _ rfl rfl rfl w1.heap.size 135 rfl tab (congrArg Value.agg HH.out.symm) _ (heap_alloc_new w1 _) (by kernel_rfl) info_tab tab_one ?_; intro w2 hh2 hg2 hz2; have hr2 : w2.heap[w.heap.size]? = some (.cells z7.toArray 89 (0, 0)) := (hg2.block _ (by simp; omega) (by simp; omega)).trans ((Below.heap_alloc w1 _ _ hlt).trans hr1); have HB2 : Hid (Below w.heap.size w w2) := (HB1.out.alloc (by omega) _).grown hg2 (by simp; omega) (fun k hk => by injection hk with hk; omega); clear hz2 hg2 hr1; have c0 : w2.cell? ⟨w1.heap.size, 105, none⟩ = some (.int .i64 2) := (by rw [cell_of_row _ _ _ _ _ _ hh2]; kernel_rfl); have c1 : w2.cell? ⟨w1.heap.size, 106, none⟩ = some (.int .i64 4) := (by rw [cell_of_row _ _ _ _ _ _ hh2]; kernel_rfl); have c2 : w2.cell? ⟨w1.heap.size, 107, none⟩ = some (.int .i64 4) := (by rw [cell_of_row _ _ _ _ _ _ hh2]; kernel_rfl); have c3 : w2.cell? ⟨w1.heap.size, 108, none⟩ = some (.int .i64 0) := (by rw [cell_of_row _ _ _ _ _ _ hh2]; kernel_rfl); have c4 : w2.cell? ⟨w1.heap.size, 109, none⟩ = some (.int .i64 1) := (by rw [cell_of_row _ _ _ _ _ _ hh2]; kernel_rfl); have c5 : w2.cell? ⟨w1.heap.size, 110, none⟩ = some (.bool false) := (by rw [cell_of_row _ _ _ _ _ _ hh2]; kernel_rfl); have c6 : w2.cell? ⟨w1.heap.size, 111, none⟩ = some (.func (.func 140) #[] #[]) := (by rw [cell_of_row _ _ _ _ _ _ hh2]; kernel_rfl)) | (refine wpList_store_row 89 _ _ rfl rfl rfl w.heap.size 89 rfl (o7 2 4 4 0 1 false 140) rfl _ hr2 rfl info_op (o7_one _ _ _ _ _ _ _) ?_; intro w3 hh3 hg3 hz3; have HB3 : Hid (Below w.heap.size w w3) := HB2.out.grown hg3 (HB2.out.size) (fun k hk => by injection hk with hk; omega); clear hz3 hg3))
  refine bodyPost_ret (v := .tuple #[.agg (o7 2 4 4 0 1 false 140).toArray, .bool true]) (results_cell_tmp Tryz.results50 _ _ w.heap.size 89 _ (0, 0) _ rfl hh3 Tryz.underlying89 rfl (by rw [info_op]; rfl)) rfl ⟨rfl, HB3.out⟩

set_option maxRecDepth 100000 in
set_option maxHeartbeats 4000000 in
theorem f_op16 (w : World) :
    Calls Tryz.prog 50 #[.int .i64 16, .int .i64 2] w fun e w' => e = .returned (.tuple #[.agg (o7 2 4 4 0 1 false 141).toArray, .bool true]) ∧ Below w.heap.size w w' := by
  have HO := Lib.hid (fun W => c_operations W)
  go_enter Tryz.func50, Tryz.ntmps50
  go_wp2_with fail
  have hr0 := heap_alloc_new w (.cells z7.toArray 89)
  refine (HO.out _).mono ?_
  rintro e w1 ⟨rfl, hb1⟩
  have hr1 : w1.heap[w.heap.size]? = some (.cells z7.toArray 89 (0, 0)) := (hb1.block _ (by simp)).trans hr0
  have hlt : w.heap.size < w1.heap.size := (Array.getElem?_eq_some_iff.1 hr1).1
  have HB1 : Hid (Below w.heap.size w w1) := btr ((Below.refl _ _).alloc (Nat.le_refl _) _) hb1
  clear hr0 hb1
  generalize HT : tab.toArray = TT
  have HH := Lib.hid HT
  clear HT HO
  go_wp2_with (first | (refine wpList_store_row 135 _ _ rfl rfl rfl w1.heap.size 135 rfl tab (congrArg Value.agg HH.out.symm) _ (heap_alloc_new w1 _) (by kernel_rfl) info_tab tab_one ?_; intro w2 hh2 hg2 hz2; have hr2 : w2.heap[w.heap.size]? = some (.cells z7.toArray 89 (0, 0)) := (hg2.block _ (by simp; omega) (by simp; omega)).trans ((Below.heap_alloc w1 _ _ hlt).trans hr1); have HB2 : Hid (Below w.heap.size w w2) := (HB1.out.alloc (by omega) _).grown hg2 (by simp; omega) (fun k hk => by injection hk with hk; omega); clear hz2 hg2 hr1; have c0 : w2.cell? ⟨w1.heap.size, 112, none⟩ = some (.int .i64 2) := (by rw [cell_of_row _ _ _ _ _ _ hh2]; kernel_rfl); have c1 : w2.cell? ⟨w1.heap.size, 113, none⟩ = some (.int .i64 4) := (by rw [cell_of_row _ _ _ _ _ _ hh2]; kernel_rfl); have c2 : w2.cell? ⟨w1.heap.size, 114, none⟩ = some (.int .i64 4) := (by rw [cell_of_row _ _ _ _ _ _ hh2]; kernel_rfl); have c3 : w2.cell? ⟨w1.heap.size, 115, none⟩ = some (.int .i64 0) := (by rw [cell_of_row _ _ _ _ _ _ hh2]; kernel_rfl); have c4 : w2.cell? ⟨w1.heap.size, 116, none⟩ = some (.int .i64 1) := (by rw [cell_of_row _ _ _ _ _ _ hh2]; kernel_rfl); have c5 : w2.cell? ⟨w1.heap.size, 117, none⟩ = some (.bool false) := (by rw [cell_of_row _ _ _ _ _ _ hh2]; kernel_rfl); have c6 : w2.cell? ⟨w1.heap.size, 118, none⟩ = some (.func (.func 141) #[] #[]) := (by rw [cell_of_row _ _ _ _ _ _ hh2]; kernel_rfl)) | (refine wpList_store_row 89 _ _ rfl rfl rfl w.heap.size 89 rfl (o7 2 4 4 0 1 false 141) rfl _ hr2 rfl info_op (o7_one _ _ _ _ _ _ _) ?_; intro w3 hh3 hg3 hz3; have HB3 : Hid (Below w.heap.size w w3) := HB2.out.grown hg3 (HB2.out.size) (fun k hk => by injection hk with hk; omega); clear hz3 hg3))
  refine bodyPost_ret (v := .tuple #[.agg (o7 2 4 4 0 1 false 141).toArray, .bool true]) (results_cell_tmp Tryz.results50 _ _ w.heap.size 89 _ (0, 0) _ rfl hh3 Tryz.underlying89 rfl (by rw [info_op]; rfl)) rfl ⟨rfl, HB3.out⟩

set_option maxRecDepth 100000 in
set_option maxHeartbeats 4000000 in
theorem f_op17 (w : World) :
    Calls Tryz.prog 50 #[.int .i64 17, .int .i64 2] w fun e w' => e = .returned (.tuple #[.agg (o7 2 4 4 0 1 false 142).toArray, .bool true]) ∧ Below w.heap.size w w' := by
  have HO := Lib.hid (fun W => c_operations W)
  go_enter Tryz.func50, Tryz.ntmps50
  go_wp2_with fail
  have hr0 := heap_alloc_new w (.cells z7.toArray 89)
  refine (HO.out _).mono ?_
  rintro e w1 ⟨rfl, hb1⟩
  have hr1 : w1.heap[w.heap.size]? = some (.cells z7.toArray 89 (0, 0)) := (hb1.block _ (by simp)).trans hr0
  have hlt : w.heap.size < w1.heap.size := (Array.getElem?_eq_some_iff.1 hr1).1
  have HB1 : Hid (Below w.heap.size w w1) := btr ((Below.refl _ _).alloc (Nat.le_refl _) _) hb1
  clear hr0 hb1
  generalize HT : tab.toArray = TT
  have HH := Lib.hid HT
  clear HT HO
  go_wp2_with (first | (refine wpList_store_row 135 _ _ rfl rfl rfl w1.heap.size 135 rfl tab (congrArg Value.agg HH.out.symm) _ (heap_alloc_new w1 _) (by kernel_rfl) info_tab tab_one ?_; intro w2 hh2 hg2 hz2; have hr2 : w2.heap[w.heap.size]? = some (.cells z7.toArray 89 (0, 0)) := (hg2.block _ (by simp; omega) (by simp; omega)).trans ((Below.heap_alloc w1 _ _ hlt).trans hr1); have HB2 : Hid (Below w.heap.size w w2) := (HB1.out.alloc (by omega) _).grown hg2 (by simp; omega) (fun k hk => by injection hk with hk; omega); clear hz2 hg2 hr1; have c0 : w2.cell? ⟨w1.heap.size, 119, none⟩ = some (.int .i64 2) := (by rw [cell_of_row _ _ _ _ _ _ hh2]; kernel_rfl); have c1 : w2.cell? ⟨w1.heap.size, 120, none⟩ = some (.int .i64 4) := (by rw [cell_of_row _ _ _ _ _ _ hh2]; kernel_rfl); have c2 : w2.cell? ⟨w1.heap.size, 121, none⟩ = some (.int .i64 4) := (by rw [cell_of_row _ _ _ _ _ _ hh2]; kernel_rfl); have c3 : w2.cell? ⟨w1.heap.size, 122, none⟩ = some (.int .i64 0) := (by rw [cell_of_row _ _ _ _ _ _ hh2]; kernel_rfl); have c4 : w2.cell? ⟨w1.heap.size, 123, none⟩ = some (.int .i64 1) := (by rw [cell_of_row _ _ _ _ _ _ hh2]; kernel_rfl); have c5 : w2.cell? ⟨w1.heap.size, 124, none⟩ = some (.bool false) := (by rw [cell_of_row _ _ _ _ _ _ hh2]; kernel_rfl); have c6 : w2.cell? ⟨w1.heap.size, 125, none⟩ = some (.func (.func 142) #[] #[]) := (by rw [cell_of_row _ _ _ _ _ _ hh2]; kernel_rfl)) | (refine wpList_store_row 89 _ _ rfl rfl rfl w.heap.size 89 rfl (o7 2 4 4 0 1 false 142) rfl _ hr2 rfl info_op (o7_one _ _ _ _ _ _ _) ?_; intro w3 hh3 hg3 hz3; have HB3 : Hid (Below w.heap.size w w3) := HB2.out.grown hg3 (HB2.out.size) (fun k hk => by injection hk with hk; omega); clear hz3 hg3))
  refine bodyPost_ret (v := .tuple #[.agg (o7 2 4 4 0 1 false 142).toArray, .bool true]) (results_cell_tmp Tryz.results50 _ _ w.heap.size 89 _ (0, 0) _ rfl hh3 Tryz.underlying89 rfl (by rw [info_op]; rfl)) rfl ⟨rfl, HB3.out⟩

set_option maxRecDepth 100000 in
set_option maxHeartbeats 4000000 in
theorem f_op18 (w : World) :
    Calls Tryz.prog 50 #[.int .i64 18, .int .i64 2] w fun e w' => e = .returned (.tuple #[.agg (o7 2 4 4 0 1 false 143).toArray, .bool true]) ∧ Below w.heap.size w w' := by
  have HO := Lib.hid (fun W => c_operations W)
  go_enter Tryz.func50, Tryz.ntmps50
  go_wp2_with fail
  have hr0 := heap_alloc_new w (.cells z7.toArray 89)
  refine (HO.out _).mono ?_
  rintro e w1 ⟨rfl, hb1⟩
  have hr1 : w1.heap[w.heap.size]? = some (.cells z7.toArray 89 (0, 0)) := (hb1.block _ (by simp)).trans hr0
  have hlt : w.heap.size < w1.heap.size := (Array.getElem?_eq_some_iff.1 hr1).1
  have HB1 : Hid (Below w.heap.size w w1) := btr ((Below.refl _ _).alloc (Nat.le_refl _) _) hb1
  clear hr0 hb1
  generalize HT : tab.toArray = TT
  have HH := Lib.hid HT
  clear HT HO
  go_wp2_with (first | (refine wpList_store_row 135 _ _ rfl rfl rfl w1.heap.size 135 rfl tab (congrArg Value.agg HH.out.symm) _ (heap_alloc_new w1 _) (by kernel_rfl) info_tab tab_one ?_; intro w2 hh2 hg2 hz2; have hr2 : w2.heap[w.heap.size]? = some (.cells z7.toArray 89 (0, 0)) := (hg2.block _ (by simp; omega) (by simp; omega)).trans ((Below.heap_alloc w1 _ _ hlt).trans hr1); have HB2 : Hid (Below w.heap.size w w2) := (HB1.out.alloc (by omega) _).grown hg2 (by simp; omega) (fun k hk => by injection hk with hk; omega); clear hz2 hg2 hr1; have c0 : w2.cell? ⟨w1.heap.size, 126, none⟩ = some (.int .i64 2) := (by rw [cell_of_row _ _ _ _ _ _ hh2]; kernel_rfl); have c1 : w2.cell? ⟨w1.heap.size, 127, none⟩ = some (.int .i64 4) := (by rw [cell_of_row _ _ _ _ _ _ hh2]; kernel_rfl); have c2 : w2.cell? ⟨w1.heap.size, 128, none⟩ = some (.int .i64 4) := (by rw [cell_of_row _ _ _ _ _ _ hh2]; kernel_rfl); have c3 : w2.cell? ⟨w1.heap.size, 129, none⟩ = some (.int .i64 0) := (by rw [cell_of_row _ _ _ _ _ _ hh2]; kernel_rfl); have c4 : w2.cell? ⟨w1.heap.size, 130, none⟩ = some (.int .i64 1) := (by rw [cell_of_row _ _ _ _ _ _ hh2]; kernel_rfl); have c5 : w2.cell? ⟨w1.heap.size, 131, none⟩ = some (.bool false) := (by rw [cell_of_row _ _ _ _ _ _ hh2]; kernel_rfl); have c6 : w2.cell? ⟨w1.heap.size, 132, none⟩ = some (.func (.func 143) #[] #[]) := (by rw [cell_of_row _ _ _ _ _ _ hh2]; kernel_rfl)) | (refine wpList_store_row 89 _ _ rfl rfl rfl w.heap.size 89 rfl (o7 2 4 4 0 1 false 143) rfl _ hr2 rfl info_op (o7_one _ _ _ _ _ _ _) ?_; intro w3 hh3 hg3 hz3; have HB3 : Hid (Below w.heap.size w w3) := HB2.out.grown hg3 (HB2.out.size) (fun k hk => by injection hk with hk; omega); clear hz3 hg3))
  refine bodyPost_ret (v := .tuple #[.agg (o7 2 4 4 0 1 false 143).toArray, .bool true]) (results_cell_tmp Tryz.results50 _ _ w.heap.size 89 _ (0, 0) _ rfl hh3 Tryz.underlying89 rfl (by rw [info_op]; rfl)) rfl ⟨rfl, HB3.out⟩

set_option maxRecDepth 100000 in
set_option maxHeartbeats 4000000 in
theorem f_no0 (w : World) (c : Int) (hc : 0 < c) (hk : c ≠ 0) :
    Calls Tryz.prog 50 #[.int .i64 0, .int .i64 c] w fun e w' => e = .returned (.tuple #[.agg z7.toArray, .bool false]) ∧ Below w.heap.size w w' := by
  have HO := Lib.hid (fun W => c_operations W)
  have hc0 : ((c : Int) == 0) = false := by rw [beq_eq_false_iff_ne]; omega
  have hck : (((0 : Int)) != c) = true := by rw [bne_iff_ne]; omega
  clear hc hk
  go_enter Tryz.func50, Tryz.ntmps50
  go_wp2_with fail
  have hr0 := heap_alloc_new w (.cells z7.toArray 89)
  refine (HO.out _).mono ?_
  rintro e w1 ⟨rfl, hb1⟩
  have hr1 : w1.heap[w.heap.size]? = some (.cells z7.toArray 89 (0, 0)) := (hb1.block _ (by simp)).trans hr0
  have hlt : w.heap.size < w1.heap.size := (Array.getElem?_eq_some_iff.1 hr1).1
  have HB1 : Hid (Below w.heap.size w w1) := btr ((Below.refl _ _).alloc (Nat.le_refl _) _) hb1
  clear hr0 hb1
  generalize HT : tab.toArray = TT
  have HH := Lib.hid HT
  clear HT HO
  go_wp2_with (first | (refine wpList_store_row 135 _ _ rfl rfl rfl w1.heap.size 135 rfl tab (congrArg Value.agg HH.out.symm) _ (heap_alloc_new w1 _) (by kernel_rfl) info_tab tab_one ?_; intro w2 hh2 hg2 hz2; have hr2 : w2.heap[w.heap.size]? = some (.cells z7.toArray 89 (0, 0)) := (hg2.block _ (by simp; omega) (by simp; omega)).trans ((Below.heap_alloc w1 _ _ hlt).trans hr1); have HB2 : Hid (Below w.heap.size w w2) := (HB1.out.alloc (by omega) _).grown hg2 (by simp; omega) (fun k hk => by injection hk with hk; omega); clear hz2 hg2 hr1; have c0 : w2.cell? ⟨w1.heap.size, 0, none⟩ = some (.int .i64 0) := (by rw [cell_of_row _ _ _ _ _ _ hh2]; kernel_rfl)) | (refine wpList_store_row 89 _ _ rfl rfl rfl w.heap.size 89 rfl z7 rfl _ hr2 rfl info_op z7_one ?_; intro w3 hh3 hg3 hz3; have HB3 : Hid (Below w.heap.size w w3) := HB2.out.grown hg3 (HB2.out.size) (fun k hk => by injection hk with hk; omega); clear hz3 hg3))
  refine bodyPost_ret (v := .tuple #[.agg z7.toArray, .bool false]) (results_cell_tmp Tryz.results50 _ _ w.heap.size 89 _ (0, 0) _ rfl hh3 Tryz.underlying89 rfl (by rw [info_op]; rfl)) rfl ⟨rfl, HB3.out⟩

set_option maxRecDepth 100000 in
set_option maxHeartbeats 4000000 in
theorem f_no1 (w : World) (c : Int) (hc : 0 < c) (hk : c ≠ 0) :
    Calls Tryz.prog 50 #[.int .i64 1, .int .i64 c] w fun e w' => e = .returned (.tuple #[.agg z7.toArray, .bool false]) ∧ Below w.heap.size w w' := by
  have HO := Lib.hid (fun W => c_operations W)
  have hc0 : ((c : Int) == 0) = false := by rw [beq_eq_false_iff_ne]; omega
  have hck : (((0 : Int)) != c) = true := by rw [bne_iff_ne]; omega
  clear hc hk
  go_enter Tryz.func50, Tryz.ntmps50
  go_wp2_with fail
  have hr0 := heap_alloc_new w (.cells z7.toArray 89)
  refine (HO.out _).mono ?_
  rintro e w1 ⟨rfl, hb1⟩
  have hr1 : w1.heap[w.heap.size]? = some (.cells z7.toArray 89 (0, 0)) := (hb1.block _ (by simp)).trans hr0
  have hlt : w.heap.size < w1.heap.size := (Array.getElem?_eq_some_iff.1 hr1).1
  have HB1 : Hid (Below w.heap.size w w1) := btr ((Below.refl _ _).alloc (Nat.le_refl _) _) hb1
  clear hr0 hb1
  generalize HT : tab.toArray = TT
  have HH := Lib.hid HT
  clear HT HO
  go_wp2_with (first | (refine wpList_store_row 135 _ _ rfl rfl rfl w1.heap.size 135 rfl tab (congrArg Value.agg HH.out.symm) _ (heap_alloc_new w1 _) (by kernel_rfl) info_tab tab_one ?_; intro w2 hh2 hg2 hz2; have hr2 : w2.heap[w.heap.size]? = some (.cells z7.toArray 89 (0, 0)) := (hg2.block _ (by simp; omega) (by simp; omega)).trans ((Below.heap_alloc w1 _ _ hlt).trans hr1); have HB2 : Hid (Below w.heap.size w w2) := (HB1.out.alloc (by omega) _).grown hg2 (by simp; omega) (fun k hk => by injection hk with hk; omega); clear hz2 hg2 hr1; have c0 : w2.cell? ⟨w1.heap.size, 7, none⟩ = some (.int .i64 0) := (by rw [cell_of_row _ _ _ _ _ _ hh2]; kernel_rfl)) | (refine wpList_store_row 89 _ _ rfl rfl rfl w.heap.size 89 rfl z7 rfl _ hr2 rfl info_op z7_one ?_; intro w3 hh3 hg3 hz3; have HB3 : Hid (Below w.heap.size w w3) := HB2.out.grown hg3 (HB2.out.size) (fun k hk => by injection hk with hk; omega); clear hz3 hg3))
  refine bodyPost_ret (v := .tuple #[.agg z7.toArray, .bool false]) (results_cell_tmp Tryz.results50 _ _ w.heap.size 89 _ (0, 0) _ rfl hh3 Tryz.underlying89 rfl (by rw [info_op]; rfl)) rfl ⟨rfl, HB3.out⟩

set_option maxRecDepth 100000 in
set_option maxHeartbeats 4000000 in
theorem f_no2 (w : World) (c : Int) (hc : 0 < c) (hk : c ≠ 0) :
    Calls Tryz.prog 50 #[.int .i64 2, .int .i64 c] w fun e w' => e = .returned (.tuple #[.agg z7.toArray, .bool false]) ∧ Below w.heap.size w w' := by
  have HO := Lib.hid (fun W => c_operations W)
  have hc0 : ((c : Int) == 0) = false := by rw [beq_eq_false_iff_ne]; omega
  have hck : (((0 : Int)) != c) = true := by rw [bne_iff_ne]; omega
  clear hc hk
  go_enter Tryz.func50, Tryz.ntmps50
  go_wp2_with fail
  have hr0 := heap_alloc_new w (.cells z7.toArray 89)
  refine (HO.out _).mono ?_
  rintro e w1 ⟨rfl, hb1⟩
  have hr1 : w1.heap[w.heap.size]? = some (.cells z7.toArray 89 (0, 0)) := (hb1.block _ (by simp)).trans hr0
  have hlt : w.heap.size < w1.heap.size := (Array.getElem?_eq_some_iff.1 hr1).1
  have HB1 : Hid (Below w.heap.size w w1) := btr ((Below.refl _ _).alloc (Nat.le_refl _) _) hb1
  clear hr0 hb1
  generalize HT : tab.toArray = TT
  have HH := Lib.hid HT
  clear HT HO
  go_wp2_with (first | (refine wpList_store_row 135 _ _ rfl rfl rfl w1.heap.size 135 rfl tab (congrArg Value.agg HH.out.symm) _ (heap_alloc_new w1 _) (by kernel_rfl) info_tab tab_one ?_; intro w2 hh2 hg2 hz2; have hr2 : w2.heap[w.heap.size]? = some (.cells z7.toArray 89 (0, 0)) := (hg2.block _ (by simp; omega) (by simp; omega)).trans ((Below.heap_alloc w1 _ _ hlt).trans hr1); have HB2 : Hid (Below w.heap.size w w2) := (HB1.out.alloc (by omega) _).grown hg2 (by simp; omega) (fun k hk => by injection hk with hk; omega); clear hz2 hg2 hr1; have c0 : w2.cell? ⟨w1.heap.size, 14, none⟩ = some (.int .i64 0) := (by rw [cell_of_row _ _ _ _ _ _ hh2]; kernel_rfl)) | (refine wpList_store_row 89 _ _ rfl rfl rfl w.heap.size 89 rfl z7 rfl _ hr2 rfl info_op z7_one ?_; intro w3 hh3 hg3 hz3; have HB3 : Hid (Below w.heap.size w w3) := HB2.out.grown hg3 (HB2.out.size) (fun k hk => by injection hk with hk; omega); clear hz3 hg3))
  refine bodyPost_ret (v := .tuple #[.agg z7.toArray, .bool false]) (results_cell_tmp Tryz.results50 _ _ w.heap.size 89 _ (0, 0) _ rfl hh3 Tryz.underlying89 rfl (by rw [info_op]; rfl)) rfl ⟨rfl, HB3.out⟩

set_option maxRecDepth 100000 in
set_option maxHeartbeats 4000000 in
theorem f_no3 (w : World) (c : Int) (hc : 0 < c) (hk : c ≠ 0) :
    Calls Tryz.prog 50 #[.int .i64 3, .int .i64 c] w fun e w' => e = .returned (.tuple #[.agg z7.toArray, .bool false]) ∧ Below w.heap.size w w' := by
  have HO := Lib.hid (fun W => c_operations W)
  have hc0 : ((c : Int) == 0) = false := by rw [beq_eq_false_iff_ne]; omega
  have hck : (((0 : Int)) != c) = true := by rw [bne_iff_ne]; omega
  clear hc hk
  go_enter Tryz.func50, Tryz.ntmps50
  go_wp2_with fail
  have hr0 := heap_alloc_new w (.cells z7.toArray 89)
  refine (HO.out _).mono ?_
  rintro e w1 ⟨rfl, hb1⟩
  have hr1 : w1.heap[w.heap.size]? = some (.cells z7.toArray 89 (0, 0)) := (hb1.block _ (by simp)).trans hr0
  have hlt : w.heap.size < w1.heap.size := (Array.getElem?_eq_some_iff.1 hr1).1
  have HB1 : Hid (Below w.heap.size w w1) := btr ((Below.refl _ _).alloc (Nat.le_refl _) _) hb1
  clear hr0 hb1
  generalize HT : tab.toArray = TT
  have HH := Lib.hid HT
  clear HT HO
  go_wp2_with (first | (refine wpList_store_row 135 _ _ rfl rfl rfl w1.heap.size 135 rfl tab (congrArg Value.agg HH.out.symm) _ (heap_alloc_new w1 _) (by kernel_rfl) info_tab tab_one ?_; intro w2 hh2 hg2 hz2; have hr2 : w2.heap[w.heap.size]? = some (.cells z7.toArray 89 (0, 0)) := (hg2.block _ (by simp; omega) (by simp; omega)).trans ((Below.heap_alloc w1 _ _ hlt).trans hr1); have HB2 : Hid (Below w.heap.size w w2) := (HB1.out.alloc (by omega) _).grown hg2 (by simp; omega) (fun k hk => by injection hk with hk; omega); clear hz2 hg2 hr1; have c0 : w2.cell? ⟨w1.heap.size, 21, none⟩ = some (.int .i64 0) := (by rw [cell_of_row _ _ _ _ _ _ hh2]; kernel_rfl)) | (refine wpList_store_row 89 _ _ rfl rfl rfl w.heap.size 89 rfl z7 rfl _ hr2 rfl info_op z7_one ?_; intro w3 hh3 hg3 hz3; have HB3 : Hid (Below w.heap.size w w3) := HB2.out.grown hg3 (HB2.out.size) (fun k hk => by injection hk with hk; omega); clear hz3 hg3))
  refine bodyPost_ret (v := .tuple #[.agg z7.toArray, .bool false]) (results_cell_tmp Tryz.results50 _ _ w.heap.size 89 _ (0, 0) _ rfl hh3 Tryz.underlying89 rfl (by rw [info_op]; rfl)) rfl ⟨rfl, HB3.out⟩

set_option maxRecDepth 100000 in
set_option maxHeartbeats 4000000 in
theorem f_no4 (w : World) (c : Int) (hc : 0 < c) (hk : c ≠ 1) :
    Calls Tryz.prog 50 #[.int .i64 4, .int .i64 c] w fun e w' => e = .returned (.tuple #[.agg z7.toArray, .bool false]) ∧ Below w.heap.size w w' := by
  have HO := Lib.hid (fun W => c_operations W)
  have hc0 : ((c : Int) == 0) = false := by rw [beq_eq_false_iff_ne]; omega
  have hck : (((1 : Int)) != c) = true := by rw [bne_iff_ne]; omega
  clear hc hk
  go_enter Tryz.func50, Tryz.ntmps50
  go_wp2_with fail
  have hr0 := heap_alloc_new w (.cells z7.toArray 89)
  refine (HO.out _).mono ?_
  rintro e w1 ⟨rfl, hb1⟩
  have hr1 : w1.heap[w.heap.size]? = some (.cells z7.toArray 89 (0, 0)) := (hb1.block _ (by simp)).trans hr0
  have hlt : w.heap.size < w1.heap.size := (Array.getElem?_eq_some_iff.1 hr1).1
  have HB1 : Hid (Below w.heap.size w w1) := btr ((Below.refl _ _).alloc (Nat.le_refl _) _) hb1
  clear hr0 hb1
  generalize HT : tab.toArray = TT
  have HH := Lib.hid HT
  clear HT HO
  go_wp2_with (first | (refine wpList_store_row 135 _ _ rfl rfl rfl w1.heap.size 135 rfl tab (congrArg Value.agg HH.out.symm) _ (heap_alloc_new w1 _) (by kernel_rfl) info_tab tab_one ?_; intro w2 hh2 hg2 hz2; have hr2 : w2.heap[w.heap.size]? = some (.cells z7.toArray 89 (0, 0)) := (hg2.block _ (by simp; omega) (by simp; omega)).trans ((Below.heap_alloc w1 _ _ hlt).trans hr1); have HB2 : Hid (Below w.heap.size w w2) := (HB1.out.alloc (by omega) _).grown hg2 (by simp; omega) (fun k hk => by injection hk with hk; omega); clear hz2 hg2 hr1; have c0 : w2.cell? ⟨w1.heap.size, 28, none⟩ = some (.int .i64 1) := (by rw [cell_of_row _ _ _ _ _ _ hh2]; kernel_rfl)) | (refine wpList_store_row 89 _ _ rfl rfl rfl w.heap.size 89 rfl z7 rfl _ hr2 rfl info_op z7_one ?_; intro w3 hh3 hg3 hz3; have HB3 : Hid (Below w.heap.size w w3) := HB2.out.grown hg3 (HB2.out.size) (fun k hk => by injection hk with hk; omega); clear hz3 hg3))
  refine bodyPost_ret (v := .tuple #[.agg z7.toArray, .bool false]) (results_cell_tmp Tryz.results50 _ _ w.heap.size 89 _ (0, 0) _ rfl hh3 Tryz.underlying89 rfl (by rw [info_op]; rfl)) rfl ⟨rfl, HB3.out⟩

set_option maxRecDepth 100000 in
set_option maxHeartbeats 4000000 in
theorem f_no5 (w : World) (c : Int) (hc : 0 < c) (hk : c ≠ 1) :
    Calls Tryz.prog 50 #[.int .i64 5, .int .i64 c] w fun e w' => e = .returned (.tuple #[.agg z7.toArray, .bool false]) ∧ Below w.heap.size w w' := by
  have HO := Lib.hid (fun W => c_operations W)
  have hc0 : ((c : Int) == 0) = false := by rw [beq_eq_false_iff_ne]; omega
  have hck : (((1 : Int)) != c) = true := by rw [bne_iff_ne]; omega
  clear hc hk
  go_enter Tryz.func50, Tryz.ntmps50
  go_wp2_with fail
  have hr0 := heap_alloc_new w (.cells z7.toArray 89)
  refine (HO.out _).mono ?_
  rintro e w1 ⟨rfl, hb1⟩
  have hr1 : w1.heap[w.heap.size]? = some (.cells z7.toArray 89 (0, 0)) := (hb1.block _ (by simp)).trans hr0
  have hlt : w.heap.size < w1.heap.size := (Array.getElem?_eq_some_iff.1 hr1).1
  have HB1 : Hid (Below w.heap.size w w1) := btr ((Below.refl _ _).alloc (Nat.le_refl _) _) hb1
  clear hr0 hb1
  generalize HT : tab.toArray = TT
  have HH := Lib.hid HT
  clear HT HO
  go_wp2_with (first | (refine wpList_store_row 135 _ _ rfl rfl rfl w1.heap.size 135 rfl tab (congrArg Value.agg HH.out.symm) _ (heap_alloc_new w1 _) (by kernel_rfl) info_tab tab_one ?_; intro w2 hh2 hg2 hz2; have hr2 : w2.heap[w.heap.size]? = some (.cells z7.toArray 89 (0, 0)) := (hg2.block _ (by simp; omega) (by simp; omega)).trans ((Below.heap_alloc w1 _ _ hlt).trans hr1); have HB2 : Hid (Below w.heap.size w w2) := (HB1.out.alloc (by omega) _).grown hg2 (by simp; omega) (fun k hk => by injection hk with hk; omega); clear hz2 hg2 hr1; have c0 : w2.cell? ⟨w1.heap.size, 35, none⟩ = some (.int .i64 1) := (by rw [cell_of_row _ _ _ _ _ _ hh2]; kernel_rfl)) | (refine wpList_store_row 89 _ _ rfl rfl rfl w.heap.size 89 rfl z7 rfl _ hr2 rfl info_op z7_one ?_; intro w3 hh3 hg3 hz3; have HB3 : Hid (Below w.heap.size w w3) := HB2.out.grown hg3 (HB2.out.size) (fun k hk => by injection hk with hk; omega); clear hz3 hg3))
  refine bodyPost_ret (v := .tuple #[.agg z7.toArray, .bool false]) (results_cell_tmp Tryz.results50 _ _ w.heap.size 89 _ (0, 0) _ rfl hh3 Tryz.underlying89 rfl (by rw [info_op]; rfl)) rfl ⟨rfl, HB3.out⟩

set_option maxRecDepth 100000 in
set_option maxHeartbeats 4000000 in
theorem f_no6 (w : World) (c : Int) (hc : 0 < c) (hk : c ≠ 1) :
    Calls Tryz.prog 50 #[.int .i64 6, .int .i64 c] w fun e w' => e = .returned (.tuple #[.agg z7.toArray, .bool false]) ∧ Below w.heap.size w w' := by
  have HO := Lib.hid (fun W => c_operations W)
  have hc0 : ((c : Int) == 0) = false := by rw [beq_eq_false_iff_ne]; omega
  have hck : (((1 : Int)) != c) = true := by rw [bne_iff_ne]; omega
  clear hc hk
  go_enter Tryz.func50, Tryz.ntmps50
  go_wp2_with fail
  have hr0 := heap_alloc_new w (.cells z7.toArray 89)
  refine (HO.out _).mono ?_
  rintro e w1 ⟨rfl, hb1⟩
  have hr1 : w1.heap[w.heap.size]? = some (.cells z7.toArray 89 (0, 0)) := (hb1.block _ (by simp)).trans hr0
  have hlt : w.heap.size < w1.heap.size := (Array.getElem?_eq_some_iff.1 hr1).1
  have HB1 : Hid (Below w.heap.size w w1) := btr ((Below.refl _ _).alloc (Nat.le_refl _) _) hb1
  clear hr0 hb1
  generalize HT : tab.toArray = TT
  have HH := Lib.hid HT
  clear HT HO
  go_wp2_with (first | (refine wpList_store_row 135 _ _ rfl rfl rfl w1.heap.size 135 rfl tab (congrArg Value.agg HH.out.symm) _ (heap_alloc_new w1 _) (by kernel_rfl) info_tab tab_one ?_; intro w2 hh2 hg2 hz2; have hr2 : w2.heap[w.heap.size]? = some (.cells z7.toArray 89 (0, 0)) := (hg2.block _ (by simp; omega) (by simp; omega)).trans ((Below.heap_alloc w1 _ _ hlt).trans hr1); have HB2 : Hid (Below w.heap.size w w2) := (HB1.out.alloc (by omega) _).grown hg2 (by simp; omega) (fun k hk => by injection hk with hk; omega); clear hz2 hg2 hr1; have c0 : w2.cell? ⟨w1.heap.size, 42, none⟩ = some (.int .i64 1) := (by rw [cell_of_row _ _ _ _ _ _ hh2]; kernel_rfl)) | (refine wpList_store_row 89 _ _ rfl rfl rfl w.heap.size 89 rfl z7 rfl _ hr2 rfl info_op z7_one ?_; intro w3 hh3 hg3 hz3; have HB3 : Hid (Below w.heap.size w w3) := HB2.out.grown hg3 (HB2.out.size) (fun k hk => by injection hk with hk; omega); clear hz3 hg3))
  refine bodyPost_ret (v := .tuple #[.agg z7.toArray, .bool false]) (results_cell_tmp Tryz.results50 _ _ w.heap.size 89 _ (0, 0) _ rfl hh3 Tryz.underlying89 rfl (by rw [info_op]; rfl)) rfl ⟨rfl, HB3.out⟩

set_option maxRecDepth 100000 in
set_option maxHeartbeats 4000000 in
theorem f_no7 (w : World) (c : Int) (hc : 0 < c) (hk : c ≠ 1) :
    Calls Tryz.prog 50 #[.int .i64 7, .int .i64 c] w fun e w' => e = .returned (.tuple #[.agg z7.toArray, .bool false]) ∧ Below w.heap.size w w' := by
  have HO := Lib.hid (fun W => c_operations W)
  have hc0 : ((c : Int) == 0) = false := by rw [beq_eq_false_iff_ne]; omega
  have hck : (((1 : Int)) != c) = true := by rw [bne_iff_ne]; omega
  clear hc hk
  go_enter Tryz.func50, Tryz.ntmps50
  go_wp2_with fail
  have hr0 := heap_alloc_new w (.cells z7.toArray 89)
  refine (HO.out _).mono ?_
  rintro e w1 ⟨rfl, hb1⟩
  have hr1 : w1.heap[w.heap.size]? = some (.cells z7.toArray 89 (0, 0)) := (hb1.block _ (by simp)).trans hr0
  have hlt : w.heap.size < w1.heap.size := (Array.getElem?_eq_some_iff.1 hr1).1
  have HB1 : Hid (Below w.heap.size w w1) := btr ((Below.refl _ _).alloc (Nat.le_refl _) _) hb1
  clear hr0 hb1
  generalize HT : tab.toArray = TT
  have HH := Lib.hid HT
  clear HT HO
  go_wp2_with (first | (refine wpList_store_row 135 _ _ rfl rfl rfl w1.heap.size 135 rfl tab (congrArg Value.agg HH.out.symm) _ (heap_alloc_new w1 _) (by kernel_rfl) info_tab tab_one ?_; intro w2 hh2 hg2 hz2; have hr2 : w2.heap[w.heap.size]? = some (.cells z7.toArray 89 (0, 0)) := (hg2.block _ (by simp; omega) (by simp; omega)).trans ((Below.heap_alloc w1 _ _ hlt).trans hr1); have HB2 : Hid (Below w.heap.size w w2) := (HB1.out.alloc (by omega) _).grown hg2 (by simp; omega) (fun k hk => by injection hk with hk; omega); clear hz2 hg2 hr1; have c0 : w2.cell? ⟨w1.heap.size, 49, none⟩ = some (.int .i64 1) := (by rw [cell_of_row _ _ _ _ _ _ hh2]; kernel_rfl)) | (refine wpList_store_row 89 _ _ rfl rfl rfl w.heap.size 89 rfl z7 rfl _ hr2 rfl info_op z7_one ?_; intro w3 hh3 hg3 hz3; have HB3 : Hid (Below w.heap.size w w3) := HB2.out.grown hg3 (HB2.out.size) (fun k hk => by injection hk with hk; omega); clear hz3 hg3))
  refine bodyPost_ret (v := .tuple #[.agg z7.toArray, .bool false]) (results_cell_tmp Tryz.results50 _ _ w.heap.size 89 _ (0, 0) _ rfl hh3 Tryz.underlying89 rfl (by rw [info_op]; rfl)) rfl ⟨rfl, HB3.out⟩

set_option maxRecDepth 100000 in
set_option maxHeartbeats 4000000 in
theorem f_no8 (w : World) (c : Int) (hc : 0 < c) (hk : c ≠ 1) :
    Calls Tryz.prog 50 #[.int .i64 8, .int .i64 c] w fun e w' => e = .returned (.tuple #[.agg z7.toArray, .bool false]) ∧ Below w.heap.size w w' := by
  have HO := Lib.hid (fun W => c_operations W)
  have hc0 : ((c : Int) == 0) = false := by rw [beq_eq_false_iff_ne]; omega
  have hck : (((1 : Int)) != c) = true := by rw [bne_iff_ne]; omega
  clear hc hk
  go_enter Tryz.func50, Tryz.ntmps50
  go_wp2_with fail
  have hr0 := heap_alloc_new w (.cells z7.toArray 89)
  refine (HO.out _).mono ?_
  rintro e w1 ⟨rfl, hb1⟩
  have hr1 : w1.heap[w.heap.size]? = some (.cells z7.toArray 89 (0, 0)) := (hb1.block _ (by simp)).trans hr0
  have hlt : w.heap.size < w1.heap.size := (Array.getElem?_eq_some_iff.1 hr1).1
  have HB1 : Hid (Below w.heap.size w w1) := btr ((Below.refl _ _).alloc (Nat.le_refl _) _) hb1
  clear hr0 hb1
  generalize HT : tab.toArray = TT
  have HH := Lib.hid HT
  clear HT HO
  go_wp2_with (first | (refine wpList_store_row 135 _ _ rfl rfl rfl w1.heap.size 135 rfl tab (congrArg Value.agg HH.out.symm) _ (heap_alloc_new w1 _) (by kernel_rfl) info_tab tab_one ?_; intro w2 hh2 hg2 hz2; have hr2 : w2.heap[w.heap.size]? = some (.cells z7.toArray 89 (0, 0)) := (hg2.block _ (by simp; omega) (by simp; omega)).trans ((Below.heap_alloc w1 _ _ hlt).trans hr1); have HB2 : Hid (Below w.heap.size w w2) := (HB1.out.alloc (by omega) _).grown hg2 (by simp; omega) (fun k hk => by injection hk with hk; omega); clear hz2 hg2 hr1; have c0 : w2.cell? ⟨w1.heap.size, 56, none⟩ = some (.int .i64 1) := (by rw [cell_of_row _ _ _ _ _ _ hh2]; kernel_rfl)) | (refine wpList_store_row 89 _ _ rfl rfl rfl w.heap.size 89 rfl z7 rfl _ hr2 rfl info_op z7_one ?_; intro w3 hh3 hg3 hz3; have HB3 : Hid (Below w.heap.size w w3) := HB2.out.grown hg3 (HB2.out.size) (fun k hk => by injection hk with hk; omega); clear hz3 hg3))
  refine bodyPost_ret (v := .tuple #[.agg z7.toArray, .bool false]) (results_cell_tmp Tryz.results50 _ _ w.heap.size 89 _ (0, 0) _ rfl hh3 Tryz.underlying89 rfl (by rw [info_op]; rfl)) rfl ⟨rfl, HB3.out⟩

set_option maxRecDepth 100000 in
set_option maxHeartbeats 4000000 in
theorem f_no9 (w : World) (c : Int) (hc : 0 < c) (hk : c ≠ 2) :
    Calls Tryz.prog 50 #[.int .i64 9, .int .i64 c] w fun e w' => e = .returned (.tuple #[.agg z7.toArray, .bool false]) ∧ Below w.heap.size w w' := by
  have HO := Lib.hid (fun W => c_operations W)
  have hc0 : ((c : Int) == 0) = false := by rw [beq_eq_false_iff_ne]; omega
  have hck : (((2 : Int)) != c) = true := by rw [bne_iff_ne]; omega
  clear hc hk
  go_enter Tryz.func50, Tryz.ntmps50
  go_wp2_with fail
  have hr0 := heap_alloc_new w (.cells z7.toArray 89)
  refine (HO.out _).mono ?_
  rintro e w1 ⟨rfl, hb1⟩
  have hr1 : w1.heap[w.heap.size]? = some (.cells z7.toArray 89 (0, 0)) := (hb1.block _ (by simp)).trans hr0
  have hlt : w.heap.size < w1.heap.size := (Array.getElem?_eq_some_iff.1 hr1).1
  have HB1 : Hid (Below w.heap.size w w1) := btr ((Below.refl _ _).alloc (Nat.le_refl _) _) hb1
  clear hr0 hb1
  generalize HT : tab.toArray = TT
  have HH := Lib.hid HT
  clear HT HO
  go_wp2_with (first | (refine wpList_store_row 135 _ _ rfl rfl rfl w1.heap.size 135 rfl tab (congrArg Value.agg HH.out.symm) _ (heap_alloc_new w1 _) (by kernel_rfl) info_tab tab_one ?_; intro w2 hh2 hg2 hz2; have hr2 : w2.heap[w.heap.size]? = some (.cells z7.toArray 89 (0, 0)) := (hg2.block _ (by simp; omega) (by simp; omega)).trans ((Below.heap_alloc w1 _ _ hlt).trans hr1); have HB2 : Hid (Below w.heap.size w w2) := (HB1.out.alloc (by omega) _).grown hg2 (by simp; omega) (fun k hk => by injection hk with hk; omega); clear hz2 hg2 hr1; have c0 : w2.cell? ⟨w1.heap.size, 63, none⟩ = some (.int .i64 2) := (by rw [cell_of_row _ _ _ _ _ _ hh2]; kernel_rfl)) | (refine wpList_store_row 89 _ _ rfl rfl rfl w.heap.size 89 rfl z7 rfl _ hr2 rfl info_op z7_one ?_; intro w3 hh3 hg3 hz3; have HB3 : Hid (Below w.heap.size w w3) := HB2.out.grown hg3 (HB2.out.size) (fun k hk => by injection hk with hk; omega); clear hz3 hg3))
  refine bodyPost_ret (v := .tuple #[.agg z7.toArray, .bool false]) (results_cell_tmp Tryz.results50 _ _ w.heap.size 89 _ (0, 0) _ rfl hh3 Tryz.underlying89 rfl (by rw [info_op]; rfl)) rfl ⟨rfl, HB3.out⟩

set_option maxRecDepth 100000 in
set_option maxHeartbeats 4000000 in
theorem f_no10 (w : World) (c : Int) (hc : 0 < c) (hk : c ≠ 2) :
    Calls Tryz.prog 50 #[.int .i64 10, .int .i64 c] w fun e w' => e = .returned (.tuple #[.agg z7.toArray, .bool false]) ∧ Below w.heap.size w w' := by
  have HO := Lib.hid (fun W => c_operations W)
  have hc0 : ((c : Int) == 0) = false := by rw [beq_eq_false_iff_ne]; omega
  have hck : (((2 : Int)) != c) = true := by rw [bne_iff_ne]; omega
  clear hc hk
  go_enter Tryz.func50, Tryz.ntmps50
  go_wp2_with fail
  have hr0 := heap_alloc_new w (.cells z7.toArray 89)
  refine (HO.out _).mono ?_
  rintro e w1 ⟨rfl, hb1⟩
  have hr1 : w1.heap[w.heap.size]? = some (.cells z7.toArray 89 (0, 0)) := (hb1.block _ (by simp)).trans hr0
  have hlt : w.heap.size < w1.heap.size := (Array.getElem?_eq_some_iff.1 hr1).1
  have HB1 : Hid (Below w.heap.size w w1) := btr ((Below.refl _ _).alloc (Nat.le_refl _) _) hb1
  clear hr0 hb1
  generalize HT : tab.toArray = TT
  have HH := Lib.hid HT
  clear HT HO
  go_wp2_with (first | (refine wpList_store_row 135 _ _ rfl rfl rfl w1.heap.size 135 rfl tab (congrArg Value.agg HH.out.symm) _ (heap_alloc_new w1 _) (by kernel_rfl) info_tab tab_one ?_; intro w2 hh2 hg2 hz2; have hr2 : w2.heap[w.heap.size]? = some (.cells z7.toArray 89 (0, 0)) := (hg2.block _ (by simp; omega) (by simp; omega)).trans ((Below.heap_alloc w1 _ _ hlt).trans hr1); have HB2 : Hid (Below w.heap.size w w2) := (HB1.out.alloc (by omega) _).grown hg2 (by simp; omega) (fun k hk => by injection hk with hk; omega); clear hz2 hg2 hr1; have c0 : w2.cell? ⟨w1.heap.size, 70, none⟩ = some (.int .i64 2) := (by rw [cell_of_row _ _ _ _ _ _ hh2]; kernel_rfl)) | (refine wpList_store_row 89 _ _ rfl rfl rfl w.heap.size 89 rfl z7 rfl _ hr2 rfl info_op z7_one ?_; intro w3 hh3 hg3 hz3; have HB3 : Hid (Below w.heap.size w w3) := HB2.out.grown hg3 (HB2.out.size) (fun k hk => by injection hk with hk; omega); clear hz3 hg3))
  refine bodyPost_ret (v := .tuple #[.agg z7.toArray, .bool false]) (results_cell_tmp Tryz.results50 _ _ w.heap.size 89 _ (0, 0) _ rfl hh3 Tryz.underlying89 rfl (by rw [info_op]; rfl)) rfl ⟨rfl, HB3.out⟩

set_option maxRecDepth 100000 in
set_option maxHeartbeats 4000000 in
theorem f_no11 (w : World) (c : Int) (hc : 0 < c) (hk : c ≠ 2) :
    Calls Tryz.prog 50 #[.int .i64 11, .int .i64 c] w fun e w' => e = .returned (.tuple #[.agg z7.toArray, .bool false]) ∧ Below w.heap.size w w' := by
  have HO := Lib.hid (fun W => c_operations W)
  have hc0 : ((c : Int) == 0) = false := by rw [beq_eq_false_iff_ne]; omega
  have hck : (((2 : Int)) != c) = true := by rw [bne_iff_ne]; omega
  clear hc hk
  go_enter Tryz.func50, Tryz.ntmps50
  go_wp2_with fail
  have hr0 := heap_alloc_new w (.cells z7.toArray 89)
  refine (HO.out _).mono ?_
  rintro e w1 ⟨rfl, hb1⟩
  have hr1 : w1.heap[w.heap.size]? = some (.cells z7.toArray 89 (0, 0)) := (hb1.block _ (by simp)).trans hr0
  have hlt : w.heap.size < w1.heap.size := (Array.getElem?_eq_some_iff.1 hr1).1
  have HB1 : Hid (Below w.heap.size w w1) := btr ((Below.refl _ _).alloc (Nat.le_refl _) _) hb1
  clear hr0 hb1
  generalize HT : tab.toArray = TT
  have HH := Lib.hid HT
  clear HT HO
  go_wp2_with (first | (refine wpList_store_row 135 _ _ rfl rfl rfl w1.heap.size 135 rfl tab (congrArg Value.agg HH.out.symm) _ (heap_alloc_new w1 _) (by kernel_rfl) info_tab tab_one ?_; intro w2 hh2 hg2 hz2; have hr2 : w2.heap[w.heap.size]? = some (.cells z7.toArray 89 (0, 0)) := (hg2.block _ (by simp; omega) (by simp; omega)).trans ((Below.heap_alloc w1 _ _ hlt).trans hr1); have HB2 : Hid (Below w.heap.size w w2) := (HB1.out.alloc (by omega) _).grown hg2 (by simp; omega) (fun k hk => by injection hk with hk; omega); clear hz2 hg2 hr1; have c0 : w2.cell? ⟨w1.heap.size, 77, none⟩ = some (.int .i64 2) := (by rw [cell_of_row _ _ _ _ _ _ hh2]; kernel_rfl)) | (refine wpList_store_row 89 _ _ rfl rfl rfl w.heap.size 89 rfl z7 rfl _ hr2 rfl info_op z7_one ?_; intro w3 hh3 hg3 hz3; have HB3 : Hid (Below w.heap.size w w3) := HB2.out.grown hg3 (HB2.out.size) (fun k hk => by injection hk with hk; omega); clear hz3 hg3))
  refine bodyPost_ret (v := .tuple #[.agg z7.toArray, .bool false]) (results_cell_tmp Tryz.results50 _ _ w.heap.size 89 _ (0, 0) _ rfl hh3 Tryz.underlying89 rfl (by rw [info_op]; rfl)) rfl ⟨rfl, HB3.out⟩

set_option maxRecDepth 100000 in
set_option maxHeartbeats 4000000 in
theorem f_no12 (w : World) (c : Int) (hc : 0 < c) (hk : c ≠ 2) :
    Calls Tryz.prog 50 #[.int .i64 12, .int .i64 c] w fun e w' => e = .returned (.tuple #[.agg z7.toArray, .bool false]) ∧ Below w.heap.size w w' := by
  have HO := Lib.hid (fun W => c_operations W)
  have hc0 : ((c : Int) == 0) = false := by rw [beq_eq_false_iff_ne]; omega
  have hck : (((2 : Int)) != c) = true := by rw [bne_iff_ne]; omega
  clear hc hk
  go_enter Tryz.func50, Tryz.ntmps50
  go_wp2_with fail
  have hr0 := heap_alloc_new w (.cells z7.toArray 89)
  refine (HO.out _).mono ?_
  rintro e w1 ⟨rfl, hb1⟩
  have hr1 : w1.heap[w.heap.size]? = some (.cells z7.toArray 89 (0, 0)) := (hb1.block _ (by simp)).trans hr0
  have hlt : w.heap.size < w1.heap.size := (Array.getElem?_eq_some_iff.1 hr1).1
  have HB1 : Hid (Below w.heap.size w w1) := btr ((Below.refl _ _).alloc (Nat.le_refl _) _) hb1
  clear hr0 hb1
  generalize HT : tab.toArray = TT
  have HH := Lib.hid HT
  clear HT HO
  go_wp2_with (first | (refine wpList_store_row 135 _ _ rfl rfl rfl w1.heap.size 135 rfl tab (congrArg Value.agg HH.out.symm) _ (heap_alloc_new w1 _) (by kernel_rfl) info_tab tab_one ?_; intro w2 hh2 hg2 hz2; have hr2 : w2.heap[w.heap.size]? = some (.cells z7.toArray 89 (0, 0)) := (hg2.block _ (by simp; omega) (by simp; omega)).trans ((Below.heap_alloc w1 _ _ hlt).trans hr1); have HB2 : Hid (Below w.heap.size w w2) := (HB1.out.alloc (by omega) _).grown hg2 (by simp; omega) (fun k hk => by injection hk with hk; omega); clear hz2 hg2 hr1; have c0 : w2.cell? ⟨w1.heap.size, 84, none⟩ = some (.int .i64 2) := (by rw [cell_of_row _ _ _ _ _ _ hh2]; kernel_rfl)) | (refine wpList_store_row 89 _ _ rfl rfl rfl w.heap.size 89 rfl z7 rfl _ hr2 rfl info_op z7_one ?_; intro w3 hh3 hg3 hz3; have HB3 : Hid (Below w.heap.size w w3) := HB2.out.grown hg3 (HB2.out.size) (fun k hk => by injection hk with hk; omega); clear hz3 hg3))
  refine bodyPost_ret (v := .tuple #[.agg z7.toArray, .bool false]) (results_cell_tmp Tryz.results50 _ _ w.heap.size 89 _ (0, 0) _ rfl hh3 Tryz.underlying89 rfl (by rw [info_op]; rfl)) rfl ⟨rfl, HB3.out⟩

set_option maxRecDepth 100000 in
set_option maxHeartbeats 4000000 in
theorem f_no13 (w : World) (c : Int) (hc : 0 < c) (hk : c ≠ 2) :
    Calls Tryz.prog 50 #[.int .i64 13, .int .i64 c] w fun e w' => e = .returned (.tuple #[.agg z7.toArray, .bool false]) ∧ Below w.heap.size w w' := by
  have HO := Lib.hid (fun W => c_operations W)
  have hc0 : ((c : Int) == 0) = false := by rw [beq_eq_false_iff_ne]; omega
  have hck : (((2 : Int)) != c) = true := by rw [bne_iff_ne]; omega
  clear hc hk
  go_enter Tryz.func50, Tryz.ntmps50
  go_wp2_with fail
  have hr0 := heap_alloc_new w (.cells z7.toArray 89)
  refine (HO.out _).mono ?_
  rintro e w1 ⟨rfl, hb1⟩
  have hr1 : w1.heap[w.heap.size]? = some (.cells z7.toArray 89 (0, 0)) := (hb1.block _ (by simp)).trans hr0
  have hlt : w.heap.size < w1.heap.size := (Array.getElem?_eq_some_iff.1 hr1).1
  have HB1 : Hid (Below w.heap.size w w1) := btr ((Below.refl _ _).alloc (Nat.le_refl _) _) hb1
  clear hr0 hb1
  generalize HT : tab.toArray = TT
  have HH := Lib.hid HT
  clear HT HO
  go_wp2_with (first | (refine wpList_store_row 135 _ _ rfl rfl rfl w1.heap.size 135 rfl tab (congrArg Value.agg HH.out.symm) _ (heap_alloc_new w1 _) (by kernel_rfl) info_tab tab_one ?_; intro w2 hh2 hg2 hz2; have hr2 : w2.heap[w.heap.size]? = some (.cells z7.toArray 89 (0, 0)) := (hg2.block _ (by simp; omega) (by simp; omega)).trans ((Below.heap_alloc w1 _ _ hlt).trans hr1); have HB2 : Hid (Below w.heap.size w w2) := (HB1.out.alloc (by omega) _).grown hg2 (by simp; omega) (fun k hk => by injection hk with hk; omega); clear hz2 hg2 hr1; have c0 : w2.cell? ⟨w1.heap.size, 91, none⟩ = some (.int .i64 2) := (by rw [cell_of_row _ _ _ _ _ _ hh2]; kernel_rfl)) | (refine wpList_store_row 89 _ _ rfl rfl rfl w.heap.size 89 rfl z7 rfl _ hr2 rfl info_op z7_one ?_; intro w3 hh3 hg3 hz3; have HB3 : Hid (Below w.heap.size w w3) := HB2.out.grown hg3 (HB2.out.size) (fun k hk => by injection hk with hk; omega); clear hz3 hg3))
  refine bodyPost_ret (v := .tuple #[.agg z7.toArray, .bool false]) (results_cell_tmp Tryz.results50 _ _ w.heap.size 89 _ (0, 0) _ rfl hh3 Tryz.underlying89 rfl (by rw [info_op]; rfl)) rfl ⟨rfl, HB3.out⟩

set_option maxRecDepth 100000 in
set_option maxHeartbeats 4000000 in
theorem f_no14 (w : World) (c : Int) (hc : 0 < c) (hk : c ≠ 2) :
    Calls Tryz.prog 50 #[.int .i64 14, .int .i64 c] w fun e w' => e = .returned (.tuple #[.agg z7.toArray, .bool false]) ∧ Below w.heap.size w w' := by
  have HO := Lib.hid (fun W => c_operations W)
  have hc0 : ((c : Int) == 0) = false := by rw [beq_eq_false_iff_ne]; omega
  have hck : (((2 : Int)) != c) = true := by rw [bne_iff_ne]; omega
  clear hc hk
  go_enter Tryz.func50, Tryz.ntmps50
  go_wp2_with fail
  have hr0 := heap_alloc_new w (.cells z7.toArray 89)
  refine (HO.out _).mono ?_
  rintro e w1 ⟨rfl, hb1⟩
  have hr1 : w1.heap[w.heap.size]? = some (.cells z7.toArray 89 (0, 0)) := (hb1.block _ (by simp)).trans hr0
  have hlt : w.heap.size < w1.heap.size := (Array.getElem?_eq_some_iff.1 hr1).1
  have HB1 : Hid (Below w.heap.size w w1) := btr ((Below.refl _ _).alloc (Nat.le_refl _) _) hb1
  clear hr0 hb1
  generalize HT : tab.toArray = TT
  have HH := Lib.hid HT
  clear HT HO
  go_wp2_with (first | (refine wpList_store_row 135 _ _ rfl rfl rfl w1.heap.size 135 rfl tab (congrArg Value.agg HH.out.symm) _ (heap_alloc_new w1 _) (by kernel_rfl) info_tab tab_one ?_; intro w2 hh2 hg2 hz2; have hr2 : w2.heap[w.heap.size]? = some (.cells z7.toArray 89 (0, 0)) := (hg2.block _ (by simp; omega) (by simp; omega)).trans ((Below.heap_alloc w1 _ _ hlt).trans hr1); have HB2 : Hid (Below w.heap.size w w2) := (HB1.out.alloc (by omega) _).grown hg2 (by simp; omega) (fun k hk => by injection hk with hk; omega); clear hz2 hg2 hr1; have c0 : w2.cell? ⟨w1.heap.size, 98, none⟩ = some (.int .i64 2) := (by rw [cell_of_row _ _ _ _ _ _ hh2]; kernel_rfl)) | (refine wpList_store_row 89 _ _ rfl rfl rfl w.heap.size 89 rfl z7 rfl _ hr2 rfl info_op z7_one ?_; intro w3 hh3 hg3 hz3; have HB3 : Hid (Below w.heap.size w w3) := HB2.out.grown hg3 (HB2.out.size) (fun k hk => by injection hk with hk; omega); clear hz3 hg3))
  refine bodyPost_ret (v := .tuple #[.agg z7.toArray, .bool false]) (results_cell_tmp Tryz.results50 _ _ w.heap.size 89 _ (0, 0) _ rfl hh3 Tryz.underlying89 rfl (by rw [info_op]; rfl)) rfl ⟨rfl, HB3.out⟩

set_option maxRecDepth 100000 in
set_option maxHeartbeats 4000000 in
theorem f_no15 (w : World) (c : Int) (hc : 0 < c) (hk : c ≠ 2) :
    Calls Tryz.prog 50 #[.int .i64 15, .int .i64 c] w fun e w' => e = .returned (.tuple #[.agg z7.toArray, .bool false]) ∧ Below w.heap.size w w' := by
  have HO := Lib.hid (fun W => c_operations W)
  have hc0 : ((c : Int) == 0) = false := by rw [beq_eq_false_iff_ne]; omega
  have hck : (((2 : Int)) != c) = true := by rw [bne_iff_ne]; omega
  clear hc hk
  go_enter Tryz.func50, Tryz.ntmps50
  go_wp2_with fail
  have hr0 := heap_alloc_new w (.cells z7.toArray 89)
  refine (HO.out _).mono ?_
  rintro e w1 ⟨rfl, hb1⟩
  have hr1 : w1.heap[w.heap.size]? = some (.cells z7.toArray 89 (0, 0)) := (hb1.block _ (by simp)).trans hr0
  have hlt : w.heap.size < w1.heap.size := (Array.getElem?_eq_some_iff.1 hr1).1
  have HB1 : Hid (Below w.heap.size w w1) := btr ((Below.refl _ _).alloc (Nat.le_refl _) _) hb1
  clear hr0 hb1
  generalize HT : tab.toArray = TT
  have HH := Lib.hid HT
  clear HT HO
  go_wp2_with (first | (refine wpList_store_row 135 _ _ rfl rfl rfl w1.heap.size 135 rfl tab (congrArg Value.agg HH.out.symm) _ (heap_alloc_new w1 _) (by kernel_rfl) info_tab tab_one ?_; intro w2 hh2 hg2 hz2; have hr2 : w2.heap[w.heap.size]? = some (.cells z7.toArray 89 (0, 0)) := (hg2.block _ (by simp; omega) (by simp; omega)).trans ((Below.heap_alloc w1 _ _ hlt).trans hr1); have HB2 : Hid (Below w.heap.size w w2) := (HB1.out.alloc (by omega) _).grown hg2 (by simp; omega) (fun k hk => by injection hk with hk; omega); clear hz2 hg2 hr1; have c0 : w2.cell? ⟨w1.heap.size, 105, none⟩ = some (.int .i64 2) := (by rw [cell_of_row _ _ _ _ _ _ hh2]; kernel_rfl)) | (refine wpList_store_row 89 _ _ rfl rfl rfl w.heap.size 89 rfl z7 rfl _ hr2 rfl info_op z7_one ?_; intro w3 hh3 hg3 hz3; have HB3 : Hid (Below w.heap.size w w3) := HB2.out.grown hg3 (HB2.out.size) (fun k hk => by injection hk with hk; omega); clear hz3 hg3))
  refine bodyPost_ret (v := .tuple #[.agg z7.toArray, .bool false]) (results_cell_tmp Tryz.results50 _ _ w.heap.size 89 _ (0, 0) _ rfl hh3 Tryz.underlying89 rfl (by rw [info_op]; rfl)) rfl ⟨rfl, HB3.out⟩

set_option maxRecDepth 100000 in
set_option maxHeartbeats 4000000 in
theorem f_no16 (w : World) (c : Int) (hc : 0 < c) (hk : c ≠ 2) :
    Calls Tryz.prog 50 #[.int .i64 16, .int .i64 c] w fun e w' => e = .returned (.tuple #[.agg z7.toArray, .bool false]) ∧ Below w.heap.size w w' := by
  have HO := Lib.hid (fun W => c_operations W)
  have hc0 : ((c : Int) == 0) = false := by rw [beq_eq_false_iff_ne]; omega
  have hck : (((2 : Int)) != c) = true := by rw [bne_iff_ne]; omega
  clear hc hk
  go_enter Tryz.func50, Tryz.ntmps50
  go_wp2_with fail
  have hr0 := heap_alloc_new w (.cells z7.toArray 89)
  refine (HO.out _).mono ?_
  rintro e w1 ⟨rfl, hb1⟩
  have hr1 : w1.heap[w.heap.size]? = some (.cells z7.toArray 89 (0, 0)) := (hb1.block _ (by simp)).trans hr0
  have hlt : w.heap.size < w1.heap.size := (Array.getElem?_eq_some_iff.1 hr1).1
  have HB1 : Hid (Below w.heap.size w w1) := btr ((Below.refl _ _).alloc (Nat.le_refl _) _) hb1
  clear hr0 hb1
  generalize HT : tab.toArray = TT
  have HH := Lib.hid HT
  clear HT HO
  go_wp2_with (first | (refine wpList_store_row 135 _ _ rfl rfl rfl w1.heap.size 135 rfl tab (congrArg Value.agg HH.out.symm) _ (heap_alloc_new w1 _) (by kernel_rfl) info_tab tab_one ?_; intro w2 hh2 hg2 hz2; have hr2 : w2.heap[w.heap.size]? = some (.cells z7.toArray 89 (0, 0)) := (hg2.block _ (by simp; omega) (by simp; omega)).trans ((Below.heap_alloc w1 _ _ hlt).trans hr1); have HB2 : Hid (Below w.heap.size w w2) := (HB1.out.alloc (by omega) _).grown hg2 (by simp; omega) (fun k hk => by injection hk with hk; omega); clear hz2 hg2 hr1; have c0 : w2.cell? ⟨w1.heap.size, 112, none⟩ = some (.int .i64 2) := (by rw [cell_of_row _ _ _ _ _ _ hh2]; kernel_rfl)) | (refine wpList_store_row 89 _ _ rfl rfl rfl w.heap.size 89 rfl z7 rfl _ hr2 rfl info_op z7_one ?_; intro w3 hh3 hg3 hz3; have HB3 : Hid (Below w.heap.size w w3) := HB2.out.grown hg3 (HB2.out.size) (fun k hk => by injection hk with hk; omega); clear hz3 hg3))
  refine bodyPost_ret (v := .tuple #[.agg z7.toArray, .bool false]) (results_cell_tmp Tryz.results50 _ _ w.heap.size 89 _ (0, 0) _ rfl hh3 Tryz.underlying89 rfl (by rw [info_op]; rfl)) rfl ⟨rfl, HB3.out⟩

set_option maxRecDepth 100000 in
set_option maxHeartbeats 4000000 in
theorem f_no17 (w : World) (c : Int) (hc : 0 < c) (hk : c ≠ 2) :
    Calls Tryz.prog 50 #[.int .i64 17, .int .i64 c] w fun e w' => e = .returned (.tuple #[.agg z7.toArray, .bool false]) ∧ Below w.heap.size w w' := by
  have HO := Lib.hid (fun W => c_operations W)
  have hc0 : ((c : Int) == 0) = false := by rw [beq_eq_false_iff_ne]; omega
  have hck : (((2 : Int)) != c) = true := by rw [bne_iff_ne]; omega
  clear hc hk
  go_enter Tryz.func50, Tryz.ntmps50
  go_wp2_with fail
  have hr0 := heap_alloc_new w (.cells z7.toArray 89)
  refine (HO.out _).mono ?_
  rintro e w1 ⟨rfl, hb1⟩
  have hr1 : w1.heap[w.heap.size]? = some (.cells z7.toArray 89 (0, 0)) := (hb1.block _ (by simp)).trans hr0
  have hlt : w.heap.size < w1.heap.size := (Array.getElem?_eq_some_iff.1 hr1).1
  have HB1 : Hid (Below w.heap.size w w1) := btr ((Below.refl _ _).alloc (Nat.le_refl _) _) hb1
  clear hr0 hb1
  generalize HT : tab.toArray = TT
  have HH := Lib.hid HT
  clear HT HO
  go_wp2_with (first | (refine wpList_store_row 135 _ _ rfl rfl rfl w1.heap.size 135 rfl tab (congrArg Value.agg HH.out.symm) _ (heap_alloc_new w1 _) (by kernel_rfl) info_tab tab_one ?_; intro w2 hh2 hg2 hz2; have hr2 : w2.heap[w.heap.size]? = some (.cells z7.toArray 89 (0, 0)) := (hg2.block _ (by simp; omega) (by simp; omega)).trans ((Below.heap_alloc w1 _ _ hlt).trans hr1); have HB2 : Hid (Below w.heap.size w w2) := (HB1.out.alloc (by omega) _).grown hg2 (by simp; omega) (fun k hk => by injection hk with hk; omega); clear hz2 hg2 hr1; have c0 : w2.cell? ⟨w1.heap.size, 119, none⟩ = some (.int .i64 2) := (by rw [cell_of_row _ _ _ _ _ _ hh2]; kernel_rfl)) | (refine wpList_store_row 89 _ _ rfl rfl rfl w.heap.size 89 rfl z7 rfl _ hr2 rfl info_op z7_one ?_; intro w3 hh3 hg3 hz3; have HB3 : Hid (Below w.heap.size w w3) := HB2.out.grown hg3 (HB2.out.size) (fun k hk => by injection hk with hk; omega); clear hz3 hg3))
  refine bodyPost_ret (v := .tuple #[.agg z7.toArray, .bool false]) (results_cell_tmp Tryz.results50 _ _ w.heap.size 89 _ (0, 0) _ rfl hh3 Tryz.underlying89 rfl (by rw [info_op]; rfl)) rfl ⟨rfl, HB3.out⟩

set_option maxRecDepth 100000 in
set_option maxHeartbeats 4000000 in
theorem f_no18 (w : World) (c : Int) (hc : 0 < c) (hk : c ≠ 2) :
    Calls Tryz.prog 50 #[.int .i64 18, .int .i64 c] w fun e w' => e = .returned (.tuple #[.agg z7.toArray, .bool false]) ∧ Below w.heap.size w w' := by
  have HO := Lib.hid (fun W => c_operations W)
  have hc0 : ((c : Int) == 0) = false := by rw [beq_eq_false_iff_ne]; omega
  have hck : (((2 : Int)) != c) = true := by rw [bne_iff_ne]; omega
  clear hc hk
  go_enter Tryz.func50, Tryz.ntmps50
  go_wp2_with fail
  have hr0 := heap_alloc_new w (.cells z7.toArray 89)
  refine (HO.out _).mono ?_
  rintro e w1 ⟨rfl, hb1⟩
  have hr1 : w1.heap[w.heap.size]? = some (.cells z7.toArray 89 (0, 0)) := (hb1.block _ (by simp)).trans hr0
  have hlt : w.heap.size < w1.heap.size := (Array.getElem?_eq_some_iff.1 hr1).1
  have HB1 : Hid (Below w.heap.size w w1) := btr ((Below.refl _ _).alloc (Nat.le_refl _) _) hb1
  clear hr0 hb1
  generalize HT : tab.toArray = TT
  have HH := Lib.hid HT
  clear HT HO
  go_wp2_with (first | (refine wpList_store_row 135 _ _ rfl rfl rfl w1.heap.size 135 rfl tab (congrArg Value.agg HH.out.symm) _ (heap_alloc_new w1 _) (by kernel_rfl) info_tab tab_one ?_; intro w2 hh2 hg2 hz2; have hr2 : w2.heap[w.heap.size]? = some (.cells z7.toArray 89 (0, 0)) := (hg2.block _ (by simp; omega) (by simp; omega)).trans ((Below.heap_alloc w1 _ _ hlt).trans hr1); have HB2 : Hid (Below w.heap.size w w2) := (HB1.out.alloc (by omega) _).grown hg2 (by simp; omega) (fun k hk => by injection hk with hk; omega); clear hz2 hg2 hr1; have c0 : w2.cell? ⟨w1.heap.size, 126, none⟩ = some (.int .i64 2) := (by rw [cell_of_row _ _ _ _ _ _ hh2]; kernel_rfl)) | (refine wpList_store_row 89 _ _ rfl rfl rfl w.heap.size 89 rfl z7 rfl _ hr2 rfl info_op z7_one ?_; intro w3 hh3 hg3 hz3; have HB3 : Hid (Below w.heap.size w w3) := HB2.out.grown hg3 (HB2.out.size) (fun k hk => by injection hk with hk; omega); clear hz3 hg3))
  refine bodyPost_ret (v := .tuple #[.agg z7.toArray, .bool false]) (results_cell_tmp Tryz.results50 _ _ w.heap.size 89 _ (0, 0) _ rfl hh3 Tryz.underlying89 rfl (by rw [info_op]; rfl)) rfl ⟨rfl, HB3.out⟩

set_option maxRecDepth 100000 in
set_option maxHeartbeats 4000000 in
theorem f_no19 (w : World) (c : Int) (hc : 0 < c) (hk : c ≠ 2) :
    Calls Tryz.prog 50 #[.int .i64 19, .int .i64 c] w fun e w' => e = .returned (.tuple #[.agg z7.toArray, .bool false]) ∧ Below w.heap.size w w' := by
  have HO := Lib.hid (fun W => c_operations W)
  have hc0 : ((c : Int) == 0) = false := by rw [beq_eq_false_iff_ne]; omega
  have hck : (((2 : Int)) != c) = true := by rw [bne_iff_ne]; omega
  clear hc hk
  go_enter Tryz.func50, Tryz.ntmps50
  go_wp2_with fail
  have hr0 := heap_alloc_new w (.cells z7.toArray 89)
  refine (HO.out _).mono ?_
  rintro e w1 ⟨rfl, hb1⟩
  have hr1 : w1.heap[w.heap.size]? = some (.cells z7.toArray 89 (0, 0)) := (hb1.block _ (by simp)).trans hr0
  have hlt : w.heap.size < w1.heap.size := (Array.getElem?_eq_some_iff.1 hr1).1
  have HB1 : Hid (Below w.heap.size w w1) := btr ((Below.refl _ _).alloc (Nat.le_refl _) _) hb1
  clear hr0 hb1
  generalize HT : tab.toArray = TT
  have HH := Lib.hid HT
  clear HT HO
  go_wp2_with (first | (refine wpList_store_row 135 _ _ rfl rfl rfl w1.heap.size 135 rfl tab (congrArg Value.agg HH.out.symm) _ (heap_alloc_new w1 _) (by kernel_rfl) info_tab tab_one ?_; intro w2 hh2 hg2 hz2; have hr2 : w2.heap[w.heap.size]? = some (.cells z7.toArray 89 (0, 0)) := (hg2.block _ (by simp; omega) (by simp; omega)).trans ((Below.heap_alloc w1 _ _ hlt).trans hr1); have HB2 : Hid (Below w.heap.size w w2) := (HB1.out.alloc (by omega) _).grown hg2 (by simp; omega) (fun k hk => by injection hk with hk; omega); clear hz2 hg2 hr1; have c0 : w2.cell? ⟨w1.heap.size, 133, none⟩ = some (.int .i64 2) := (by rw [cell_of_row _ _ _ _ _ _ hh2]; kernel_rfl)) | (refine wpList_store_row 89 _ _ rfl rfl rfl w.heap.size 89 rfl z7 rfl _ hr2 rfl info_op z7_one ?_; intro w3 hh3 hg3 hz3; have HB3 : Hid (Below w.heap.size w w3) := HB2.out.grown hg3 (HB2.out.size) (fun k hk => by injection hk with hk; omega); clear hz3 hg3))
  refine bodyPost_ret (v := .tuple #[.agg z7.toArray, .bool false]) (results_cell_tmp Tryz.results50 _ _ w.heap.size 89 _ (0, 0) _ rfl hh3 Tryz.underlying89 rfl (by rw [info_op]; rfl)) rfl ⟨rfl, HB3.out⟩

set_option maxRecDepth 100000 in
set_option maxHeartbeats 4000000 in
theorem f_no20 (w : World) (c : Int) (hc : 0 < c) (hk : c ≠ 2) :
    Calls Tryz.prog 50 #[.int .i64 20, .int .i64 c] w fun e w' => e = .returned (.tuple #[.agg z7.toArray, .bool false]) ∧ Below w.heap.size w w' := by
  have HO := Lib.hid (fun W => c_operations W)
  have hc0 : ((c : Int) == 0) = false := by rw [beq_eq_false_iff_ne]; omega
  have hck : (((2 : Int)) != c) = true := by rw [bne_iff_ne]; omega
  clear hc hk
  go_enter Tryz.func50, Tryz.ntmps50
  go_wp2_with fail
  have hr0 := heap_alloc_new w (.cells z7.toArray 89)
  refine (HO.out _).mono ?_
  rintro e w1 ⟨rfl, hb1⟩
  have hr1 : w1.heap[w.heap.size]? = some (.cells z7.toArray 89 (0, 0)) := (hb1.block _ (by simp)).trans hr0
  have hlt : w.heap.size < w1.heap.size := (Array.getElem?_eq_some_iff.1 hr1).1
  have HB1 : Hid (Below w.heap.size w w1) := btr ((Below.refl _ _).alloc (Nat.le_refl _) _) hb1
  clear hr0 hb1
  generalize HT : tab.toArray = TT
  have HH := Lib.hid HT
  clear HT HO
  go_wp2_with (first | (refine wpList_store_row 135 _ _ rfl rfl rfl w1.heap.size 135 rfl tab (congrArg Value.agg HH.out.symm) _ (heap_alloc_new w1 _) (by kernel_rfl) info_tab tab_one ?_; intro w2 hh2 hg2 hz2; have hr2 : w2.heap[w.heap.size]? = some (.cells z7.toArray 89 (0, 0)) := (hg2.block _ (by simp; omega) (by simp; omega)).trans ((Below.heap_alloc w1 _ _ hlt).trans hr1); have HB2 : Hid (Below w.heap.size w w2) := (HB1.out.alloc (by omega) _).grown hg2 (by simp; omega) (fun k hk => by injection hk with hk; omega); clear hz2 hg2 hr1; have c0 : w2.cell? ⟨w1.heap.size, 140, none⟩ = some (.int .i64 2) := (by rw [cell_of_row _ _ _ _ _ _ hh2]; kernel_rfl)) | (refine wpList_store_row 89 _ _ rfl rfl rfl w.heap.size 89 rfl z7 rfl _ hr2 rfl info_op z7_one ?_; intro w3 hh3 hg3 hz3; have HB3 : Hid (Below w.heap.size w w3) := HB2.out.grown hg3 (HB2.out.size) (fun k hk => by injection hk with hk; omega); clear hz3 hg3))
  refine bodyPost_ret (v := .tuple #[.agg z7.toArray, .bool false]) (results_cell_tmp Tryz.results50 _ _ w.heap.size 89 _ (0, 0) _ rfl hh3 Tryz.underlying89 rfl (by rw [info_op]; rfl)) rfl ⟨rfl, HB3.out⟩

set_option maxRecDepth 100000 in
set_option maxHeartbeats 4000000 in
theorem f_no21 (w : World) (c : Int) (hc : 0 < c) (hk : c ≠ 2) :
    Calls Tryz.prog 50 #[.int .i64 21, .int .i64 c] w fun e w' => e = .returned (.tuple #[.agg z7.toArray, .bool false]) ∧ Below w.heap.size w w' := by
  have HO := Lib.hid (fun W => c_operations W)
  have hc0 : ((c : Int) == 0) = false := by rw [beq_eq_false_iff_ne]; omega
  have hck : (((2 : Int)) != c) = true := by rw [bne_iff_ne]; omega
  clear hc hk
  go_enter Tryz.func50, Tryz.ntmps50
  go_wp2_with fail
  have hr0 := heap_alloc_new w (.cells z7.toArray 89)
  refine (HO.out _).mono ?_
  rintro e w1 ⟨rfl, hb1⟩
  have hr1 : w1.heap[w.heap.size]? = some (.cells z7.toArray 89 (0, 0)) := (hb1.block _ (by simp)).trans hr0
  have hlt : w.heap.size < w1.heap.size := (Array.getElem?_eq_some_iff.1 hr1).1
  have HB1 : Hid (Below w.heap.size w w1) := btr ((Below.refl _ _).alloc (Nat.le_refl _) _) hb1
  clear hr0 hb1
  generalize HT : tab.toArray = TT
  have HH := Lib.hid HT
  clear HT HO
  go_wp2_with (first | (refine wpList_store_row 135 _ _ rfl rfl rfl w1.heap.size 135 rfl tab (congrArg Value.agg HH.out.symm) _ (heap_alloc_new w1 _) (by kernel_rfl) info_tab tab_one ?_; intro w2 hh2 hg2 hz2; have hr2 : w2.heap[w.heap.size]? = some (.cells z7.toArray 89 (0, 0)) := (hg2.block _ (by simp; omega) (by simp; omega)).trans ((Below.heap_alloc w1 _ _ hlt).trans hr1); have HB2 : Hid (Below w.heap.size w w2) := (HB1.out.alloc (by omega) _).grown hg2 (by simp; omega) (fun k hk => by injection hk with hk; omega); clear hz2 hg2 hr1; have c0 : w2.cell? ⟨w1.heap.size, 147, none⟩ = some (.int .i64 2) := (by rw [cell_of_row _ _ _ _ _ _ hh2]; kernel_rfl)) | (refine wpList_store_row 89 _ _ rfl rfl rfl w.heap.size 89 rfl z7 rfl _ hr2 rfl info_op z7_one ?_; intro w3 hh3 hg3 hz3; have HB3 : Hid (Below w.heap.size w w3) := HB2.out.grown hg3 (HB2.out.size) (fun k hk => by injection hk with hk; omega); clear hz3 hg3))
  refine bodyPost_ret (v := .tuple #[.agg z7.toArray, .bool false]) (results_cell_tmp Tryz.results50 _ _ w.heap.size 89 _ (0, 0) _ rfl hh3 Tryz.underlying89 rfl (by rw [info_op]; rfl)) rfl ⟨rfl, HB3.out⟩

set_option maxRecDepth 100000 in
set_option maxHeartbeats 4000000 in
theorem f_no22 (w : World) (c : Int) (hc : 0 < c) (hk : c ≠ 3) :
    Calls Tryz.prog 50 #[.int .i64 22, .int .i64 c] w fun e w' => e = .returned (.tuple #[.agg z7.toArray, .bool false]) ∧ Below w.heap.size w w' := by
  have HO := Lib.hid (fun W => c_operations W)
  have hc0 : ((c : Int) == 0) = false := by rw [beq_eq_false_iff_ne]; omega
  have hck : (((3 : Int)) != c) = true := by rw [bne_iff_ne]; omega
  clear hc hk
  go_enter Tryz.func50, Tryz.ntmps50
  go_wp2_with fail
  have hr0 := heap_alloc_new w (.cells z7.toArray 89)
  refine (HO.out _).mono ?_
  rintro e w1 ⟨rfl, hb1⟩
  have hr1 : w1.heap[w.heap.size]? = some (.cells z7.toArray 89 (0, 0)) := (hb1.block _ (by simp)).trans hr0
  have hlt : w.heap.size < w1.heap.size := (Array.getElem?_eq_some_iff.1 hr1).1
  have HB1 : Hid (Below w.heap.size w w1) := btr ((Below.refl _ _).alloc (Nat.le_refl _) _) hb1
  clear hr0 hb1
  generalize HT : tab.toArray = TT
  have HH := Lib.hid HT
  clear HT HO
  go_wp2_with (first | (refine wpList_store_row 135 _ _ rfl rfl rfl w1.heap.size 135 rfl tab (congrArg Value.agg HH.out.symm) _ (heap_alloc_new w1 _) (by kernel_rfl) info_tab tab_one ?_; intro w2 hh2 hg2 hz2; have hr2 : w2.heap[w.heap.size]? = some (.cells z7.toArray 89 (0, 0)) := (hg2.block _ (by simp; omega) (by simp; omega)).trans ((Below.heap_alloc w1 _ _ hlt).trans hr1); have HB2 : Hid (Below w.heap.size w w2) := (HB1.out.alloc (by omega) _).grown hg2 (by simp; omega) (fun k hk => by injection hk with hk; omega); clear hz2 hg2 hr1; have c0 : w2.cell? ⟨w1.heap.size, 154, none⟩ = some (.int .i64 3) := (by rw [cell_of_row _ _ _ _ _ _ hh2]; kernel_rfl)) | (refine wpList_store_row 89 _ _ rfl rfl rfl w.heap.size 89 rfl z7 rfl _ hr2 rfl info_op z7_one ?_; intro w3 hh3 hg3 hz3; have HB3 : Hid (Below w.heap.size w w3) := HB2.out.grown hg3 (HB2.out.size) (fun k hk => by injection hk with hk; omega); clear hz3 hg3))
  refine bodyPost_ret (v := .tuple #[.agg z7.toArray, .bool false]) (results_cell_tmp Tryz.results50 _ _ w.heap.size 89 _ (0, 0) _ rfl hh3 Tryz.underlying89 rfl (by rw [info_op]; rfl)) rfl ⟨rfl, HB3.out⟩

/-- How many operands an operation has; 0 for what is none. -/
def opn (op : Int) : Int := if 4 ≤ op ∧ op ≤ 8 then 1 else if 9 ≤ op ∧ op ≤ 21 then 2 else if op = 22 then 3 else 0
theorem f_none (w : World) (op c : Int) (hc : 0 ≤ c) (h : opn op = 0 ∨ opn op ≠ c) :
    Calls Tryz.prog 50 #[.int .i64 op, .int .i64 c] w fun e w' => e = .returned (.tuple #[.agg z7.toArray, .bool false]) ∧ Below w.heap.size w w' := by
  by_cases h1 : op < 0
  · exact f_bad w op c (.inl h1)
  by_cases h2 : 23 ≤ op
  · exact f_bad w op c (.inr (.inl ⟨by omega, h2⟩))
  by_cases h3 : c = 0
  · exact f_bad w op c (.inr (.inr ⟨by omega, by omega, h3⟩))
  have hk : op = 0 ∨ op = 1 ∨ op = 2 ∨ op = 3 ∨ op = 4 ∨ op = 5 ∨ op = 6 ∨ op = 7 ∨ op = 8 ∨ op = 9 ∨ op = 10 ∨ op = 11 ∨ op = 12 ∨ op = 13 ∨ op = 14 ∨ op = 15 ∨ op = 16 ∨ op = 17 ∨ op = 18 ∨ op = 19 ∨ op = 20 ∨ op = 21 ∨ op = 22 := by omega
  rcases hk with rfl | rfl | rfl | rfl | rfl | rfl | rfl | rfl | rfl | rfl | rfl | rfl | rfl | rfl | rfl | rfl | rfl | rfl | rfl | rfl | rfl | rfl | rfl
  · exact f_no0 w c (by omega) (by unfold opn at h; simp at h; omega)
  · exact f_no1 w c (by omega) (by unfold opn at h; simp at h; omega)
  · exact f_no2 w c (by omega) (by unfold opn at h; simp at h; omega)
  · exact f_no3 w c (by omega) (by unfold opn at h; simp at h; omega)
  · exact f_no4 w c (by omega) (by unfold opn at h; simp at h; omega)
  · exact f_no5 w c (by omega) (by unfold opn at h; simp at h; omega)
  · exact f_no6 w c (by omega) (by unfold opn at h; simp at h; omega)
  · exact f_no7 w c (by omega) (by unfold opn at h; simp at h; omega)
  · exact f_no8 w c (by omega) (by unfold opn at h; simp at h; omega)
  · exact f_no9 w c (by omega) (by unfold opn at h; simp at h; omega)
  · exact f_no10 w c (by omega) (by unfold opn at h; simp at h; omega)
  · exact f_no11 w c (by omega) (by unfold opn at h; simp at h; omega)
  · exact f_no12 w c (by omega) (by unfold opn at h; simp at h; omega)
  · exact f_no13 w c (by omega) (by unfold opn at h; simp at h; omega)
  · exact f_no14 w c (by omega) (by unfold opn at h; simp at h; omega)
  · exact f_no15 w c (by omega) (by unfold opn at h; simp at h; omega)
  · exact f_no16 w c (by omega) (by unfold opn at h; simp at h; omega)
  · exact f_no17 w c (by omega) (by unfold opn at h; simp at h; omega)
  · exact f_no18 w c (by omega) (by unfold opn at h; simp at h; omega)
  · exact f_no19 w c (by omega) (by unfold opn at h; simp at h; omega)
  · exact f_no20 w c (by omega) (by unfold opn at h; simp at h; omega)
  · exact f_no21 w c (by omega) (by unfold opn at h; simp at h; omega)
  · exact f_no22 w c (by omega) (by unfold opn at h; simp at h; omega)
end Go.Proofs.YthppcklegdnjdaaGreatDoor
end

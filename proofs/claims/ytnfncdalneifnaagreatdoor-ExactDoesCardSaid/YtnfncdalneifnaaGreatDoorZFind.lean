/- Finding an operation by its number and its number of operands. -/
import Derived.Test.YtnfncdalneifnaaGreatDoorZOps
namespace Go.Proofs.YtnfncdalneifnaaGreatDoor
open Go.RowKit Go.Deep

theorem results_cell_tmp {P : Program} {fn : Func} {p q : Tmp} {ty : TypeId} (h : fn.results = #[.cell p ty, .tmp q]) (tmps : Array Value) (w : World) (g : Nat) (t : TypeId) (cs : Array Value) (fr : Nat × Nat) (d : TypeDesc)
    (hp : tmps.getD p undef = .pointer (some ⟨g, 0, none⟩)) (hg : w.heap[g]? = some (.cells cs t fr))
    (hu : P.underlying ty = some d) (hd : (match d with | .struct _ | .array _ _ => true | _ => false) = true) (hi : (P.info? ty).map (·.size) = some cs.size) :
    (results fn tmps).run P w = .ok (.tuple #[.agg cs, tmps.getD q undef]) w := by
  have hp' : tmps[p]?.getD undef = .pointer (some ⟨g, 0, none⟩) := by simpa using hp
  simp [results, h, hp', asAddr, run_loadVar_row w g t ty cs fr d hg hu hd hi]
theorem info_op : (Tryz.prog.info? 53).map (·.size) = some 7 := by kernel_rfl
theorem o7_one (c n1 n2 n3 r : Int) (l : Bool) (f : Nat) : ∀ v ∈ o7 c n1 n2 n3 r l f, v.oneCell' = true := by
  intro v hv
  simp only [o7, List.mem_cons, List.not_mem_nil, or_false] at hv
  rcases hv with rfl | rfl | rfl | rfl | rfl | rfl | rfl <;> rfl
theorem z7_one : ∀ v ∈ z7, v.oneCell' = true := by
  intro v hv
  simp only [z7, List.mem_cons, List.not_mem_nil, or_false] at hv
  rcases hv with rfl | rfl | rfl | rfl | rfl | rfl | rfl <;> rfl

/-- What an operation's row of the table is. -/
def opRow : List (Int × Int × List Value) := [(4, 1, o7 1 2 0 0 1 false 110), (5, 1, o7 1 3 0 0 0 false 111), (6, 1, o7 1 3 0 0 2 false 114), (7, 1, o7 1 1 0 0 1 true 115), (8, 1, o7 1 1 0 0 2 true 116), (9, 2, o7 2 3 3 0 0 false 117), (10, 2, o7 2 3 3 0 0 false 118), (11, 2, o7 2 3 3 0 0 false 119), (12, 2, o7 2 3 3 0 3 false 121), (13, 2, o7 2 4 4 0 1 false 122), (14, 2, o7 2 4 4 0 1 false 123), (15, 2, o7 2 4 4 0 1 false 124), (16, 2, o7 2 4 4 0 1 false 125), (17, 2, o7 2 4 4 0 1 false 126), (18, 2, o7 2 4 4 0 1 false 127), (19, 2, o7 2 2 2 0 1 true 128), (20, 2, o7 2 2 2 0 1 true 130), (21, 2, o7 2 4 4 0 0 true 131), (22, 3, o7 3 2 4 4 0 true 133)]
theorem row_of (p0 p1 p2 p3 p4 p5 p6 : Nat) (c n1 n2 n3 r : Int) (l : Bool) (f : Nat) (h : [tab.toArray[p0]?, tab.toArray[p1]?, tab.toArray[p2]?, tab.toArray[p3]?, tab.toArray[p4]?, tab.toArray[p5]?, tab.toArray[p6]?] = (o7 c n1 n2 n3 r l f).map some) : Hid (∀ (W : World) (g : Nat), W.heap[g]? = some (.cells tab.toArray 96 (0, 0)) → W.cell? ⟨g, p0, none⟩ = some (.int .i64 c) ∧ W.cell? ⟨g, p1, none⟩ = some (.int .i64 n1) ∧ W.cell? ⟨g, p2, none⟩ = some (.int .i64 n2) ∧ W.cell? ⟨g, p3, none⟩ = some (.int .i64 n3) ∧ W.cell? ⟨g, p4, none⟩ = some (.int .i64 r) ∧ W.cell? ⟨g, p5, none⟩ = some (.bool l) ∧ W.cell? ⟨g, p6, none⟩ = some (.func (.func f) #[] #[])) := by
  simp only [o7, List.map, List.cons.injEq] at h
  intro W g hg
  simp only [cell_of_row _ _ _ _ _ _ hg]
  exact ⟨h.1, h.2.1, h.2.2.1, h.2.2.2.1, h.2.2.2.2.1, h.2.2.2.2.2.1, h.2.2.2.2.2.2.1⟩

set_option maxRecDepth 100000 in
set_option maxHeartbeats 40000000 in
theorem f_ops (w : World) (op c : Int) (L : List Value) (h : (op, c, L) ∈ opRow) :
    Calls Tryz.prog 23 #[.int .i64 op, .int .i64 c] w fun e w' => e = .returned (.tuple #[.agg L.toArray, .bool true]) ∧ Below w.heap.size w w' := by
  have HO := Lib.hid (fun W => c_operations W)
  simp only [opRow, List.mem_cons, Prod.mk.injEq, List.not_mem_nil, or_false] at h
  rcases h with ⟨rfl, rfl, rfl⟩ | ⟨rfl, rfl, rfl⟩ | ⟨rfl, rfl, rfl⟩ | ⟨rfl, rfl, rfl⟩ | ⟨rfl, rfl, rfl⟩ | ⟨rfl, rfl, rfl⟩ | ⟨rfl, rfl, rfl⟩ | ⟨rfl, rfl, rfl⟩ | ⟨rfl, rfl, rfl⟩ | ⟨rfl, rfl, rfl⟩ | ⟨rfl, rfl, rfl⟩ | ⟨rfl, rfl, rfl⟩ | ⟨rfl, rfl, rfl⟩ | ⟨rfl, rfl, rfl⟩ | ⟨rfl, rfl, rfl⟩ | ⟨rfl, rfl, rfl⟩ | ⟨rfl, rfl, rfl⟩ | ⟨rfl, rfl, rfl⟩ | ⟨rfl, rfl, rfl⟩
  have HC := row_of 28 29 30 31 32 33 34 1 2 0 0 1 false 110 (by kernel_rfl)
  rotate_left
  have HC := row_of 35 36 37 38 39 40 41 1 3 0 0 0 false 111 (by kernel_rfl)
  rotate_left
  have HC := row_of 42 43 44 45 46 47 48 1 3 0 0 2 false 114 (by kernel_rfl)
  rotate_left
  have HC := row_of 49 50 51 52 53 54 55 1 1 0 0 1 true 115 (by kernel_rfl)
  rotate_left
  have HC := row_of 56 57 58 59 60 61 62 1 1 0 0 2 true 116 (by kernel_rfl)
  rotate_left
  have HC := row_of 63 64 65 66 67 68 69 2 3 3 0 0 false 117 (by kernel_rfl)
  rotate_left
  have HC := row_of 70 71 72 73 74 75 76 2 3 3 0 0 false 118 (by kernel_rfl)
  rotate_left
  have HC := row_of 77 78 79 80 81 82 83 2 3 3 0 0 false 119 (by kernel_rfl)
  rotate_left
  have HC := row_of 84 85 86 87 88 89 90 2 3 3 0 3 false 121 (by kernel_rfl)
  rotate_left
  have HC := row_of 91 92 93 94 95 96 97 2 4 4 0 1 false 122 (by kernel_rfl)
  rotate_left
  have HC := row_of 98 99 100 101 102 103 104 2 4 4 0 1 false 123 (by kernel_rfl)
  rotate_left
  have HC := row_of 105 106 107 108 109 110 111 2 4 4 0 1 false 124 (by kernel_rfl)
  rotate_left
  have HC := row_of 112 113 114 115 116 117 118 2 4 4 0 1 false 125 (by kernel_rfl)
  rotate_left
  have HC := row_of 119 120 121 122 123 124 125 2 4 4 0 1 false 126 (by kernel_rfl)
  rotate_left
  have HC := row_of 126 127 128 129 130 131 132 2 4 4 0 1 false 127 (by kernel_rfl)
  rotate_left
  have HC := row_of 133 134 135 136 137 138 139 2 2 2 0 1 true 128 (by kernel_rfl)
  rotate_left
  have HC := row_of 140 141 142 143 144 145 146 2 2 2 0 1 true 130 (by kernel_rfl)
  rotate_left
  have HC := row_of 147 148 149 150 151 152 153 2 4 4 0 0 true 131 (by kernel_rfl)
  rotate_left
  have HC := row_of 154 155 156 157 158 159 160 3 2 4 4 0 true 133 (by kernel_rfl)
  rotate_left
  all_goals
    go_enter Tryz.func23, Tryz.ntmps23
    go_wp2_with fail
    have hr0 := heap_alloc_new w (.cells z7.toArray 53)
    refine (HO.out _).mono ?_
    rintro e w1 ⟨rfl, hb1⟩
    have hr1 : w1.heap[w.heap.size]? = some (.cells z7.toArray 53 (0, 0)) := (hb1.block _ (by simp)).trans hr0
    have hlt : w.heap.size < w1.heap.size := (Array.getElem?_eq_some_iff.1 hr1).1
    have HB1 : Hid (Below w.heap.size w w1) := btr ((Below.refl _ _).alloc (Nat.le_refl _) _) hb1
    clear hr0 hb1
    generalize HT : tab.toArray = TT
    have HH := Lib.hid HT
    clear HT HO
    go_wp2_with (first | (refine wpList_store_row 96 _ _ rfl rfl rfl w1.heap.size 96 rfl tab (congrArg Value.agg HH.out.symm) _ (heap_alloc_new w1 _) (by kernel_rfl) info_tab tab_one ?_; intro w2 hh2 hg2 hz2; have hr2 : w2.heap[w.heap.size]? = some (.cells z7.toArray 53 (0, 0)) := (hg2.block _ (by simp; omega) (by simp; omega)).trans ((Below.heap_alloc w1 _ _ hlt).trans hr1); have HB2 : Hid (Below w.heap.size w w2) := (HB1.out.alloc (by omega) _).grown hg2 (by simp; omega) (fun k hk => by injection hk with hk; omega); clear hz2 hg2 hr1; obtain ⟨c0, c1, c2, c3, c4, c5, c6⟩ := HC.out _ _ hh2) | (refine wpList_store_row 53 _ _ rfl rfl rfl w.heap.size 53 rfl (o7 _ _ _ _ _ _ _) rfl _ hr2 rfl info_op (o7_one _ _ _ _ _ _ _) ?_; intro w3 hh3 hg3 hz3; have HB3 : Hid (Below w.heap.size w w3) := HB2.out.grown hg3 (HB2.out.size) (fun k hk => by injection hk with hk; omega); clear hz3 hg3))
    refine bodyPost_ret (v := .tuple #[.agg (o7 _ _ _ _ _ _ _).toArray, .bool true]) (results_cell_tmp Tryz.results23 _ _ w.heap.size 53 _ (0, 0) _ rfl hh3 Tryz.underlying53 rfl (by rw [info_op]; rfl)) rfl ⟨rfl, HB3.out⟩
theorem f_op4 (w : World) : Calls Tryz.prog 23 #[.int .i64 4, .int .i64 1] w fun e w' => e = .returned (.tuple #[.agg (o7 1 2 0 0 1 false 110).toArray, .bool true]) ∧ Below w.heap.size w w' := f_ops w _ _ _ (.head _)
theorem f_op5 (w : World) : Calls Tryz.prog 23 #[.int .i64 5, .int .i64 1] w fun e w' => e = .returned (.tuple #[.agg (o7 1 3 0 0 0 false 111).toArray, .bool true]) ∧ Below w.heap.size w w' := f_ops w _ _ _ (.tail _ (.head _))
theorem f_op6 (w : World) : Calls Tryz.prog 23 #[.int .i64 6, .int .i64 1] w fun e w' => e = .returned (.tuple #[.agg (o7 1 3 0 0 2 false 114).toArray, .bool true]) ∧ Below w.heap.size w w' := f_ops w _ _ _ (.tail _ (.tail _ (.head _)))
theorem f_op7 (w : World) : Calls Tryz.prog 23 #[.int .i64 7, .int .i64 1] w fun e w' => e = .returned (.tuple #[.agg (o7 1 1 0 0 1 true 115).toArray, .bool true]) ∧ Below w.heap.size w w' := f_ops w _ _ _ (.tail _ (.tail _ (.tail _ (.head _))))
theorem f_op8 (w : World) : Calls Tryz.prog 23 #[.int .i64 8, .int .i64 1] w fun e w' => e = .returned (.tuple #[.agg (o7 1 1 0 0 2 true 116).toArray, .bool true]) ∧ Below w.heap.size w w' := f_ops w _ _ _ (.tail _ (.tail _ (.tail _ (.tail _ (.head _)))))
theorem f_op9 (w : World) : Calls Tryz.prog 23 #[.int .i64 9, .int .i64 2] w fun e w' => e = .returned (.tuple #[.agg (o7 2 3 3 0 0 false 117).toArray, .bool true]) ∧ Below w.heap.size w w' := f_ops w _ _ _ (.tail _ (.tail _ (.tail _ (.tail _ (.tail _ (.head _))))))
theorem f_op10 (w : World) : Calls Tryz.prog 23 #[.int .i64 10, .int .i64 2] w fun e w' => e = .returned (.tuple #[.agg (o7 2 3 3 0 0 false 118).toArray, .bool true]) ∧ Below w.heap.size w w' := f_ops w _ _ _ (.tail _ (.tail _ (.tail _ (.tail _ (.tail _ (.tail _ (.head _)))))))
theorem f_op11 (w : World) : Calls Tryz.prog 23 #[.int .i64 11, .int .i64 2] w fun e w' => e = .returned (.tuple #[.agg (o7 2 3 3 0 0 false 119).toArray, .bool true]) ∧ Below w.heap.size w w' := f_ops w _ _ _ (.tail _ (.tail _ (.tail _ (.tail _ (.tail _ (.tail _ (.tail _ (.head _))))))))
theorem f_op12 (w : World) : Calls Tryz.prog 23 #[.int .i64 12, .int .i64 2] w fun e w' => e = .returned (.tuple #[.agg (o7 2 3 3 0 3 false 121).toArray, .bool true]) ∧ Below w.heap.size w w' := f_ops w _ _ _ (.tail _ (.tail _ (.tail _ (.tail _ (.tail _ (.tail _ (.tail _ (.tail _ (.head _)))))))))
theorem f_op13 (w : World) : Calls Tryz.prog 23 #[.int .i64 13, .int .i64 2] w fun e w' => e = .returned (.tuple #[.agg (o7 2 4 4 0 1 false 122).toArray, .bool true]) ∧ Below w.heap.size w w' := f_ops w _ _ _ (.tail _ (.tail _ (.tail _ (.tail _ (.tail _ (.tail _ (.tail _ (.tail _ (.tail _ (.head _))))))))))
theorem f_op14 (w : World) : Calls Tryz.prog 23 #[.int .i64 14, .int .i64 2] w fun e w' => e = .returned (.tuple #[.agg (o7 2 4 4 0 1 false 123).toArray, .bool true]) ∧ Below w.heap.size w w' := f_ops w _ _ _ (.tail _ (.tail _ (.tail _ (.tail _ (.tail _ (.tail _ (.tail _ (.tail _ (.tail _ (.tail _ (.head _)))))))))))
theorem f_op15 (w : World) : Calls Tryz.prog 23 #[.int .i64 15, .int .i64 2] w fun e w' => e = .returned (.tuple #[.agg (o7 2 4 4 0 1 false 124).toArray, .bool true]) ∧ Below w.heap.size w w' := f_ops w _ _ _ (.tail _ (.tail _ (.tail _ (.tail _ (.tail _ (.tail _ (.tail _ (.tail _ (.tail _ (.tail _ (.tail _ (.head _))))))))))))
theorem f_op16 (w : World) : Calls Tryz.prog 23 #[.int .i64 16, .int .i64 2] w fun e w' => e = .returned (.tuple #[.agg (o7 2 4 4 0 1 false 125).toArray, .bool true]) ∧ Below w.heap.size w w' := f_ops w _ _ _ (.tail _ (.tail _ (.tail _ (.tail _ (.tail _ (.tail _ (.tail _ (.tail _ (.tail _ (.tail _ (.tail _ (.tail _ (.head _)))))))))))))
theorem f_op17 (w : World) : Calls Tryz.prog 23 #[.int .i64 17, .int .i64 2] w fun e w' => e = .returned (.tuple #[.agg (o7 2 4 4 0 1 false 126).toArray, .bool true]) ∧ Below w.heap.size w w' := f_ops w _ _ _ (.tail _ (.tail _ (.tail _ (.tail _ (.tail _ (.tail _ (.tail _ (.tail _ (.tail _ (.tail _ (.tail _ (.tail _ (.tail _ (.head _))))))))))))))
theorem f_op18 (w : World) : Calls Tryz.prog 23 #[.int .i64 18, .int .i64 2] w fun e w' => e = .returned (.tuple #[.agg (o7 2 4 4 0 1 false 127).toArray, .bool true]) ∧ Below w.heap.size w w' := f_ops w _ _ _ (.tail _ (.tail _ (.tail _ (.tail _ (.tail _ (.tail _ (.tail _ (.tail _ (.tail _ (.tail _ (.tail _ (.tail _ (.tail _ (.tail _ (.head _)))))))))))))))
theorem f_op19 (w : World) : Calls Tryz.prog 23 #[.int .i64 19, .int .i64 2] w fun e w' => e = .returned (.tuple #[.agg (o7 2 2 2 0 1 true 128).toArray, .bool true]) ∧ Below w.heap.size w w' := f_ops w _ _ _ (.tail _ (.tail _ (.tail _ (.tail _ (.tail _ (.tail _ (.tail _ (.tail _ (.tail _ (.tail _ (.tail _ (.tail _ (.tail _ (.tail _ (.tail _ (.head _))))))))))))))))
theorem f_op20 (w : World) : Calls Tryz.prog 23 #[.int .i64 20, .int .i64 2] w fun e w' => e = .returned (.tuple #[.agg (o7 2 2 2 0 1 true 130).toArray, .bool true]) ∧ Below w.heap.size w w' := f_ops w _ _ _ (.tail _ (.tail _ (.tail _ (.tail _ (.tail _ (.tail _ (.tail _ (.tail _ (.tail _ (.tail _ (.tail _ (.tail _ (.tail _ (.tail _ (.tail _ (.tail _ (.head _)))))))))))))))))
theorem f_op21 (w : World) : Calls Tryz.prog 23 #[.int .i64 21, .int .i64 2] w fun e w' => e = .returned (.tuple #[.agg (o7 2 4 4 0 0 true 131).toArray, .bool true]) ∧ Below w.heap.size w w' := f_ops w _ _ _ (.tail _ (.tail _ (.tail _ (.tail _ (.tail _ (.tail _ (.tail _ (.tail _ (.tail _ (.tail _ (.tail _ (.tail _ (.tail _ (.tail _ (.tail _ (.tail _ (.tail _ (.head _))))))))))))))))))
theorem f_op22 (w : World) : Calls Tryz.prog 23 #[.int .i64 22, .int .i64 3] w fun e w' => e = .returned (.tuple #[.agg (o7 3 2 4 4 0 true 133).toArray, .bool true]) ∧ Below w.heap.size w w' := f_ops w _ _ _ (.tail _ (.tail _ (.tail _ (.tail _ (.tail _ (.tail _ (.tail _ (.tail _ (.tail _ (.tail _ (.tail _ (.tail _ (.tail _ (.tail _ (.tail _ (.tail _ (.tail _ (.tail _ (.head _)))))))))))))))))))

set_option maxRecDepth 100000 in
set_option maxHeartbeats 4000000 in
theorem f_bad (w : World) (op c : Int) (hbad : op < 0 ∨ (0 ≤ op ∧ 23 ≤ op) ∨ (0 ≤ op ∧ op < 23 ∧ c = 0)) :
    Calls Tryz.prog 23 #[.int .i64 op, .int .i64 c] w fun e w' => e = .returned (.tuple #[.agg z7.toArray, .bool false]) ∧ Below w.heap.size w w' := by
  have HO := Lib.hid (fun W => c_operations W)
  rcases hbad with hbad | hbad | ⟨h1, h2, rfl⟩
  all_goals
    go_enter Tryz.func23, Tryz.ntmps23
    go_wp2_with fail
    have hr0 := heap_alloc_new w (.cells z7.toArray 53)
    refine (HO.out _).mono ?_
    rintro e w1 ⟨rfl, hb1⟩
    have hr1 : w1.heap[w.heap.size]? = some (.cells z7.toArray 53 (0, 0)) := (hb1.block _ (by simp)).trans hr0
    have hlt : w.heap.size < w1.heap.size := (Array.getElem?_eq_some_iff.1 hr1).1
    have HB1 : Hid (Below w.heap.size w w1) := btr ((Below.refl _ _).alloc (Nat.le_refl _) _) hb1
    clear hr0 hb1
    generalize HT : tab.toArray = TT
    have HH := Lib.hid HT
    clear HT HO
    go_wp2_with (first | (refine wpList_store_row 96 _ _ rfl rfl rfl w1.heap.size 96 rfl tab (congrArg Value.agg HH.out.symm) _ (heap_alloc_new w1 _) (by kernel_rfl) info_tab tab_one ?_; intro w2 hh2 hg2 hz2; have hr2 : w2.heap[w.heap.size]? = some (.cells z7.toArray 53 (0, 0)) := (hg2.block _ (by simp; omega) (by simp; omega)).trans ((Below.heap_alloc w1 _ _ hlt).trans hr1); have HB2 : Hid (Below w.heap.size w w2) := (HB1.out.alloc (by omega) _).grown hg2 (by simp; omega) (fun k hk => by injection hk with hk; omega); clear hz2 hg2 hr1) | (refine wpList_store_row 53 _ _ rfl rfl rfl w.heap.size 53 rfl z7 rfl _ hr2 rfl info_op z7_one ?_; intro w3 hh3 hg3 hz3; have HB3 : Hid (Below w.heap.size w w3) := HB2.out.grown hg3 (HB2.out.size) (fun k hk => by injection hk with hk; omega); clear hz3 hg3))
    refine bodyPost_ret (v := .tuple #[.agg z7.toArray, .bool false]) (results_cell_tmp Tryz.results23 _ _ w.heap.size 53 _ (0, 0) _ rfl hh3 Tryz.underlying53 rfl (by rw [info_op]; rfl)) rfl ⟨rfl, HB3.out⟩
end Go.Proofs.YtnfncdalneifnaaGreatDoor

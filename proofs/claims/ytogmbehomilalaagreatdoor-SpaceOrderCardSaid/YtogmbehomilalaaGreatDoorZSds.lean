/- The driver's examples: dimensions, a layout, an array. -/
import Derived.Test.YtogmbehomilalaaGreatDoorZPrt2
import Derived.Test.YtogmbehomilalaaGreatDoorZSpI
namespace Go.Proofs.YtogmbehomilalaaGreatDoor
open Go Go.RowKit Go.Deep Go.Sort

theorem info_lay : (Tryz.prog.info? 43).map (·.size) = some 6 := by kernel_rfl
theorem info_arr : (Tryz.prog.info? 29).map (·.size) = some 3 := by kernel_rfl
theorem res_tmp_cell {P : Program} {fn : Func} {p q : Tmp} {ty : TypeId} (h : fn.results = #[.tmp q, .cell p ty]) (tmps : Array Value) (w : World) (g : Nat) (t : TypeId) (cs : Array Value) (fr : Nat × Nat) (d : TypeDesc)
    (hp : tmps.getD p undef = .pointer (some ⟨g, 0, none⟩)) (hg : w.heap[g]? = some (.cells cs t fr))
    (hu : P.underlying ty = some d) (hd : (match d with | .struct _ | .array _ _ => true | _ => false) = true) (hi : (P.info? ty).map (·.size) = some cs.size) :
    (results fn tmps).run P w = .ok (.tuple #[tmps.getD q undef, .agg cs]) w := by
  have hp' : tmps[p]?.getD undef = .pointer (some ⟨g, 0, none⟩) := by simpa using hp
  simp [results, h, hp', asAddr, run_loadVar_row w g t ty cs fr d hg hu hd hi]
theorem res_cell {P : Program} {fn : Func} {p : Tmp} {ty : TypeId} (h : fn.results = #[.cell p ty]) (tmps : Array Value) (w : World) (g : Nat) (t : TypeId) (cs : Array Value) (fr : Nat × Nat) (d : TypeDesc)
    (hp : tmps.getD p undef = .pointer (some ⟨g, 0, none⟩)) (hg : w.heap[g]? = some (.cells cs t fr))
    (hu : P.underlying ty = some d) (hd : (match d with | .struct _ | .array _ _ => true | _ => false) = true) (hi : (P.info? ty).map (·.size) = some cs.size) :
    (results fn tmps).run P w = .ok (.agg cs) w := by
  have hp' : tmps[p]?.getD undef = .pointer (some ⟨g, 0, none⟩) := by simpa using hp
  simp [results, h, hp', asAddr, run_loadVar_row w g t ty cs fr d hg hu hd hi]
theorem grow_at (w : World) (os : Array Obj) (i : Nat) (o : Obj) (h : os[i]? = some o) : (grow w os).heap[w.heap.size + i]? = some o := by
  show (w.heap ++ os)[w.heap.size + i]? = _
  rw [Array.getElem?_append_right (by omega), Nat.add_sub_cancel_left]
  exact h
theorem grow_bel (w : World) (os : Array Obj) : Below w.heap.size w (grow w os) :=
  ⟨rfl, rfl, rfl, by show w.heap.size ≤ (w.heap ++ os).size; rw [Array.size_append]; omega, fun _ hj => Sort.heap_grow_old w os hj⟩
theorem at_lt {w : World} {b : Nat} {o : Obj} (h : w.heap[b]? = some o) : b < w.heap.size := (Array.getElem?_eq_some_iff.1 h).1
def nmS (k : Nat) : ByteArray := if k = 0 then ⟨#[120]⟩ else ⟨#[121]⟩
def pairZ (a b : Int) (k : Nat) : Int := if k = 0 then a else b
theorem ints_two {w : World} {b : Nat} {x y : Int} {t : TypeId} (h : w.heap[b]? = some (.cells #[.int .i64 x, .int .i64 y] t (0, 0))) : IntsAt w (some ⟨b, 0, none⟩) 2 (pairZ x y) := fun _ =>
  ⟨b, 0, rfl, at_lt h, fun k hk => by
    rw [cell_of_row _ _ _ _ _ _ h, Nat.zero_add]
    rcases (by omega : k = 0 ∨ k = 1) with rfl | rfl <;> rfl⟩
theorem dims_two {w : World} {b : Nat} {l0 h0 l1 h1 : Int} {t : TypeId} (h : w.heap[b]? = some (.cells #[.string ⟨#[120]⟩, .int .i64 l0, .int .i64 h0, .string ⟨#[121]⟩, .int .i64 l1, .int .i64 h1] t (0, 0))) : DimsAt w (some ⟨b, 0, none⟩) 2 nmS (pairZ l0 l1) (pairZ h0 h1) := fun _ =>
  ⟨b, 0, rfl, at_lt h, fun k hk => by
    rw [cell_of_row _ _ _ _ _ _ h, cell_of_row _ _ _ _ _ _ h, cell_of_row _ _ _ _ _ _ h, Nat.zero_add]
    rcases (by omega : k = 0 ∨ k = 1) with rfl | rfl <;> exact ⟨rfl, rfl, rfl⟩⟩

set_option maxRecDepth 100000 in
set_option maxHeartbeats 4000000 in
theorem s_sides (w : World) : Calls Tryz.prog 20 #[] w fun e w' => ∃ bd bs bo, e = .returned (.tuple #[.slice (some ⟨bd, 0, none⟩) 2 2, LayV (some ⟨bs, 0, none⟩) 2 2 (some ⟨bo, 0, none⟩) 2 2 1 0 1 1]) ∧ DimsAt w' (some ⟨bd, 0, none⟩) 2 nmS (pairZ (-2) 0) (pairZ 5 1073741825) ∧ IntsAt w' (some ⟨bs, 0, none⟩) 2 (pairZ 4 3) ∧ IntsAt w' (some ⟨bo, 0, none⟩) 2 (pairZ 1 0) ∧ Below w.heap.size w w' := by
  go_enter Tryz.func20, Tryz.ntmps20
  go_wp2
  simp only [alloc_eq_grow, grow_grow, List.append_toArray, List.cons_append, List.nil_append]
  refine bodyPost_ret (v := .tuple #[.slice (some ⟨w.heap.size + 1, 0, none⟩) 2 2, LayV (some ⟨w.heap.size + 2, 0, none⟩) 2 2 (some ⟨w.heap.size + 3, 0, none⟩) 2 2 1 0 1 1]) (res_tmp_cell Tryz.results20 _ _ w.heap.size 43 _ (0, 0) _ rfl (grow_at w _ 0 _ rfl) Tryz.underlying43 rfl (by rw [info_lay]; rfl)) rfl ?_
  exact ⟨_, _, _, rfl, dims_two (grow_at w _ 1 _ rfl), ints_two (grow_at w _ 2 _ rfl), ints_two (grow_at w _ 3 _ rfl), grow_bel _ _⟩
set_option maxHeartbeats 1000000 in
theorem c_num (n : Int) (w : World) : Calls Tryz.prog 68 #[.int .i64 n] w fun e w' => e = .returned (.slice (some ⟨w.heap.size, 0, none⟩) 1 1) ∧ w' = w.alloc (.cells #[.int .i64 2, .int .i64 n, .int .i64 1, .string noS] 40) := by
  go_enter Tryz.func68, Tryz.ntmps68
  go_wp2
  go_ret
  exact ⟨rfl, rfl⟩
def pick4 (a b c d : Int) (k : Nat) : Int := if k = 0 then a else if k = 1 then b else if k = 2 then c else d
def xS (k : Nat) : Nat → Int := pairZ (pick4 0 1 1 3 k) (pick4 0 0 1 1 k)
def vkS (k _j : Nat) : Int := pick4 2 2 0 2 k
def vnS (k _j : Nat) : Int := pick4 5 7 1 2 k
def vdS (k _j : Nat) : Int := pick4 1 1 0 1 k
def vsS (_k _j : Nat) : ByteArray := noS
theorem vals_one {w : World} {b : Nat} {k n d : Int} {s : ByteArray} {t : TypeId} {vk vn vd : Nat → Int} {vs : Nat → ByteArray} (h : w.heap[b]? = some (.cells #[.int .i64 k, .int .i64 n, .int .i64 d, .string s] t (0, 0))) (h1 : vk 0 = k) (h2 : vn 0 = n) (h3 : vd 0 = d) (h4 : vs 0 = s) : ValsAt w (some ⟨b, 0, none⟩) 1 vk vn vd vs := fun _ =>
  ⟨b, 0, rfl, at_lt h, fun j hj => by
    obtain rfl : j = 0 := by omega
    rw [cell_of_row _ _ _ _ _ _ h, cell_of_row _ _ _ _ _ _ h, cell_of_row _ _ _ _ _ _ h, cell_of_row _ _ _ _ _ _ h, h1, h2, h3, h4]
    exact ⟨rfl, rfl, rfl, rfl⟩⟩
set_option maxRecDepth 100000 in
set_option maxHeartbeats 4000000 in
theorem s_Array (w : World) : Calls Tryz.prog 27 #[] w fun e w' => ∃ bd ba bc, e = .returned (ArrV (some ⟨bd, 0, none⟩) 2 2 (some ⟨ba, 0, none⟩) 1 1 (some ⟨bc, 0, none⟩) 4 4) ∧ DimsAt w' (some ⟨bd, 0, none⟩) 2 nmS (pairZ 0 0) (pairZ 3 1) ∧ AttrsAt w' (some ⟨ba, 0, none⟩) 1 (fun _ => ⟨#[118]⟩) (fun _ => 2) ∧ CellsAt w' (some ⟨bc, 0, none⟩) 4 (fun _ => 2) (fun _ => 1) xS vkS vnS vdS vsS ∧ Below w.heap.size w w' := by
  have HN := Lib.hid c_num
  go_enter Tryz.func27, Tryz.ntmps27
  go_wp2_with (go_at_call 68; refine (HN.out _ _).mono ?_; rintro e w1 ⟨rfl, rfl⟩)
  simp only [alloc_eq_grow, grow_grow, List.append_toArray, List.cons_append, List.nil_append]
  refine bodyPost_ret (v := ArrV (some ⟨w.heap.size + 1, 0, none⟩) 2 2 (some ⟨w.heap.size + 2, 0, none⟩) 1 1 (some ⟨w.heap.size + 11, 0, none⟩) 4 4) (res_cell Tryz.results27 _ _ w.heap.size 29 _ (0, 0) _ rfl (grow_at w _ 0 _ rfl) Tryz.underlying29 rfl (by rw [info_arr]; rfl)) rfl ?_
  refine ⟨_, _, _, rfl, dims_two (grow_at w _ 1 _ rfl), fun _ => ⟨_, 0, rfl, ?_, fun k hk => ?_⟩, fun _ => ⟨_, 0, rfl, ?_, fun k hk => ?_⟩, grow_bel _ _⟩
  · exact at_lt (grow_at w _ 2 _ rfl)
  · obtain rfl : k = 0 := by omega
    exact ⟨(cell_of_row _ _ _ _ _ _ (grow_at w _ 2 _ rfl)).trans rfl, (cell_of_row _ _ _ _ _ _ (grow_at w _ 2 _ rfl)).trans rfl⟩
  · exact at_lt (grow_at w _ 11 _ rfl)
  · rcases (by omega : k = 0 ∨ k = 1 ∨ k = 2 ∨ k = 3) with rfl | rfl | rfl | rfl
    · exact ⟨_, _, _, _, (cell_of_row _ _ _ _ _ _ (grow_at w _ 11 _ rfl)).trans rfl, (cell_of_row _ _ _ _ _ _ (grow_at w _ 11 _ rfl)).trans rfl, ints_two (grow_at w _ 3 _ rfl), vals_one (grow_at w _ 4 _ rfl) rfl rfl rfl rfl, by show 2 ≤ 1000; omega⟩
    · exact ⟨_, _, _, _, (cell_of_row _ _ _ _ _ _ (grow_at w _ 11 _ rfl)).trans rfl, (cell_of_row _ _ _ _ _ _ (grow_at w _ 11 _ rfl)).trans rfl, ints_two (grow_at w _ 5 _ rfl), vals_one (grow_at w _ 6 _ rfl) rfl rfl rfl rfl, by show 2 ≤ 1000; omega⟩
    · exact ⟨_, _, _, _, (cell_of_row _ _ _ _ _ _ (grow_at w _ 11 _ rfl)).trans rfl, (cell_of_row _ _ _ _ _ _ (grow_at w _ 11 _ rfl)).trans rfl, ints_two (grow_at w _ 7 _ rfl), vals_one (grow_at w _ 8 _ rfl) rfl rfl rfl rfl, by show 2 ≤ 1000; omega⟩
    · exact ⟨_, _, _, _, (cell_of_row _ _ _ _ _ _ (grow_at w _ 11 _ rfl)).trans rfl, (cell_of_row _ _ _ _ _ _ (grow_at w _ 11 _ rfl)).trans rfl, ints_two (grow_at w _ 9 _ rfl), vals_one (grow_at w _ 10 _ rfl) rfl rfl rfl rfl, by show 2 ≤ 1000; omega⟩
end Go.Proofs.YtogmbehomilalaaGreatDoor

/- The common part of boxes. -/
import Derived.Test.YtoippldgoehpcaaGreatDoorZGet
import Derived.StillTailTactics
import Derived.Test.YtoippldgoehpcaaGreatDoorZBldK
import Derived.Maps.AppendAt
import Derived.Test.YtoippldgoehpcaaGreatDoorZSpI
import Derived.Test.YtoippldgoehpcaaGreatDoorZRfQ
import Derived.Test.YtoippldgoehpcaaGreatDoorZSpH
import Derived.Test.YtoippldgoehpcaaGreatDoorZRg

/- The common part of boxes. -/
section
namespace Go.Proofs.YtoippldgoehpcaaGreatDoor
open Go Go.RowKit Go.Deep

end Go.Proofs.YtoippldgoehpcaaGreatDoor
end

/- A list of integers that grows by append: where it lies. -/
section
namespace Go.Proofs.YtoippldgoehpcaaGreatDoor
open Go Go.RowKit Go.Deep

/-- The slice v is the walk's own, from block B on, and holds n numbers. -/
def OwnI (w : World) (B : Nat) (v : Value) (n : Nat) (f : Nat → Int) : Prop := ∃ xs, w.ownsRow B 3 1 v n xs ∧ ∀ k, k < n → xs[k]? = some (.int .i64 (f k))
theorem OwnI.ints {w : World} {B n : Nat} {v : Value} {f : Nat → Int} (h : OwnI w B v n f) : ∃ P c, v = .slice P n c ∧ IntsAt w P n f := by
  obtain ⟨xs, ⟨hl, h1⟩, h2⟩ := h
  rcases h1 with ⟨rfl, rfl⟩ | ⟨g, cap, cur, rfl, _, hh, hcap, _, hs, ht⟩
  · exact ⟨none, 0, rfl, fun h => absurd h (by omega)⟩
  · refine ⟨_, _, rfl, fun hn => ⟨g, 0, rfl, (Array.getElem?_eq_some_iff.1 hh).1, fun k hk => ?_⟩⟩
    rw [Nat.mul_one] at ht
    have h3 : cur.toList[k]? = some (.int .i64 (f k)) := by
      rw [← List.getElem?_take_of_lt hk, ht]
      exact h2 k hk
    rw [Array.getElem?_toList] at h3
    rw [Nat.zero_add]
    simp [World.cell?, hh, h3]
theorem OwnI.nil (w : World) (B : Nat) (f : Nat → Int) : OwnI w B (.slice none 0 0) 0 f := ⟨[], ⟨rfl, .inl ⟨rfl, rfl⟩⟩, fun k hk => absurd hk (by omega)⟩
theorem OwnI.kept {w w' : World} {B n : Nat} {v : Value} {f : Nat → Int} {row : Option Nat} (h : OwnI w B v n f) (hg : w.grownBy w' row) (hne : v.ownBlock = none ∨ v.ownBlock ≠ row) : OwnI w' B v n f := by
  obtain ⟨xs, h1, h2⟩ := h
  exact ⟨xs, h1.kept hg hne, h2⟩
theorem OwnI.block {w : World} {B n : Nat} {v : Value} {f : Nat → Int} (h : OwnI w B v n f) {g : Nat} (hg : v.ownBlock = some g) : B ≤ g ∧ g < w.heap.size := by
  obtain ⟨xs, h1, _⟩ := h
  obtain ⟨a, cs, b⟩ := own_lt h1 g hg
  exact ⟨a, (Array.getElem?_eq_some_iff.1 b).1⟩
end Go.Proofs.YtoippldgoehpcaaGreatDoor
end

/- The least and the greatest of cells' coordinates; a list of integers that is the walk's own is written in place. -/
section
namespace Go.Proofs.YtoippldgoehpcaaGreatDoor
open Go Go.RowKit Go.Deep

def hLo (x : Nat → Nat → Int) : Nat → Nat → Int
  | 0, j => x 0 j
  | k + 1, j => min (hLo x k j) (x k j)
def hHi (x : Nat → Nat → Int) : Nat → Nat → Int
  | 0, j => x 0 j
  | k + 1, j => max (hHi x k j) (x k j)
theorem OwnI.put {w : World} {B n : Nat} {v : Value} {f : Nat → Int} (h : OwnI w B v n f) (hn : 0 < n) : ∃ g cap, v = .slice (some ⟨g, 0, none⟩) n cap ∧ B ≤ g ∧ g < w.heap.size ∧ (∀ k, k < n → w.cell? ⟨g, k, none⟩ = some (.int .i64 (f k))) ∧ (∀ k, w.frozen? ⟨g, k, none⟩ = false) ∧ ∀ k y, k < n → OwnI (w.setCell ⟨g, k, none⟩ (.int .i64 y)) B v n (updZ f k y) := by
  obtain ⟨xs, ⟨hl, h1⟩, h2⟩ := h
  rcases h1 with ⟨rfl, rfl⟩ | ⟨g, cap, cur, rfl, hBg, hh, hnc, hcm, hsz, ht⟩
  · omega
  · have get : ∀ k, k < n → cur[k]? = some (.int .i64 (f k)) := fun k hk => by
      have h3 : cur.toList[k]? = some (.int .i64 (f k)) := by
        rw [← List.getElem?_take_of_lt (show k < n * 1 by omega), ht]
        exact h2 k hk
      rw [Array.getElem?_toList] at h3
      exact h3
    refine ⟨g, cap, rfl, hBg, (Array.getElem?_eq_some_iff.1 hh).1, fun k hk => by simp [World.cell?, hh, get k hk], fun k => by simp [World.frozen?, hh], fun k y hk => ⟨xs.set k (.int .i64 y), ⟨by rw [List.length_set]; exact hl, .inr ⟨g, cap, cur.set! k (.int .i64 y), rfl, hBg, ?_, hnc, hcm, by simpa using hsz, ?_⟩⟩, fun j hj => ?_⟩⟩
    · simp [World.setCell, Array.getElem?_modify, hh]
    · rw [Array.set!_eq_setIfInBounds, Array.toList_setIfInBounds, List.take_set, ht]
    · unfold updZ
      by_cases e : j = k
      · subst e
        rw [List.getElem?_set_self (by omega), if_pos rfl]
      · rw [List.getElem?_set_ne (by omega), if_neg e]
        exact h2 j hj
end Go.Proofs.YtoippldgoehpcaaGreatDoor
end

/- What an array without an error is like. -/
section
namespace Go.Proofs.YtoippldgoehpcaaGreatDoor
open Go Go.RowKit Go.Deep

theorem check_sch {D : ArD} (h : D.check = 0) : schE D.nm D.lo D.hi D.n D.an D.ty D.m = 0 ∧ D.N ≤ 4096 := by
  unfold ArD.check checkE manyE at h
  by_cases h1 : schE D.nm D.lo D.hi D.n D.an D.ty D.m = 0
  · refine ⟨h1, ?_⟩
    by_cases h2 : 4096 < D.N
    · simp [h1, h2] at h
    · omega
  · simp [h1] at h
theorem check_cells {D : ArD} (h : D.check = 0) {k : Nat} (hk : k < D.N) : cellsE D.lo D.hi D.n D.ty D.m D.c.ln D.c.vl D.c.x D.c.vk D.c.vn D.c.vd D.c.vs k = 0 := by
  have h0 := check_sch h
  unfold ArD.check checkE at h
  have hm : manyE D.nm D.lo D.hi D.n D.an D.ty D.m D.N = 0 := by
    unfold manyE
    rw [if_neg (by rw [h0.1]; decide), if_neg (by omega)]
  rw [if_neg (by rw [hm]; decide)] at h
  have hk0 : cellsTo D.lo D.hi D.n D.ty D.m D.c.ln D.c.vl D.c.x D.c.vk D.c.vn D.c.vd D.c.vs (k + 1) = 0 := Decidable.byContradiction fun hne => hne ((cellsTo_le hne (show k + 1 ≤ D.N by omega)).symm.trans h)
  have hk1 : cellsTo D.lo D.hi D.n D.ty D.m D.c.ln D.c.vl D.c.x D.c.vk D.c.vn D.c.vd D.c.vs k = 0 := Decidable.byContradiction fun hne => hne ((cellsTo_le hne (show k ≤ D.N by omega)).symm.trans h)
  rw [cellsTo, if_pos hk1] at hk0
  exact hk0
theorem check_cell {D : ArD} (h : D.check = 0) {k : Nat} (hk : k < D.N) : cellE D.lo D.hi D.n D.ty D.m (D.c.x k) (D.c.ln k) (D.c.vk k) (D.c.vn k) (D.c.vd k) (D.c.vs k) (D.c.vl k) = 0 := by
  have h1 := check_cells h hk
  unfold cellsE at h1
  split at h1
  · assumption
  · rename_i h2
    exact Decidable.not_not.1 h2
theorem check_ln {D : ArD} (h : D.check = 0) {k : Nat} (hk : k < D.N) : D.c.ln k = D.n := by
  have h1 := check_cell h hk
  unfold cellE at h1
  split at h1
  · exact absurd h1 (by decide)
  · rename_i h2
    omega
theorem check_n {D : ArD} (h : D.check = 0) : 1 ≤ D.n ∧ D.n ≤ 4 := by
  have h1 := (check_sch h).1
  have h2 : dimsZ D.nm D.lo D.hi D.n = 0 := Decidable.byContradiction fun hne => by
    unfold schE at h1
    simp [hne] at h1
  exact ⟨(dimsZ_ok h2).1, (dimsZ_ok h2).2.1⟩
end Go.Proofs.YtoippldgoehpcaaGreatDoor
end

/- A box of two lists that grow. -/
section
namespace Go.Proofs.YtoippldgoehpcaaGreatDoor
open Go Go.RowKit Go.Deep

theorem box_gen {W : World} {r : Nat} {x y : Value} (h : W.heap[r]? = some (.cells #[x, y] 66 (0, 0))) : W.cell? ⟨r, 0, none⟩ = some x ∧ W.cell? ⟨r, 1, none⟩ = some y ∧ W.frozen? ⟨r, 0, none⟩ = false ∧ W.frozen? ⟨r, 1, none⟩ = false := by
  refine ⟨by simp [World.cell?, h], by simp [World.cell?, h], by simp [World.frozen?, h], by simp [World.frozen?, h]⟩
theorem box_set0 {W : World} {r : Nat} {x y : Value} (h : W.heap[r]? = some (.cells #[x, y] 66 (0, 0))) (v : Value) : (W.setCell ⟨r, 0, none⟩ v).heap[r]? = some (.cells #[v, y] 66 (0, 0)) := by
  simp [World.setCell, Array.getElem?_modify, h]
theorem box_set1 {W : World} {r : Nat} {x y : Value} (h : W.heap[r]? = some (.cells #[x, y] 66 (0, 0))) (v : Value) : (W.setCell ⟨r, 1, none⟩ v).heap[r]? = some (.cells #[x, v] 66 (0, 0)) := by
  simp [World.setCell, Array.getElem?_modify, h]
theorem OwnI.congr {w : World} {B n : Nat} {v : Value} {f g : Nat → Int} (h : OwnI w B v n f) (hfg : ∀ k, k < n → f k = g k) : OwnI w B v n g := by
  obtain ⟨xs, h1, h2⟩ := h
  exact ⟨xs, h1, fun k hk => by rw [← hfg k hk]; exact h2 k hk⟩
theorem OwnI.ints' {w : World} {B n c : Nat} {P : Option Addr} {f : Nat → Int} (h : OwnI w B (.slice P n c) n f) : IntsAt w P n f := by
  obtain ⟨P', c', e, h1⟩ := h.ints
  injection e with e1
  subst e1
  exact h1
theorem OwnI.ne {w : World} {B n b : Nat} {v : Value} {f : Nat → Int} (h : OwnI w B v n f) (hb : b < B) : v.ownBlock = none ∨ v.ownBlock ≠ some b := by
  cases e : v.ownBlock with
  | none => exact .inl rfl
  | some g =>
    have := (h.block e).1
    refine .inr fun e2 => ?_
    injection e2 with e2
    omega
theorem ne_sym {v u : Option Nat} (h : v = none ∨ v ≠ u) : u = none ∨ u ≠ v := by
  cases u with
  | none => exact .inl rfl
  | some a =>
    refine .inr fun e => ?_
    rcases h with h | h
    · rw [h] at e; cases e
    · exact h e.symm
theorem ne_new {w : World} {B n : Nat} {v v' u : Value} {f : Nat → Int} (hu : OwnI w B u n f) (h : v.ownBlock = none ∨ v.ownBlock ≠ u.ownBlock) (hat : v'.ownBlock = v.ownBlock ∨ ∃ g, v'.ownBlock = some g ∧ w.heap.size ≤ g) : v'.ownBlock = none ∨ v'.ownBlock ≠ u.ownBlock := by
  rcases hat with e | ⟨g, e, hg⟩
  · rw [e]; exact h
  · refine .inr fun e2 => ?_
    rw [e] at e2
    have := (hu.block e2.symm).2
    omega
theorem kept_at {w w' : World} {b : Nat} {row : Option Nat} (hg : w.grownBy w' row) (hb : b < w.heap.size) (hne : row = none ∨ row ≠ some b) : w'.heap[b]? = w.heap[b]? :=
  hg.block b hb fun e => by
    rcases hne with h | h
    · rw [h] at e; cases e
    · exact h e.symm
theorem below_own {a w w' : World} {A B n : Nat} {v : Value} {f : Nat → Int} (hb : Below A a w) (hA : A ≤ w.heap.size) (ho : OwnI w B v n f) (hAB : A ≤ B) (hg : w.grownBy w' v.ownBlock) : Below A a w' :=
  hb.grown hg hA fun g e => by have := (ho.block e).1; omega
/-- The box at ob holds two lists of the walk's own. -/
def InS2 (ob : Nat) (W : World) (x1 x2 : Value) (k1 k2 : Nat) (f g : Nat → Int) : Prop :=
  W.heap[ob]? = some (.cells #[x1, x2] 66 (0, 0)) ∧ OwnI W (ob + 1) x1 k1 f ∧ OwnI W (ob + 1) x2 k2 g ∧ (x1.ownBlock = none ∨ x1.ownBlock ≠ x2.ownBlock)
theorem InS2.app1 {W W' : World} {ob : Nat} {x1 x2 x1' : Value} {k1 k2 : Nat} {f g f' : Nat → Int} (h : InS2 ob W x1 x2 k1 k2 f g) (ho : OwnI W' (ob + 1) x1' (k1 + 1) f') (hg : W.grownBy W' x1.ownBlock) (hat : x1'.ownBlock = x1.ownBlock ∨ ∃ g, x1'.ownBlock = some g ∧ W.heap.size ≤ g) :
    W'.heap[ob]? = some (.cells #[x1, x2] 66 (0, 0)) ∧ InS2 ob (W'.setCell ⟨ob, 0, none⟩ x1') x1' x2 (k1 + 1) k2 f' g ∧ Below ob W (W'.setCell ⟨ob, 0, none⟩ x1') := by
  obtain ⟨hbx, HO1, HO2, HNe⟩ := h
  have hobl : ob < W.heap.size := (Array.getElem?_eq_some_iff.1 hbx).1
  have hbx8 := (kept_at hg hobl (HO1.ne (by omega))).trans hbx
  have ho28 := HO2.kept hg (ne_sym HNe)
  have HB8 : Below ob W W' := below_own (Below.refl _ _) (by omega) HO1 (by omega) hg
  exact ⟨hbx8, ⟨box_set0 hbx8 x1', ho.kept (grown_set W' ob 0 x1') (ho.ne (by omega)), ho28.kept (grown_set W' ob 0 x1') (ho28.ne (by omega)), ne_new HO2 HNe hat⟩, HB8.setCell (p := ⟨ob, 0, none⟩) (Nat.le_refl _) _⟩
theorem InS2.app2 {W W' : World} {ob : Nat} {x1 x2 x2' : Value} {k1 k2 : Nat} {f g g' : Nat → Int} (h : InS2 ob W x1 x2 k1 k2 f g) (ho : OwnI W' (ob + 1) x2' (k2 + 1) g') (hg : W.grownBy W' x2.ownBlock) (hat : x2'.ownBlock = x2.ownBlock ∨ ∃ g, x2'.ownBlock = some g ∧ W.heap.size ≤ g) :
    W'.heap[ob]? = some (.cells #[x1, x2] 66 (0, 0)) ∧ InS2 ob (W'.setCell ⟨ob, 1, none⟩ x2') x1 x2' k1 (k2 + 1) f g' ∧ Below ob W (W'.setCell ⟨ob, 1, none⟩ x2') := by
  obtain ⟨hbx, HO1, HO2, HNe⟩ := h
  have hobl : ob < W.heap.size := (Array.getElem?_eq_some_iff.1 hbx).1
  have hbx8 := (kept_at hg hobl (HO2.ne (by omega))).trans hbx
  have ho18 := HO1.kept hg HNe
  have HB8 : Below ob W W' := below_own (Below.refl _ _) (by omega) HO2 (by omega) hg
  exact ⟨hbx8, ⟨box_set1 hbx8 x2', ho18.kept (grown_set W' ob 1 x2') (ho18.ne (by omega)), ho.kept (grown_set W' ob 1 x2') (ho.ne (by omega)), ne_sym (ne_new HO1 (ne_sym HNe) hat)⟩, HB8.setCell (p := ⟨ob, 1, none⟩) (Nat.le_refl _) _⟩
end Go.Proofs.YtoippldgoehpcaaGreatDoor
end

/- Operations on boxes, dimensions and integers in regions whose order is open. -/
section
namespace Go.Proofs.YtoippldgoehpcaaGreatDoor
open Go Go.RowKit Go.Deep
section
variable {ops : Array Oper} {Q : Exit → Act → World → Prop} {K : Act → World → Prop} {a : Act} {w : World}
set_option maxRecDepth 100000 in
theorem op_fB {o : Oper} {d t b f : Nat} (hf : f < 2) (ho : o.op = .fieldAddr 66 (.tmp t) f) (hd : o.dst = some d) (hs : slot a t = .pointer (some ⟨b, 0, none⟩)) (h : K (putSlot a d (.pointer (some ⟨b, f, none⟩))) w) : o.wp Tryz.prog a w K Q := by
  obtain ⟨op, dst, ty, pos, after, guard⟩ := o
  dsimp only at ho hd
  subst ho hd
  have hs' : a.tmps[t]?.getD undef = .pointer (some ⟨b, 0, none⟩) := hs
  unfold Oper.wp
  rcases (by omega : f = 0 ∨ f = 1) with rfl | rfl <;> (go_simp; exact h)
theorem op_ixD {o : Oper} {d t i b off n c k : Nat} (ho : o.op = .indexAddr 22 (.tmp t) (.tmp i)) (hd : o.dst = some d) (hs : slot a t = .slice (some ⟨b, off, none⟩) n c) (hi : slot a i = .int .i64 (k : Int)) (hk : k < n) (h : K (putSlot a d (.pointer (some ⟨b, off + k * 3, none⟩))) w) : o.wp Tryz.prog a w K Q := by
  obtain ⟨op, dst, ty, pos, after, guard⟩ := o
  dsimp only at ho hd
  subst ho hd
  have hs' : a.tmps[t]?.getD undef = .slice (some ⟨b, off, none⟩) n c := hs
  have hi' : a.tmps[i]?.getD undef = .int .i64 (k : Int) := hi
  have h0 : (0 : Int) ≤ (k : Int) := by omega
  have h1 : (k : Int) < (n : Int) := by omega
  unfold Oper.wp
  go_simp
  exact h
set_option maxRecDepth 100000 in
theorem op_fD {o : Oper} {d t b off f : Nat} (hf : f < 3) (ho : o.op = .fieldAddr 46 (.tmp t) f) (hd : o.dst = some d) (hs : slot a t = .pointer (some ⟨b, off, none⟩)) (h : K (putSlot a d (.pointer (some ⟨b, off + f, none⟩))) w) : o.wp Tryz.prog a w K Q := by
  obtain ⟨op, dst, ty, pos, after, guard⟩ := o
  dsimp only at ho hd
  subst ho hd
  have hs' : a.tmps[t]?.getD undef = .pointer (some ⟨b, off, none⟩) := hs
  unfold Oper.wp
  rcases (by omega : f = 0 ∨ f = 1 ∨ f = 2) with rfl | rfl | rfl <;> (go_simp; exact h)
theorem op_ldI {o : Oper} {d t b off : Nat} {v : Value} (ho : o.op = .load 3 (.tmp t)) (hd : o.dst = some d) (hs : slot a t = .pointer (some ⟨b, off, none⟩)) (hc : w.cell? ⟨b, off, none⟩ = some v) (h : K (putSlot a d v) w) : o.wp Tryz.prog a w K Q := by
  obtain ⟨op, dst, ty, pos, after, guard⟩ := o
  dsimp only at ho hd
  subst ho hd
  have hs' : a.tmps[t]?.getD undef = .pointer (some ⟨b, off, none⟩) := hs
  unfold Oper.wp
  go_simp
  exact h
theorem op_bsI {o : Oper} {d t : Nat} {x : Int} (ho : o.op = .buildSlice 38 1 #[(0, .tmp t)]) (hd : o.dst = some d) (hs : slot a t = .int .i64 x) (h : K (putSlot a d (.slice (some ⟨w.heap.size, 0, none⟩) 1 1)) (w.alloc (.cells #[.int .i64 x] 3))) : o.wp Tryz.prog a w K Q := by
  obtain ⟨op, dst, ty, pos, after, guard⟩ := o
  dsimp only at ho hd
  subst ho hd
  have hs' : a.tmps[t]?.getD undef = .int .i64 x := hs
  unfold Oper.wp
  go_simp
  exact h
end
/-- A literal of one integer, in a block from B on. -/
def OneI (x : Int) (B : Nat) : Value → World → Prop := fun v W => ∃ b, v = .slice (some ⟨b, 0, none⟩) 1 1 ∧ B ≤ b ∧ W.heap[b]? = some (.cells #[.int .i64 x] 3 (0, 0))
theorem oneI_mono (x : Int) (B : Nat) : Mono (OneI x B) := by
  rintro v w w' ⟨b, h1, h2, h3⟩ hb; exact ⟨b, h1, h2, (hb.block b (Array.getElem?_eq_some_iff.1 h3).1).trans h3⟩
/-- One number more, behind a literal of one number at b: the list lies where it lay, or in a new block. -/
theorem wpList_appJ {ops : Array Oper} {rest : List Oper} {o : Oper} {a : Act} {Q : Exit → Act → World → Prop} (hgd : o.guard = none) (s x : Operand)
    (ho : o.op = .call { callee := .builtin .append, args := #[s, x], argTypes := #[38, 38] })
    (W : World) (d : Int) (B : Nat) (v : Value) (n : Nat) (f : Nat → Int) (hs : a.eval s = v) (b : Nat) (hx : a.eval x = .slice (some ⟨b, 0, none⟩) 1 1) (hb : W.heap[b]? = some (.cells #[.int .i64 d] 3 (0, 0)))
    (hown : OwnI W B v n f) (hn : n ≤ 1000000) (hB : B ≤ W.heap.size)
    (h : ∀ v' w', OwnI w' B v' (n + 1) (updZ f n d) → W.grownBy w' v.ownBlock → (v'.ownBlock = v.ownBlock ∨ ∃ g, v'.ownBlock = some g ∧ W.heap.size ≤ g) → wpList Tryz.prog ops Q rest (a.put o.dst v') w') : wpList Tryz.prog ops Q (o :: rest) a W := by
  obtain ⟨xs, h1, h2⟩ := hown
  obtain ⟨i0, hi0, hz0, hz1, hz2⟩ := info_parts info_int
  have hnew : ∀ j u, [Value.int .i64 d][j]? = some u → W.cell? ((⟨b, 0, none⟩ : Addr).add j) = some u := by
    intro j u hu
    have hj : j = 0 := by
      rcases j with _ | j
      · rfl
      · simp at hu
    subst hj
    have hu' : u = .int .i64 d := by simpa using hu.symm
    subst hu'
    simp [World.cell?, hb, Addr.add]
  refine wpList_append_own_at _ hgd s x 38 ho B 3 i0 (.int .i64 0) 1 8 Tryz.underlying38 hi0 hz0 hz1 hz2 rfl Nat.zero_lt_one v n xs hs h1 ⟨b, 0, none⟩ 1 1 [.int .i64 d] hx rfl hnew
    (fun u hu => by have h9 : u = .int .i64 d := by simpa using hu
                    subst h9; rfl) (by unfold maxLen; omega) (by omega) hB ?_
  intro v' w' g1 g2 _ g4
  refine h v' w' ⟨xs ++ [.int .i64 d], g1, fun k hk => ?_⟩ g2 (g4.imp id fun h9 => ⟨_, h9, Nat.le_refl _⟩)
  have hl : xs.length = n := by rw [h1.1, Nat.mul_one]
  unfold updZ
  by_cases e : k = n
  · subst e
    rw [if_pos rfl, List.getElem?_append_right (by omega), hl, Nat.sub_self]
    rfl
  · rw [if_neg e, List.getElem?_append_left (by omega)]
    exact h2 k (by omega)
end Go.Proofs.YtoippldgoehpcaaGreatDoor
end

/- The box of all coordinates: the program. -/
section
namespace Go.Proofs.YtoippldgoehpcaaGreatDoor
open Go Go.RowKit Go.Deep

/-- What Whole returns. -/
def WholeR (nm : Nat → ByteArray) (lo hi : Nat → Int) (n : Nat) (e : Ending) (w' : World) : Prop :=
  ∃ (P Q : Option Addr) (k c d : Nat), e = .returned (.tuple #[BoxW P Q k c k d, .int .i64 (dimsZ nm lo hi n)]) ∧ k = (if dimsZ nm lo hi n = 0 then n else 0) ∧ IntsAt w' P k lo ∧ IntsAt w' Q k hi
set_option maxRecDepth 100000 in
set_option maxHeartbeats 4000000 in
theorem s_Whole (w : World) (A : Option Addr) (n cap : Nat) (nm : Nat → ByteArray) (lo hi : Nat → Int) (hd : DimsAt w A n nm lo hi) :
    Calls Tryz.prog 37 #[.slice A n cap] w fun e w' => WholeR nm lo hi n e w' ∧ Below w.heap.size w w' := by
  have HB0 : Hid (Below w.heap.size w (w.alloc (.cells #[.slice none 0 0, .slice none 0 0] 66))) := (Below.refl _ _).alloc (Nat.le_refl _) _
  have HR0 := Lib.hid (heap_alloc_new w (.cells #[.slice none 0 0, .slice none 0 0] 66))
  have hz0 : (w.alloc (.cells #[.slice none 0 0, .slice none 0 0] 66)).heap.size = w.heap.size + 1 := by simp
  have HDm := s_dims (w.alloc (.cells #[.slice none 0 0, .slice none 0 0] 66)) A n cap nm lo hi (hd.below HB0.out)
  rw [hz0] at HDm
  have HDm := Lib.hid HDm
  have HD := Lib.hid hd
  have HY : Hid (dimsZ nm lo hi n = 0 → ∀ W P Q c d, IntsAt W P n lo → IntsAt W Q n hi → WholeR nm lo hi n (.returned (.tuple #[BoxW P Q n c n d, .int .i64 0])) W) := fun h W P Q c d h1 h2 => ⟨P, Q, n, c, d, by rw [h], by rw [if_pos h], h1, h2⟩
  have HN : Hid (dimsZ nm lo hi n ≠ 0 → ∀ W, WholeR nm lo hi n (.returned (.tuple #[BoxW none none 0 0 0 0, .int .i64 (dimsZ nm lo hi n)])) W) := fun h W => ⟨none, none, 0, 0, 0, rfl, by rw [if_neg h], fun h => absurd h (Nat.lt_irrefl 0), fun h => absurd h (Nat.lt_irrefl 0)⟩
  have HOk : Hid (dimsZ nm lo hi n = 0 → n ≤ 4) := fun h => (dimsZ_ok h).2.1
  clear hd
  have hmm := @run_makeMap Tryz.prog
  generalize WholeR nm lo hi n = R at *
  generalize dimsZ nm lo hi n = z at *
  go_enter Tryz.func37, Tryz.ntmps37
  go_wp2_with fail
  generalize w.alloc (.cells #[.slice none 0 0, .slice none 0 0] 66) = W0 at *
  refine HDm.out.mono ?_
  rintro e w1 ⟨rfl, hb1, hz1, -⟩
  have HB1 : Hid (Below w.heap.size w w1) := HB0.out.trans (hb1.mono (by omega))
  have HR1 : Hid (w1.heap[w.heap.size]? = some (.cells #[.slice none 0 0, .slice none 0 0] 66 (0, 0))) := (hb1.block _ (by omega)).trans HR0.out
  clear hb1 HDm HR0
  by_cases h0 : z = 0
  · subst h0
    have hn4 := HOk.out rfl
    have HY2 := Lib.hid (HY.out rfl)
    clear HY HN HOk
    have hmk := fun W => run_make_row' (P := Tryz.prog) 38 3 (.int .i64 0) 8 Tryz.underlying38 info_int rfl .i64 .i64 n (by omega) (by omega) W
    go_wp2_with fail
    rename_i K hK
    have key : ∀ (bl bh bb : Nat) (W2 : World), W2.rowIs bl 3 n (fun _ => .int .i64 0) → W2.rowIs bh 3 n (fun _ => .int .i64 0) → W2.heap[bb]? = some (.cells #[.slice (some ⟨bl, 0, none⟩) n n, .slice (some ⟨bh, 0, none⟩) n n] 66 (0, 0)) → Below w1.heap.size w1 W2 → (w1.heap.size ≤ bl ∧ w1.heap.size ≤ bh ∧ w1.heap.size ≤ bb ∧ bl ≠ bh ∧ bl ≠ bb ∧ bh ≠ bb) → K ⟨#[.slice A n cap, undef, .pointer (some ⟨w.heap.size, 0, none⟩), .int .i64 0, .int .i64 0, .pointer (some ⟨bb, 0, none⟩), undef, undef, .slice A n cap, .map (some (w.heap.size + 1)), .int .i64 0, .int .i64 0, .bool false, undef, undef, .slice A n cap, .int .i64 n, .slice (some ⟨bl, 0, none⟩) n n, .slice A n cap, .int .i64 n, .slice (some ⟨bh, 0, none⟩) n n, .agg #[.slice (some ⟨bl, 0, none⟩) n n, .slice (some ⟨bh, 0, none⟩) n n], undef, undef, undef, undef, undef, undef, undef, undef, undef, undef, undef, undef, undef, undef, undef, undef, undef, undef, undef, undef, undef], []⟩ W2 := by
      intro bl bh bb W2 r1 r2 r3 hb2 hne
      refine hK _ _ ?_
      clear hK hmk
      have HR3 : Hid (∀ W : World, W.heap[bb]? = W2.heap[bb]? → W.heap[bb]? = some (.cells #[.slice (some ⟨bl, 0, none⟩) n n, .slice (some ⟨bh, 0, none⟩) n n] 66 (0, 0))) := fun W h => h.trans r3
      have HNE := Lib.hid hne
      have HRB2 := Lib.hid r3
      have HW2 : Hid (Below w.heap.size w W2) := st HB1.out hb2
      have HRe2 : Hid (W2.heap[w.heap.size]? = some (.cells #[.slice none 0 0, .slice none 0 0] 66 (0, 0))) := (hb2.block _ (by omega)).trans HR1.out
      have s2 := hb2.size
      clear r3 hb2 hne
      go_wp2
      go_loopw [6, 7, 24] (fun _ _ i wr => ∃ (k : Nat) (f g : Nat → Int), k ≤ n ∧ i = .int .i64 k ∧ wr.rowIs bl 3 n (fun j => .int .i64 (f j)) ∧ wr.rowIs bh 3 n (fun j => .int .i64 (g j)) ∧ Hid (∀ j, j < k → f j = lo j ∧ g j = hi j) ∧ Hid (wr.heap[bb]? = W2.heap[bb]?) ∧ Hid (wr.heap[w.heap.size]? = some (.cells #[.slice none 0 0, .slice none 0 0] 66 (0, 0))) ∧ Hid (Below w.heap.size w wr)) (fun _ _ i _ => n - (intOf i).toNat)
      case atStart => exact ⟨0, fun _ => 0, fun _ => 0, Nat.zero_le _, rfl, r1, r2, fun j hj => absurd hj (by omega), rfl, HRe2.out, HW2.out⟩
      case round =>
        obtain ⟨k, f, g, hk, rfl, hf1, hg1, HV, HQ, HRe, HBw⟩ := hrel
        have hrb := HR3.out wr HQ.out
        have b0 : wr.cell? ⟨bb, 0, none⟩ = some (.slice (some ⟨bl, 0, none⟩) n n) := by rw [cell_of_row _ _ _ _ _ _ hrb]; rfl
        have b1 : wr.cell? ⟨bb, 1, none⟩ = some (.slice (some ⟨bh, 0, none⟩) n n) := by rw [cell_of_row _ _ _ _ _ _ hrb]; rfl
        by_cases hlt : k < n
        · obtain ⟨bd, od, rfl, hbd, hc⟩ := HD.out (by omega)
          obtain ⟨d0, d1, d2⟩ := hc k hlt
          have c0 := (HBw.out.cell (p := ⟨bd, od + k * 3, none⟩) hbd).trans d0
          have c1 := (HBw.out.cell (p := ⟨bd, od + k * 3 + 1, none⟩) hbd).trans d1
          have c2 := (HBw.out.cell (p := ⟨bd, od + k * 3 + 2, none⟩) hbd).trans d2
          clear hc d0 d1 d2
          have hS := hf1.cell (i := k) (by omega)
          have hZ := hf1.frozen k
          have hS2 := hg1.cell (i := k) (by omega)
          have hZ2 := hg1.frozen k
          have Bx := bel_nw wr (.cells #[.string (nm k), .int .i64 (lo k), .int .i64 (hi k)] 46)
          have KC := Lib.hid (arr_box wr (.string (nm k)) (.int .i64 (lo k)) (.int .i64 (hi k)) 46)
          have hbbl : bb < wr.heap.size := (Array.getElem?_eq_some_iff.1 hrb).1
          have hf2 : (wr.alloc (.cells #[.string (nm k), .int .i64 (lo k), .int .i64 (hi k)] 46)).rowIs bl 3 n (fun j => .int .i64 (f j)) := hf1.of_block (Bx.block bl hf1.lt)
          have hg2 : (wr.alloc (.cells #[.string (nm k), .int .i64 (lo k), .int .i64 (hi k)] 46)).rowIs bh 3 n (fun j => .int .i64 (g j)) := hg1.of_block (Bx.block bh hg1.lt)
          have hrb2 := (Bx.block bb hbbl).trans hrb
          have HBx : Hid (Below w.heap.size w (wr.alloc (.cells #[.string (nm k), .int .i64 (lo k), .int .i64 (hi k)] 46))) := st HBw.out Bx
          have hrl := (Array.getElem?_eq_some_iff.1 HRe.out).1
          have HRx := Lib.hid ((Bx.block _ hrl).trans HRe.out)
          have hll := hf1.lt
          have hhl := hg1.lt
          go_wp2_with fail
          clear hS hZ hS2 hZ2 c0 c1 c2 b0 b1 hrb hf1 hg1
          generalize hwx : wr.alloc (.cells #[.string (nm k), .int .i64 (lo k), .int .i64 (hi k)] 46) = wx at *
          have hzx : wx.heap.size = wr.heap.size + 1 := by rw [← hwx]; simp
          clear hwx
          have hne := HNE.out
          have HKK : Hid (∀ W, Below wx.heap.size wx W → (W.cell? ⟨bb, 0, none⟩ = some (.slice (some ⟨bl, 0, none⟩) n n) ∧ W.cell? ⟨bb, 1, none⟩ = some (.slice (some ⟨bh, 0, none⟩) n n)) ∧ W.cell? ⟨wr.heap.size, 0, none⟩ = some (.string (nm k)) ∧ W.cell? ⟨wr.heap.size, 1, none⟩ = some (.int .i64 (lo k)) ∧ W.cell? ⟨wr.heap.size, 2, none⟩ = some (.int .i64 (hi k))) := fun W hW => by
            have h9 := (hW.block bb (by omega)).trans hrb2
            exact ⟨⟨by rw [cell_of_row _ _ _ _ _ _ h9]; rfl, by rw [cell_of_row _ _ _ _ _ _ h9]; rfl⟩, KC.out W hW⟩
          have HKS : Hid (∀ W u, Below wx.heap.size wx W → ((W.setCell ⟨bl, k, none⟩ u).cell? ⟨bb, 0, none⟩ = some (.slice (some ⟨bl, 0, none⟩) n n) ∧ (W.setCell ⟨bl, k, none⟩ u).cell? ⟨bb, 1, none⟩ = some (.slice (some ⟨bh, 0, none⟩) n n)) ∧ (W.setCell ⟨bl, k, none⟩ u).cell? ⟨wr.heap.size, 0, none⟩ = some (.string (nm k)) ∧ (W.setCell ⟨bl, k, none⟩ u).cell? ⟨wr.heap.size, 1, none⟩ = some (.int .i64 (lo k)) ∧ (W.setCell ⟨bl, k, none⟩ u).cell? ⟨wr.heap.size, 2, none⟩ = some (.int .i64 (hi k))) := fun W u hW => by
            have h1 : ∀ b', b' ≠ bl → (W.setCell ⟨bl, k, none⟩ u).heap[b']? = W.heap[b']? := fun b' hb => blk_setCell_other W ⟨bl, k, none⟩ u b' hb
            have h2 := HKK.out W hW
            rw [cell_blk (h1 bb (by omega)), cell_blk (h1 wr.heap.size (by omega)), cell_blk (h1 bb (by omega)), cell_blk (h1 wr.heap.size (by omega)), cell_blk (h1 wr.heap.size (by omega))]
            exact h2
          have HKT : Hid (∀ W : World, (∀ b', b' ≠ bl → b' ≠ bh → W.heap[b']? = wx.heap[b']?) → (W.cell? ⟨bb, 0, none⟩ = some (.slice (some ⟨bl, 0, none⟩) n n) ∧ W.cell? ⟨bb, 1, none⟩ = some (.slice (some ⟨bh, 0, none⟩) n n)) ∧ W.cell? ⟨wr.heap.size, 0, none⟩ = some (.string (nm k)) ∧ W.cell? ⟨wr.heap.size, 1, none⟩ = some (.int .i64 (lo k)) ∧ W.cell? ⟨wr.heap.size, 2, none⟩ = some (.int .i64 (hi k))) := fun W hW => by
            have h2 := HKK.out wx (Below.refl _ _)
            have h3 := hW bb (by omega) (by omega)
            have h4 := hW wr.heap.size (by omega) (by omega)
            rw [cell_blk h3, cell_blk h3, cell_blk h4, cell_blk h4, cell_blk h4]
            exact h2
          have HKU := Lib.hid (HKT.out ((wx.setCell ⟨bl, k, none⟩ (.int .i64 (lo k))).setCell ⟨bh, k, none⟩ (.int .i64 (hi k))) (fun b' h1 h2 => (blk_setCell_other _ _ _ _ h2).trans (blk_setCell_other _ _ _ _ h1)))
          have B0d : Below wx.heap.size wx wx.drew := Below.drew (Below.refl _ _)
          have hfd : wx.drew.rowIs bl 3 n (fun j => .int .i64 (f j)) := hf2
          have hgd : wx.drew.rowIs bh 3 n (fun j => .int .i64 (g j)) := hg2
          have hS := hfd.cell (i := k) (by omega)
          have hZ := hfd.frozen k
          have hge : (wx.setCell ⟨bl, k, none⟩ (.int .i64 (lo k))).drew.rowIs bh 3 n (fun j => .int .i64 (g j)) := hg2.setOther (a := ⟨bl, k, none⟩) (by show bh ≠ bl; omega) (.int .i64 (lo k))
          have hS2 := hge.cell (i := k) (by omega)
          have hZ2 := hge.frozen k
          go_region_held3 (fun W => (W.cell? ⟨bb, 0, none⟩ = some (.slice (some ⟨bl, 0, none⟩) n n) ∧ W.cell? ⟨bb, 1, none⟩ = some (.slice (some ⟨bh, 0, none⟩) n n)) ∧ W.cell? ⟨wr.heap.size, 0, none⟩ = some (.string (nm k)) ∧ W.cell? ⟨wr.heap.size, 1, none⟩ = some (.int .i64 (lo k)) ∧ W.cell? ⟨wr.heap.size, 2, none⟩ = some (.int .i64 (hi k)))
            (first | exact HKU.out | exact HKS.out wx _ (Below.refl _ _) | exact HKK.out _ B0d | exact HKK.out _ (Below.refl _ _))
            (first | fail)
          all_goals
            have hf5 := (set_int hf2 k (lo k) (.int .i64 (lo k)) rfl).setOther (a := ⟨bh, k, none⟩) (by show bl ≠ bh; omega) (.int .i64 (hi k))
            have hg5 := set_int (hg2.setOther (a := ⟨bl, k, none⟩) (by show bh ≠ bl; omega) (.int .i64 (lo k))) k (hi k) (.int .i64 (hi k)) rfl
            have HQ5 : Hid (((wx.setCell ⟨bl, k, none⟩ (.int .i64 (lo k))).setCell ⟨bh, k, none⟩ (.int .i64 (hi k))).heap[bb]? = W2.heap[bb]?) := ((blk_setCell_other _ _ _ _ (by show bb ≠ bh; omega)).trans ((blk_setCell_other _ _ _ _ (by show bb ≠ bl; omega)).trans hrb2)).trans HRB2.out.symm
            have HR5 : Hid (((wx.setCell ⟨bl, k, none⟩ (.int .i64 (lo k))).setCell ⟨bh, k, none⟩ (.int .i64 (hi k))).heap[w.heap.size]? = some (.cells #[.slice none 0 0, .slice none 0 0] 66 (0, 0))) := (blk_setCell_other _ _ _ _ (by show w.heap.size ≠ bh; omega)).trans ((blk_setCell_other _ _ _ _ (by show w.heap.size ≠ bl; omega)).trans HRx.out)
            have HB5 : Hid (Below w.heap.size w ((wx.setCell ⟨bl, k, none⟩ (.int .i64 (lo k))).setCell ⟨bh, k, none⟩ (.int .i64 (hi k)))) := (HBx.out.setCell (p := ⟨bl, k, none⟩) (by show w.heap.size ≤ bl; omega) _).setCell (p := ⟨bh, k, none⟩) (by show w.heap.size ≤ bh; omega) _
            go_wp2
            go_roundw
            case rel =>
              refine ⟨k + 1, updZ f k (lo k), updZ g k (hi k), by omega, by go_num, hf5, hg5, fun j hj => ?_, HQ5.out, HR5.out, Below.drew HB5.out⟩
              by_cases e : j = k
              · subst e
                exact ⟨by rw [updZ, if_pos rfl], by rw [updZ, if_pos rfl]⟩
              · rw [updZ, if_neg e, updZ, if_neg e]
                exact HV.out j (by omega)
            case measure => simp [intOf]; omega
        · obtain rfl : k = n := by omega
          have hne := HNE.out
          have hIl : IntsAt wr (some ⟨bl, 0, none⟩) k lo := ints_row (hf1.congr fun j hj => by rw [(HV.out j hj).1])
          have hIh : IntsAt wr (some ⟨bh, 0, none⟩) k hi := ints_row (hg1.congr fun j hj => by rw [(HV.out j hj).2])
          have HI := Lib.hid (And.intro hIl.row hIh.row)
          clear hIl hIh
          have hres := HRe.out
          obtain ⟨r0, r1, z0, z1⟩ := box_at hres
          go_wp2
          refine bodyPost_ret (v := .tuple #[BoxV (some ⟨bl, 0, none⟩) (some ⟨bh, 0, none⟩) k k k k, .int .i64 0]) (res_cell_tmp Tryz.results37 _ _ (w.heap.size) 66 _ (0, 0) _ rfl (put2 hres _ _) Tryz.underlying66 rfl (by rw [info_box]; rfl)) rfl ?_
          have gr : wr.grownBy ((wr.setCell ⟨w.heap.size, 0, none⟩ (.slice (some ⟨bl, 0, none⟩) k k)).setCell ⟨w.heap.size, 1, none⟩ (.slice (some ⟨bh, 0, none⟩) k k)) (some w.heap.size) := gr2 (grown_set _ _ _ _) (grown_set _ _ _ _)
          exact ⟨HY2.out _ _ _ _ _ (HI.out.1.grown gr (fun _ a ha => by injection ha with ha; subst ha; show bl ≠ w.heap.size; omega)).ints (HI.out.2.grown gr (fun _ a ha => by injection ha with ha; subst ha; show bh ≠ w.heap.size; omega)).ints, (HBw.out.setCell (p := ⟨w.heap.size, 0, none⟩) (Nat.le_refl _) _).setCell (p := ⟨w.heap.size, 1, none⟩) (Nat.le_refl _) _⟩
    have KEY := Lib.hid key
    clear key
    go_region_held3 (fun W => True)
      (first | exact trivial)
      (first | fail)
    all_goals
      obtain ⟨q0, q1, q2, q3⟩ := al3 w1 _ _ _
      first
      | exact KEY.out _ _ _ _ (row_made q0) (row_made q1) q2 q3 (by omega)
      | exact KEY.out _ _ _ _ (row_made q1) (row_made q0) q2 q3 (by omega)
      | exact KEY.out _ _ _ _ (row_made q0) (row_made q2) q1 q3 (by omega)
      | exact KEY.out _ _ _ _ (row_made q2) (row_made q0) q1 q3 (by omega)
      | exact KEY.out _ _ _ _ (row_made q1) (row_made q2) q0 q3 (by omega)
      | exact KEY.out _ _ _ _ (row_made q2) (row_made q1) q0 q3 (by omega)
  · have g2 : (z != 0) = true := by rw [bne_iff_ne]; exact h0
    have HN2 := Lib.hid (HN.out h0)
    have hres := HR1.out
    obtain ⟨r0, r1, z0, z1⟩ := box_at hres
    go_wp2
    refine bodyPost_ret (v := .tuple #[BoxV none none 0 0 0 0, .int .i64 z]) (res_cell_tmp Tryz.results37 _ _ (w.heap.size) 66 _ (0, 0) _ rfl (put2 hres _ _) Tryz.underlying66 rfl (by rw [info_box]; rfl)) rfl ?_
    exact ⟨HN2.out _, (HB1.out.setCell (p := ⟨w.heap.size, 0, none⟩) (Nat.le_refl _) _).setCell (p := ⟨w.heap.size, 1, none⟩) (Nat.le_refl _) _⟩
end Go.Proofs.YtoippldgoehpcaaGreatDoor
end

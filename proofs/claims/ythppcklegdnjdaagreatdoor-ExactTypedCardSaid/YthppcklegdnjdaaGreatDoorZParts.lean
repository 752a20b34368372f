/- Appending to a slice of one's own: what every cell of its array is. -/
import Derived.Laws.AppendOwn
import Derived.Lib.AppendZeros
import Derived.Below
import Derived.Tactics
import Derived.Test.YthppcklegdnjdaaGreatDoorZSumG

/- Appending to a slice of one's own: what every cell of its array is. -/
section
namespace Go.Proofs.YthppcklegdnjdaaGreatDoor
open Go Go.RowKit

/-- Every cell of a slice's array is in Pr. -/
def AllIn (w : World) (v : Value) (Pr : Value → Prop) : Prop := ∀ g, v.ownBlock = some g → ∀ o u, w.cell? ⟨g, o, none⟩ = some u → Pr u

theorem mem_zeroCells {z : Array Value} {n : Nat} {u : Value} (h : u ∈ Builtin.zeroCells z n) (hz : 0 < z.size) : u ∈ z := by
  unfold Builtin.zeroCells at h
  rw [Array.mem_map] at h
  obtain ⟨i, _, rfl⟩ := h
  have hi : i % z.size < z.size := Nat.mod_lt _ hz
  rw [getElem!_pos z _ hi]
  exact Array.getElem_mem hi
theorem cell_mem {w : World} {g o : Nat} {cur : Array Value} {e : TypeId} {u : Value} (hg : w.heap[g]? = some (.cells cur e (0, 0))) (h : w.cell? ⟨g, o, none⟩ = some u) : u ∈ cur := by
  rw [cell_of_row w g o cur e (0, 0) hg] at h
  exact Array.mem_of_getElem? h
theorem mem_cell {w : World} {g : Nat} {cur : Array Value} {e : TypeId} {u : Value} (hg : w.heap[g]? = some (.cells cur e (0, 0))) (h : u ∈ cur) : ∃ o, w.cell? ⟨g, o, none⟩ = some u := by
  obtain ⟨j, hj, rfl⟩ := Array.mem_iff_getElem.1 h
  exact ⟨j, by rw [cell_of_row w g j cur e (0, 0) hg]; exact Array.getElem?_eq_getElem hj⟩

theorem run_append_all {P : Program} (w : World) (base : Nat) (t ty e : TypeId) (i : TypeInfo) (z : Value) (size bytes : Nat) (ht : P.underlying t = some (.slice e)) (hi : P.info? e = some i) (hz : i.zero = some z)
    (hsize : i.size = size) (hby : i.bytes = bytes) (hzs : z.cells.size = size) (hsz : 0 < size) (v : Value) (n : Nat) (xs : List Value) (hown : w.ownsRow base e size v n xs)
    (a : Addr) (m c : Nat) (news : List Value) (hl : news.length = m * size) (hnews : ∀ j u, news[j]? = some u → w.cell? (a.add j) = some u) (h1 : ∀ u ∈ news, u.oneCell' = true)
    (h63 : n + m ≤ maxLen) (hbytes : (n + m) * bytes ≤ 140737488355328) (hbase : base ≤ w.heap.size)
    (Pr : Value → Prop) (hP0 : ∀ u ∈ z.cells, Pr u) (hPn : ∀ u ∈ news, Pr u) (hPv : AllIn w v Pr) :
    ∃ v' w', (Builtin.append_ #[t, t] ty #[v, .slice (some a) m c]).run P w = .ok v' w' ∧ w'.ownsRow base e size v' (n + m) (xs ++ news) ∧ w.grownBy w' v.ownBlock ∧ AllIn w' v' Pr := by
  obtain ⟨v', w', hr, h2, h3, h4⟩ := run_append_own (P := P) w base t ty e i z size bytes ht hi hz hsize hby hzs hsz v n xs hown a m c news hl hnews h1 h63 hbytes hbase
  refine ⟨v', w', hr, h2, h3, ?_⟩
  subst hsize hby
  have hxs : ∀ u ∈ xs, Pr u := by
    intro u hu
    rcases hown.2 with ⟨_, hn0⟩ | ⟨g, cap, cur, rfl, _, hg, _, _, _, htake⟩
    · have hx : xs = [] := List.eq_nil_of_length_eq_zero (by rw [hown.1, hn0, Nat.zero_mul])
      rw [hx] at hu
      cases hu
    · rw [← htake] at hu
      obtain ⟨o, ho⟩ := mem_cell hg (Array.mem_toList_iff.1 (List.mem_of_mem_take hu))
      exact hPv g rfl o u ho
  have zer : ∀ k, ∀ u ∈ Builtin.zeroCells z.cells k, Pr u := fun k u hu => hP0 u (mem_zeroCells hu (by rw [hzs]; exact hsz))
  have new : ∀ (arr : Array Value) (len cap : Nat), (∀ u ∈ arr, Pr u) → AllIn (w.drew.alloc (.cells arr e)) (.slice (some ⟨w.heap.size, 0, none⟩) len cap) Pr := by
    intro arr len cap ha g hg o u hu
    obtain rfl : w.heap.size = g := by simpa [Value.ownBlock] using hg
    exact ha u (cell_mem (heap_alloc_new w.drew _) hu)
  rcases hown.2 with ⟨rfl, rfl⟩ | ⟨g, cap, cur, rfl, hbg, hg, hnc, hcm, hcs, htake⟩
  · by_cases hm : m = 0
    · obtain rfl : v' = .slice none 0 0 := h4.2 ⟨rfl, hm⟩
      intro g hg
      simp [Value.ownBlock] at hg
    · have hr2 := run_append_nil (P := P) w t ty e i z ht hi hz a m c news hl hnews (by omega) (by simp only [maxLen] at h63; omega) (by have := hbytes; simp only [Nat.zero_add] at this; omega)
      rw [hr] at hr2
      injection hr2 with e1 e2
      subst e1 e2
      refine new _ _ _ fun u hu => ?_
      rcases Array.mem_append.1 hu with hu | hu
      · exact hPn u (by simpa using hu)
      · exact zer _ u hu
  · by_cases hroom : n + m ≤ cap
    · have hr2 := run_append_room (P := P) w t ty e i ht hi g n cap cur hg a m c news hl hnews h1 hroom (by rw [hl, hcs, ← Nat.add_mul]; exact Nat.mul_le_mul_right _ hroom)
      rw [hr] at hr2
      injection hr2 with e1 e2
      subst e1 e2
      intro g' hg' o u hu
      obtain rfl : g = g' := by simpa [Value.ownBlock] using hg'
      have hm := cell_mem (setRow_heap w g cur _ e _ hg) hu
      have old : u ∈ cur.toList → Pr u := fun h => by
        obtain ⟨o', ho'⟩ := mem_cell hg (Array.mem_toList_iff.1 h)
        exact hPv g rfl o' u ho'
      rw [List.mem_toArray, List.mem_append, List.mem_append] at hm
      rcases hm with (h | h) | h
      · exact old (List.mem_of_mem_take h)
      · exact hPn u h
      · exact old (List.mem_of_mem_drop h)
    · have hr2 := run_append_grow (P := P) w t ty e i z ht hi hz ⟨g, 0, none⟩ n cap xs hown.1 (hown.cells (g := g) rfl) a m c news hl hnews (by omega) (by simp only [maxLen] at h63; omega) (growslice_fits (by omega) hbytes)
      rw [hr] at hr2
      injection hr2 with e1 e2
      subst e1 e2
      refine new _ _ _ fun u hu => ?_
      rcases Array.mem_append.1 hu with hu | hu
      · rcases Array.mem_append.1 hu with hu | hu
        · exact hxs u (by simpa using hu)
        · exact hPn u (by simpa using hu)
      · exact zer _ u hu

theorem wpList_append_all {P : Program} (w : World) {ops : Array Oper} {rest : List Oper} {o : Oper} {a : Act} {Q : Exit → Act → World → Prop} (hgd : o.guard = none) (s x : Operand) (t : TypeId)
    (ho : o.op = .call { callee := .builtin .append, args := #[s, x], argTypes := #[t, t] })
    (base : Nat) (e : TypeId) (i : TypeInfo) (z : Value) (size bytes : Nat) (ht : P.underlying t = some (.slice e)) (hi : P.info? e = some i) (hz : i.zero = some z)
    (hsize : i.size = size) (hby : i.bytes = bytes) (hzs : z.cells.size = size) (hsz : 0 < size) (v : Value) (n : Nat) (xs : List Value) (hs : a.eval s = v) (hown : w.ownsRow base e size v n xs)
    (ad : Addr) (m c : Nat) (news : List Value) (hx : a.eval x = .slice (some ad) m c) (hl : news.length = m * size) (hnews : ∀ j u, news[j]? = some u → w.cell? (ad.add j) = some u) (h1 : ∀ u ∈ news, u.oneCell' = true)
    (h63 : n + m ≤ maxLen) (hbytes : (n + m) * bytes ≤ 140737488355328) (hbase : base ≤ w.heap.size)
    (Pr : Value → Prop) (hP0 : ∀ u ∈ z.cells, Pr u) (hPn : ∀ u ∈ news, Pr u) (hPv : AllIn w v Pr)
    (h : ∀ v' w', w'.ownsRow base e size v' (n + m) (xs ++ news) → w.grownBy w' v.ownBlock → AllIn w' v' Pr → wpList P ops Q rest (a.put o.dst v') w') : wpList P ops Q (o :: rest) a w := by
  obtain ⟨v', w', hr, h2, h3, h4⟩ := run_append_all (P := P) w base t o.type e i z size bytes ht hi hz hsize hby hzs hsz v n xs hown ad m c news hl hnews h1 h63 hbytes hbase Pr hP0 hPn hPv
  exact Lib.wpList_append_run w hgd s x t t ho v _ hs hx v' w' hr (h v' w' h2 h3 h4)
end Go.Proofs.YthppcklegdnjdaaGreatDoor
end

/- ExactParts: sums in parts: the whole walk of the law. -/
section
namespace Go.Proofs.YthppcklegdnjdaaGreatDoor
open Go Go.RowKit Go.Deep

/-- A list with one more element. -/
def ext {α : Type} (f : Nat → α) (k : Nat) (x : α) : Nat → α := fun j => if j = k then x else f j
theorem ext_same {α : Type} (f : Nat → α) (k : Nat) (x : α) : ext f k x k = x := by unfold ext; rw [if_pos rfl]
theorem ext_ne {α : Type} (f : Nat → α) (k : Nat) (x : α) (j : Nat) (h : j ≠ k) : ext f k x j = f j := by unfold ext; rw [if_neg h]
theorem ext_map {α : Type} (f : Nat → α) (k : Nat) (x : α) : (List.range (k + 1)).map (ext f k x) = (List.range k).map f ++ [x] := by
  rw [List.range_succ, List.map_append, List.map_singleton, ext_same]
  congr 1
  exact List.map_congr_left fun j hj => ext_ne f k x j (by have := List.mem_range.1 hj; omega)

theorem sumQ_congr (f g : Nat → Rat) : ∀ n, (∀ j, j < n → f j = g j) → sumQ f n = sumQ g n
  | 0, _ => rfl
  | n + 1, h => by
    show sumQ f n + f n = sumQ g n + g n
    rw [sumQ_congr f g n (fun j hj => h j (by omega)), h n (by omega)]
theorem sumQ_front (f : Nat → Rat) : ∀ n, sumQ f (n + 1) = f 0 + sumQ (fun j => f (j + 1)) n
  | 0 => by
    show (0 : Rat) + f 0 = f 0 + 0
    rw [Rat.zero_add, Rat.add_zero]
  | n + 1 => by
    show sumQ f (n + 1) + f (n + 1) = f 0 + (sumQ (fun j => f (j + 1)) n + f (n + 1))
    rw [sumQ_front f n, Rat.add_assoc]
theorem sumQ_rev (f : Nat → Rat) : ∀ n, sumQ (fun j => f (n - 1 - j)) n = sumQ f n
  | 0 => rfl
  | n + 1 => by
    rw [sumQ_front]
    show f (n + 1 - 1 - 0) + _ = sumQ f n + f n
    rw [show n + 1 - 1 - 0 = n by omega, Rat.add_comm, ← sumQ_rev f n]
    congr 1
    exact sumQ_congr _ _ _ fun j _ => by show f (n + 1 - 1 - (j + 1)) = f (n - 1 - j); congr 1; omega
theorem sumQ_split (f : Nat → Rat) (k : Nat) : ∀ m, sumQ f (k + m) = sumQ f k + sumQ (fun j => f (k + j)) m
  | 0 => by
    show sumQ f k = sumQ f k + 0
    rw [Rat.add_zero]
  | m + 1 => by
    show sumQ f (k + m) + f (k + m) = sumQ f k + (sumQ (fun j => f (k + j)) m + f (k + m))
    rw [sumQ_split f k m, Rat.add_assoc]
theorem sumQ_cut (f : Nat → Rat) (k n : Nat) (h : k ≤ n) : sumQ f k + sumQ (fun j => f (k + j)) (n - k) = sumQ f n := by
  rw [← sumQ_split, Nat.add_sub_cancel' h]

def IsPtr (u : Value) : Prop := ∃ a, u = .pointer a
theorem ratV_ptrs {W W' : World} {v s : Value} {q : Rat} (h : RatV W v q) (hs : AllIn W s IsPtr) (hc : W.grownBy W' s.ownBlock) : RatV W' v q := by
  have key : ∀ b o u, W.cell? ⟨b, o, none⟩ = some u → ¬ IsPtr u → ∀ o' u', W.cell? ⟨b, o', none⟩ = some u' → W'.cell? ⟨b, o', none⟩ = some u' := by
    intro b o u hu hn o' u' hu'
    exact hc.cell hu' (fun e => hn (hs b e.symm o u hu))
  obtain ⟨b, nv, dv, e, hlt, c0, c1, c2, c3, hn, hd⟩ := h
  have hb := key b 1 _ c1 (by rintro ⟨a, ha⟩; cases ha)
  have nat : ∀ v x, NatAt W v x → NatAt W' v x := by
    rintro v x ⟨A, c, e, q1, q2, q3⟩
    refine ⟨A, c, e, q1, q2, fun hn => ?_⟩
    obtain ⟨b, o, e1, e2, e3⟩ := q3 hn
    have h0 := e3 0 hn
    exact ⟨b, o, e1, Nat.lt_of_lt_of_le e2 hc.size, fun k hk => key b (o + 0) _ h0 (by rintro ⟨a, ha⟩; cases ha) _ _ (e3 k hk)⟩
  exact ⟨b, nv, dv, e, Nat.lt_of_lt_of_le hlt hc.size, hb _ _ c0, hb _ _ c1, hb _ _ c2, hb _ _ c3, nat _ _ hn, nat _ _ hd⟩
theorem grown_below {w w' : World} {row : Option Nat} (h : Below w.heap.size w w') : w.grownBy w' row := ⟨h.os, h.tape, h.output, h.size, fun k hk _ => h.block k hk⟩
theorem AllIn.below {w w' : World} {v : Value} {Pr : Value → Prop} {base : Nat} {e : TypeId} {size n : Nat} {xs : List Value} (h : AllIn w v Pr) (ho : w.ownsRow base e size v n xs) (hb : Below w.heap.size w w') : AllIn w' v Pr := by
  intro g hg o u hu
  have hlt := (ho.lt g hg).2
  exact h g hg o u (by rw [← hb.cell (p := ⟨g, o, none⟩) hlt]; exact hu)
theorem ownsRow_below {w w' : World} {v : Value} {base : Nat} {e : TypeId} {size n : Nat} {xs : List Value} (ho : w.ownsRow base e size v n xs) (hb : Below w.heap.size w w') : w'.ownsRow base e size v n xs :=
  ho.kept (grown_below (row := none) hb) (by cases hv : v.ownBlock <;> simp)

/-- A list of numbers in memory of the call's own. -/
def Nums (B : Nat) (w : World) (v : Value) (k : Nat) (xs : Nat → Value) (qs : Nat → Rat) : Prop :=
  w.ownsRow B 26 1 v k ((List.range k).map xs) ∧ AllIn w v IsPtr ∧ (∀ j, IsPtr (xs j)) ∧ (∀ j, j < k → RatV w (xs j) (qs j)) ∧ (∀ j, j < k → RatW (qs j) 2)
theorem Nums.below {B : Nat} {w w' : World} {v : Value} {k : Nat} {xs : Nat → Value} {qs : Nat → Rat} (h : Nums B w v k xs qs) (hb : Below w.heap.size w w') : Nums B w' v k xs qs :=
  ⟨ownsRow_below h.1 hb, h.2.1.below h.1 hb, h.2.2.1, fun j hj => (h.2.2.2.1 j hj).below hb, h.2.2.2.2⟩
/-- The slice of such a list, and its cells. -/
theorem ownsRow_slice {B : Nat} {w : World} {v : Value} {k : Nat} {e : TypeId} {xs : Nat → Value} (h : w.ownsRow B e 1 v k ((List.range k).map xs)) :
    ∃ A c, v = .slice A k c ∧ k ≤ c ∧ (A = none → k = 0 ∧ c = 0) ∧ ∀ g o s, A = some ⟨g, o, s⟩ → o = 0 ∧ s = none ∧ B ≤ g ∧ g < w.heap.size ∧ ∀ j, j < k → w.cell? ⟨g, j, none⟩ = some (xs j) := by
  have hl := h.lt
  have hcs := fun g hg => h.cells (g := g) hg
  rcases h.2 with ⟨rfl, hk⟩ | ⟨g, cap, cur, rfl, hb, hg, hn, hm, hz, ht⟩
  · exact ⟨none, 0, by rw [hk], by omega, fun _ => ⟨hk, rfl⟩, fun _ _ _ h => by cases h⟩
  · refine ⟨_, _, rfl, hn, fun h => (by cases h), fun g' o s he => ?_⟩
    cases he
    refine ⟨rfl, rfl, hb, (hl g rfl).2, fun j hj => ?_⟩
    have h1 := hcs g rfl j (xs j) (by simp [hj])
    rw [Addr.add_lit, Nat.zero_add] at h1
    exact h1
theorem info_ptr : (Tryz.prog.info? 26).map (fun i => (i.zero, i.size, i.bytes)) = some (some (.pointer none), 1, 8) := by kernel_rfl
end Go.Proofs.YthppcklegdnjdaaGreatDoor
end

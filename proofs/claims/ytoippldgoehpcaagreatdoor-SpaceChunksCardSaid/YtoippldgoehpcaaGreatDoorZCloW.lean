/- append of a whole list to an empty one. -/
import Derived.Test.YtoippldgoehpcaaGreatDoorZChF
namespace Go.Proofs.YtoippldgoehpcaaGreatDoor
open Go Go.RowKit Go.Deep

theorem wpList_clone {ops : Array Oper} {rest : List Oper} {o : Oper} {a : Act} {Q : Exit → Act → World → Prop} (hgd : o.guard = none) (s x : Operand)
    (ho : o.op = .call { callee := .builtin .append, args := #[s, x], argTypes := #[38, 38] })
    (w : World) (b o' n c : Nat) (f : Nat → Int) (h1 : 1 ≤ n) (hn : n ≤ 1000000) (hcell : ∀ j, j < n → w.cell? ⟨b, o' + j, none⟩ = some (.int .i64 (f j)))
    (hs : a.eval s = .slice (some ⟨w.heap.size, 0, none⟩) 0 0) (hx : a.eval x = .slice (some ⟨b, o', none⟩) n c)
    (h : ∀ A cap g w1, w.heap.size ≤ A → w1.rowIs A 3 cap g → n ≤ cap → (∀ j, j < n → g j = .int .i64 (f j)) → Below w.heap.size w w1 → wpList Tryz.prog ops Q rest (a.put o.dst (.slice (some ⟨A, 0, none⟩) n cap)) w1) :
    wpList Tryz.prog ops Q (o :: rest) a (w.alloc (.cells #[] 3)) := by
  obtain ⟨i0, hi0, hz0, hz1, hz2⟩ := info_parts info_int
  have hb : b < w.heap.size := cell_lt' (hcell 0 (by omega))
  refine wpList_append_own _ hgd s x _ ho w.heap.size 3 i0 (.int .i64 0) 1 8 Tryz.underlying38 hi0 hz0 hz1 hz2 rfl (Nat.zero_lt_one) (.slice (some ⟨w.heap.size, 0, none⟩) 0 0) 0 [] hs (World.ownsRow_lit w #[] 0 (Nat.le_refl _) (Nat.zero_le _) rfl) ⟨b, o', none⟩ n c ((List.range n).map fun j => .int .i64 (f j)) hx (by simp) (fun j u hu => ?_) (fun u hu => ?_) (by unfold maxLen; omega) (by omega) (by simp) ?_
  · have hj : j < n := by
      rcases Nat.lt_or_ge j n with h1 | h1
      · exact h1
      · rw [List.getElem?_eq_none (by simpa using h1)] at hu; cases hu
    rw [add_mk, World.cell?_alloc_lt _ _ _ (by show b < _; omega), hcell j hj]
    simpa [hj] using hu
  · obtain ⟨j, _, rfl⟩ := List.mem_map.1 hu
    rfl
  · intro v' w1 hown hgrow _
    have hb1 : Below w.heap.size w w1 := ((Below.refl _ _).alloc (Nat.le_refl _) _).grown hgrow (by simp) (fun k hk => by simp [Value.ownBlock] at hk; omega)
    rw [Nat.zero_add, List.nil_append] at hown
    rcases hown.2 with ⟨_, h0⟩ | ⟨g1, cap, cur, rfl, hge, hh, hnc, hcm, hcur, htake⟩
    · omega
    · refine h g1 cap (fun j => cur.getD j undef) w1 hge ⟨cur, hh, by omega, fun i hi => ?_⟩ hnc (fun j hj => ?_) hb1
      · show cur[i]? = some (cur.getD i undef)
        rw [Array.getElem?_eq_getElem (by omega), Array.getD_eq_getD_getElem?, Array.getElem?_eq_getElem (by omega)]; rfl
      · have h9 : (cur.toList.take (n * 1))[j]? = some (.int .i64 (f j)) := by rw [htake]; simp [hj]
        rw [List.getElem?_take_of_lt (by omega), Array.getElem?_toList] at h9
        show cur.getD j undef = _
        rw [Array.getD_eq_getD_getElem?, h9]; rfl
end Go.Proofs.YtoippldgoehpcaaGreatDoor

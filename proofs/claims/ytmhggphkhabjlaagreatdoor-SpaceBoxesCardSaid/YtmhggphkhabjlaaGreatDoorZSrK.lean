/- Pairs of keys and coordinates, sorted. -/
import Derived.Test.YtmhggphkhabjlaaGreatDoorZCmpS
import Derived.Test.YtmhggphkhabjlaaGreatDoorShelf
import Derived.Test.YtmhggphkhabjlaaGreatDoorSort
namespace Go.Proofs.YtmhggphkhabjlaaGreatDoor
open Go Go.RowKit Go.Deep Go.Shelf Go.Lib Go.Sort

theorem lt_key (x y : Int × Nat) : ltOf (fun x y : Int × Nat => Lib.compareInt x.1 y.1) x y = decide (x.1 < y.1) := by
  unfold ltOf Lib.compareInt
  by_cases h1 : x.1 < y.1
  · simp [h1]
  · by_cases h2 : y.1 < x.1 <;> simp [h1, h2]
theorem swo_key : SWO (ltOf fun x y : Int × Nat => Lib.compareInt x.1 y.1) where
  irrefl x := by rw [lt_key]; simp
  trans x y z h1 h2 := by rw [lt_key] at *; simp at *; omega
  ntrans x y z h1 h2 := by rw [lt_key] at *; simp at *; omega
/-- A pair's cells. -/
def encP (xs : Nat → Value) (p : Int × Nat) : List Value := [.int .i64 p.1, xs p.2]
theorem sw_grown (enc : Int × Nat → List Value) (k : Nat) (W : World) (blk off m : Nat) (dk : Array (Int × Nat)) (os : Array Obj) : W.grownBy (sortWorldK enc k W blk off m dk os) (some blk) := by
  refine ⟨rfl, rfl, rfl, ?_, fun j hj hne => ?_⟩
  · simp [sortWorldK, grow, putRowK, putRow, mapBlock, Sort.ahead]
  · have hjb : blk ≠ j := fun h => hne (by rw [h])
    simp [sortWorldK, grow, putRowK, putRow, mapBlock, Sort.ahead, Array.getElem?_append, hj, Array.getElem_modify, hjb]

set_option maxHeartbeats 1000000 in
theorem c_key (x y : Int) (u v : Value) (B : Nat) (W : World) (hc : W.cell? ⟨B, 0, none⟩ = some (.func (.func 76) #[] #[])) :
    Calls Tryz.prog 91 #[.agg #[.int .i64 x, u], .agg #[.int .i64 y, v], .pointer (some ⟨B, 0, none⟩)] W fun e w' => e = .returned (.int .i64 (Lib.compareInt x y)) ∧ ∃ q os', w' = grow (W.drewN q) os' := by
  have HC := Lib.hid (fun W => Tryz.cmp_Compare_int x y W)
  have hB := Lib.hid hc
  have hlt : B < W.heap.size := World.block_lt_of_cell? W ⟨B, 0, none⟩ hc
  clear hc
  generalize Lib.compareInt x y = r at *
  have e0 := heap_alloc_new W (.cells #[.int .i64 x, u] 127)
  have e1 := heap_alloc_new (W.alloc (.cells #[.int .i64 x, u] 127)) (.cells #[.int .i64 y, v] 127)
  rw [World.size_alloc] at e1
  have f0 := (Below.heap_alloc (W.alloc (.cells #[.int .i64 x, u] 127)) (.cells #[.int .i64 y, v] 127) W.heap.size (by simp)).trans e0
  have a0 : ((W.alloc (.cells #[.int .i64 x, u] 127)).alloc (.cells #[.int .i64 y, v] 127)).cell? ⟨W.heap.size, 0, none⟩ = some (.int .i64 x) := by rw [cell_of_row _ _ _ _ _ _ f0]; rfl
  have a1 : ((W.alloc (.cells #[.int .i64 x, u] 127)).alloc (.cells #[.int .i64 y, v] 127)).cell? ⟨W.heap.size + 1, 0, none⟩ = some (.int .i64 y) := by rw [cell_of_row _ _ _ _ _ _ e1]; rfl
  have a2 : ((W.alloc (.cells #[.int .i64 x, u] 127)).alloc (.cells #[.int .i64 y, v] 127)).cell? ⟨B, 0, none⟩ = some (.func (.func 76) #[] #[]) := by
    rw [World.cell?_alloc_lt _ _ _ (by simp; omega), World.cell?_alloc_lt _ _ _ hlt]
    exact hB.out
  clear e0 e1 f0
  go_enter Tryz.func91, Tryz.ntmps91
  go_wp2_with (go_at_call 76; refine (HC.out _).mono ?_; rintro e w' ⟨rfl, rfl⟩)
  go_ret
  exact ⟨rfl, 0, _, by rw [alloc_eq_grow, alloc_eq_grow, grow_grow]; rfl⟩

/-- The pairs, as they come. -/
def pairD (ky : Nat → Int) (N : Nat) : Array (Int × Nat) := ((List.range N).map fun t => (ky t, t)).toArray
/-- .. sorted, as the library sorts them. -/
def pairR (ky : Nat → Int) (N : Nat) : Array (Int × Nat) := pdq (ltOf fun x y : Int × Nat => Lib.compareInt x.1 y.1) (pairD ky N) 0 N (Lib.bitLen N) true true

set_option maxHeartbeats 1000000 in
theorem c_sortKeyed (W : World) (b cap N B : Nat) (ky : Nat → Int) (xs : Nat → Value) (hxs : ∀ t, ∃ p n c, xs t = .slice p n c) (hN : N ≤ 1000000) (hb : b < W.heap.size) (hB : b ≠ B) (hc : W.cell? ⟨B, 0, none⟩ = some (.func (.func 76) #[] #[]))
    (hcs : ∀ j, j < N → W.cell? ⟨b, j * 2, none⟩ = some (.int .i64 (ky j)) ∧ W.cell? ⟨b, j * 2 + 1, none⟩ = some (xs j)) (hz : ∀ j, W.frozen? ⟨b, j, none⟩ = false) :
    Calls Tryz.prog 90 #[.slice (some ⟨b, 0, none⟩) N cap, .func (.func 91) #[] #[.pointer (some ⟨B, 0, none⟩)]] W fun e w' => e = .returned (.tuple #[]) ∧ W.grownBy w' (some b) ∧ (pairR ky N).size = N ∧ ∀ j, j < N → w'.cell? ⟨b, j * 2, none⟩ = some (.int .i64 ((pairR ky N)[j]!).1) ∧ w'.cell? ⟨b, j * 2 + 1, none⟩ = some (xs ((pairR ky N)[j]!).2) := by
  have hds : (pairD ky N).size = N := by simp [pairD]
  have hget : ∀ j, j < N → (pairD ky N)[j]! = (ky j, j) := fun j hj => by simp [pairD, hj]
  have flat : ∀ (d : Array (Int × Nat)) (t : Nat), t < d.size * 2 → (flatK (encP xs) 2 d)[t]! = if t % 2 = 0 then Value.int .i64 (d[t / 2]!).1 else xs (d[t / 2]!).2 := fun d t ht => by
    rw [get_flatK _ _ _ _ ht]
    rcases (by omega : t % 2 = 0 ∨ t % 2 = 1) with h | h
    · rw [h, if_pos rfl]; rfl
    · rw [h, if_neg (by decide)]; rfl
  have hH : HoldsK (encP xs) 2 W b 0 (pairD ky N) := fun j hj => by
    rw [size_flatK, hds] at hj
    refine ⟨?_, by rw [Nat.zero_add]; exact hz j⟩
    rw [flat _ _ (by rw [hds]; exact hj), hget (j / 2) (by omega), Nat.zero_add]
    obtain ⟨h1, h2⟩ := hcs (j / 2) (by omega)
    split
    · rename_i h
      rw [show j / 2 * 2 = j by omega] at h1
      exact h1
    · rename_i h
      rw [show j / 2 * 2 + 1 = j by omega] at h2
      exact h2
  have eg : ∀ args w, (callFunc 91 args).run Tryz.prog w = .ok (.enter 91 args) w := enters_of Tryz.func91 (by kernel_rfl) rfl
  have hcmp : CmpLays Tryz.prog 91 #[.pointer (some ⟨B, 0, none⟩)] (encP xs) 2 (fun x y => Lib.compareInt x.1 y.1) b 0 (pairD ky N).size W := fun m os dk _ x y =>
    c_key x.1 y.1 (xs x.2) (xs y.2) B _ ((sw_grown (encP xs) 2 W b 0 m dk os).cell hc (by simp; exact fun h => hB h.symm))
  have hcon := AnyQ.slices_SortFunc_eq Tryz.sortKeyed 2 Tryz.isAgg127 Tryz.sizeOf127 (encP xs) (fun _ => rfl) (fun x v hv => by
    simp only [encP, List.mem_cons, List.not_mem_nil, or_false] at hv
    rcases hv with rfl | rfl
    · rfl
    · obtain ⟨p, n, c, h⟩ := hxs x.2
      rw [h]; rfl) (fun x y => Lib.compareInt x.1 y.1) swo_key 91 #[.pointer (some ⟨B, 0, none⟩)] b 0 cap (pairD ky N) W eg hcmp hH hb (by rw [hds]; omega)
  rw [hds] at hcon
  refine Calls.mono hcon ?_
  rintro e w' ⟨rfl, n, os, rfl⟩
  have hsz : (pairR ky N).size = N := by
    have hp := (pdq_sorts (ltOf fun x y : Int × Nat => Lib.compareInt x.1 y.1) swo_key (pairD ky N) 0 N (Lib.bitLen N) true true (Nat.zero_le _) (by rw [hds]; exact Nat.le_refl _) (Or.inl rfl)).1.1
    rw [hds] at hp
    exact hp
  have hHR := holdsK_sortWorldK_c (enc := encP xs) (k := 2) (w := W) (blk := b) (off := 0) (pairD ky N) (pairR ky N) n os hH hb (by rw [hsz, hds])
  refine ⟨rfl, sw_grown _ _ _ _ _ _ _ _, hsz, fun j hj => ?_⟩
  have h0 := (hHR (j * 2) (by rw [size_flatK, hsz]; omega)).1
  have h1 := (hHR (j * 2 + 1) (by rw [size_flatK, hsz]; omega)).1
  rw [flat _ _ (by rw [hsz]; omega), Nat.zero_add] at h0 h1
  rw [if_pos (by omega), show j * 2 / 2 = j by omega] at h0
  rw [if_neg (by omega), show (j * 2 + 1) / 2 = j by omega] at h1
  exact ⟨h0, h1⟩
end Go.Proofs.YtmhggphkhabjlaaGreatDoor

/- Pairs of keys and cells, sorted. -/
import Derived.Test.YtogmbehomilalaaGreatDoorZCmpS
import Derived.Test.YtogmbehomilalaaGreatDoorZSpH
import Derived.Test.YtogmbehomilalaaGreatDoorSortC
import Derived.Shelf.SlSortCmp.WholeK
namespace Go.Proofs.YtogmbehomilalaaGreatDoor
open Go Go.RowKit Go.Deep Go.Shelf Go.Lib Go.Sort

/-! Lists of n integers, compared from left to right. -/
theorem cmpI3 (x y : Int) : Lib.compareInt x y = if x < y then -1 else if y < x then 1 else 0 := by
  unfold Lib.compareInt
  split <;> (try split) <;> omega
/-- How three comparisons hang together. -/
theorem cmpTo_three (f g h : Nat → Int) (n : Nat) : ∀ k, k ≤ n → ((cmpTo f g n k = 0 → cmpTo f h n k = cmpTo g h n k) ∧ (cmpTo g h n k = 0 → cmpTo f h n k = cmpTo f g n k) ∧ (cmpTo f g n k = cmpTo g h n k → cmpTo f h n k = cmpTo f g n k)) ∧ (cmpTo f g n k = -1 ∨ cmpTo f g n k = 0 ∨ cmpTo f g n k = 1) ∧ (cmpTo g h n k = -1 ∨ cmpTo g h n k = 0 ∨ cmpTo g h n k = 1) ∧ (cmpTo f h n k = -1 ∨ cmpTo f h n k = 0 ∨ cmpTo f h n k = 1)
  | 0, _ => by simp [cmpTo]
  | k + 1, hk => by
    have ih := cmpTo_three f g h n k (by omega)
    rw [cmpTo, cmpTo, cmpTo, if_neg (by omega : ¬ n ≤ k), if_neg (by omega : ¬ n ≤ k), if_neg (by omega : ¬ n ≤ k), cmpI3, cmpI3, cmpI3]
    generalize cmpTo f g n k = a at *
    generalize cmpTo g h n k = b at *
    generalize cmpTo f h n k = c at *
    generalize f k = x
    generalize g k = y
    generalize h k = z
    rcases (by omega : x < y ∨ x = y ∨ y < x) with h1 | h1 | h1 <;> rcases (by omega : y < z ∨ y = z ∨ z < y) with h2 | h2 | h2 <;> rcases (by omega : x < z ∨ x = z ∨ z < x) with h3 | h3 | h3 <;> rcases ih.2.1 with ha | ha | ha <;> rcases ih.2.2.1 with hb | hb | hb <;> rcases ih.2.2.2 with hc | hc | hc <;> subst ha hb hc <;> simp at ih ⊢ <;> simp (disch := omega) [*] <;> omega
theorem cmpS_n (n : Nat) (f g : Nat → Int) : cmpS n n f g = cmpTo f g n n := by
  unfold cmpS
  split
  · rename_i h
    rw [if_neg (by omega), h]
  · rfl
theorem cmpTo_self (f : Nat → Int) (n : Nat) : ∀ k, k ≤ n → cmpTo f f n k = 0
  | 0, _ => rfl
  | k + 1, hk => by rw [cmpTo, cmpTo_self f n k (by omega), if_pos rfl, if_neg (by omega), cmpI3, if_neg (by omega), if_neg (by omega)]
theorem lt_list (n : Nat) (f : Nat → Nat → Int) (x y : Nat) : ltOf (fun x y : Nat => cmpS n n (f x) (f y)) x y = decide (cmpTo (f x) (f y) n n < 0) := by
  unfold ltOf
  show decide (cmpS n n (f x) (f y) < 0) = _
  rw [cmpS_n]
/-- Less, by the lists of integers. -/
theorem swo_list (n : Nat) (f : Nat → Nat → Int) : SWO (ltOf fun x y : Nat => cmpS n n (f x) (f y)) where
  irrefl x := by rw [lt_list, cmpTo_self _ _ _ (Nat.le_refl _)]; rfl
  trans x y z h1 h2 := by
    rw [lt_list, decide_eq_true_eq] at *
    have := cmpTo_three (f x) (f y) (f z) n n (Nat.le_refl _)
    omega
  ntrans x y z h1 h2 := by
    rw [lt_list, decide_eq_false_iff_not] at *
    have := cmpTo_three (f x) (f y) (f z) n n (Nat.le_refl _)
    omega
/-- A pair's cells: the key, and the two lists of the cell. -/
def encC (p q : Nat → Value) (t : Nat) : List Value := [p t, p t, q t]
theorem sw_grownC (enc : Nat → List Value) (k : Nat) (W : World) (blk off m : Nat) (dk : Array Nat) (os : Array Obj) : W.grownBy (sortWorldK enc k W blk off m dk os) (some blk) := by
  refine ⟨rfl, rfl, rfl, ?_, fun j hj hne => ?_⟩
  · simp [sortWorldK, grow, putRowK, putRow, mapBlock, Sort.ahead]
  · have hjb : blk ≠ j := fun h => hne (by rw [h])
    simp [sortWorldK, grow, putRowK, putRow, mapBlock, Sort.ahead, Array.getElem?_append, hj, Array.getElem_modify, hjb]

set_option maxHeartbeats 1000000 in
theorem c_keyC (P Q X Y : Option Addr) (n c c' m d m' d' : Nat) (f g : Nat → Int) (B : Nat) (W : World) (hc : W.cell? ⟨B, 0, none⟩ = some (.func (.func 40) #[] #[])) (hp : IntsAt W P n f) (hq : IntsAt W Q n g) (hn : n ≤ 1000000) :
    Calls Tryz.prog 79 #[.agg #[.slice P n c, .slice P n c, .slice X m d], .agg #[.slice Q n c', .slice Q n c', .slice Y m' d'], .pointer (some ⟨B, 0, none⟩)] W fun e w' => e = .returned (.int .i64 (cmpS n n f g)) ∧ ∃ q os', w' = grow (W.drewN q) os' := by
  have HC : Hid (∀ W', Below W.heap.size W W' → Calls Tryz.prog 40 #[.slice P n c, .slice Q n c'] W' fun e w' => e = .returned (.int .i64 (cmpS n n f g)) ∧ w' = W') := fun W' hW => s_Compare W' P Q n c n c' f g (hp.below hW) (hq.below hW) hn hn
  have hB := Lib.hid hc
  have hlt : B < W.heap.size := World.block_lt_of_cell? W ⟨B, 0, none⟩ hc
  clear hc hp hq
  generalize cmpS n n f g = r at *
  have e0 := heap_alloc_new W (.cells #[.slice P n c, .slice P n c, .slice X m d] 131)
  have e1 := heap_alloc_new (W.alloc (.cells #[.slice P n c, .slice P n c, .slice X m d] 131)) (.cells #[.slice Q n c', .slice Q n c', .slice Y m' d'] 131)
  rw [World.size_alloc] at e1
  have f0 := (Below.heap_alloc (W.alloc (.cells #[.slice P n c, .slice P n c, .slice X m d] 131)) (.cells #[.slice Q n c', .slice Q n c', .slice Y m' d'] 131) W.heap.size (by simp)).trans e0
  have a0 : ((W.alloc (.cells #[.slice P n c, .slice P n c, .slice X m d] 131)).alloc (.cells #[.slice Q n c', .slice Q n c', .slice Y m' d'] 131)).cell? ⟨W.heap.size, 0, none⟩ = some (.slice P n c) := by rw [cell_of_row _ _ _ _ _ _ f0]; rfl
  have a1 : ((W.alloc (.cells #[.slice P n c, .slice P n c, .slice X m d] 131)).alloc (.cells #[.slice Q n c', .slice Q n c', .slice Y m' d'] 131)).cell? ⟨W.heap.size + 1, 0, none⟩ = some (.slice Q n c') := by rw [cell_of_row _ _ _ _ _ _ e1]; rfl
  have a2 : ((W.alloc (.cells #[.slice P n c, .slice P n c, .slice X m d] 131)).alloc (.cells #[.slice Q n c', .slice Q n c', .slice Y m' d'] 131)).cell? ⟨B, 0, none⟩ = some (.func (.func 40) #[] #[]) := by
    rw [World.cell?_alloc_lt _ _ _ (by simp; omega), World.cell?_alloc_lt _ _ _ hlt]
    exact hB.out
  have hbel : Below W.heap.size W ((W.alloc (.cells #[.slice P n c, .slice P n c, .slice X m d] 131)).alloc (.cells #[.slice Q n c', .slice Q n c', .slice Y m' d'] 131)) := ((Below.refl _ _).alloc (Nat.le_refl _) _).alloc (by simp) _
  have HB := Lib.hid hbel
  clear e0 e1 f0 hbel
  go_enter Tryz.func79, Tryz.ntmps79
  go_wp2_with (go_at_call 40; refine (HC.out _ HB.out).mono ?_; rintro e w' ⟨rfl, rfl⟩)
  go_ret
  exact ⟨rfl, 0, _, by rw [alloc_eq_grow, alloc_eq_grow, grow_grow]; rfl⟩

/-- The numbers, as the library sorts them. -/
def numR (n : Nat) (f : Nat → Nat → Int) (N : Nat) : Array Nat := pdq (ltOf fun x y : Nat => cmpS n n (f x) (f y)) (List.range N).toArray 0 N (Lib.bitLen N) true true
theorem numR_size (n : Nat) (f : Nat → Nat → Int) (N : Nat) : (numR n f N).size = N := by
  have hp := (pdq_sorts (ltOf fun x y : Nat => cmpS n n (f x) (f y)) (swo_list n f) (List.range N).toArray 0 N (Lib.bitLen N) true true (Nat.zero_le _) (by simp) (Or.inl rfl)).1.1
  exact hp.trans (by simp)
theorem numR_lt (n : Nat) (f : Nat → Nat → Int) (N j : Nat) (hj : j < N) : (numR n f N)[j]! < N := by
  have hp := (pdq_sorts (ltOf fun x y : Nat => cmpS n n (f x) (f y)) (swo_list n f) (List.range N).toArray 0 N (Lib.bitLen N) true true (Nat.zero_le _) (by simp) (Or.inl rfl)).1
  exact permIn_all _ _ 0 N (fun q : Nat => q < N) (by simp) hp (fun i _ hi => by simp [hi]) j (Nat.zero_le _) hj
/-- .. in their order. -/
theorem numR_sorted (n : Nat) (f : Nat → Nat → Int) (N i j : Nat) (hij : i < j) (hj : j < N) : cmpS n n (f ((numR n f N)[i]!)) (f ((numR n f N)[j]!)) ≤ 0 := by
  have hp := (pdq_sorts (ltOf fun x y : Nat => cmpS n n (f x) (f y)) (swo_list n f) (List.range N).toArray 0 N (Lib.bitLen N) true true (Nat.zero_le _) (by simp) (Or.inl rfl)).2 i j (Nat.zero_le _) hij hj
  rw [lt_list, decide_eq_false_iff_not] at hp
  have h : ¬ cmpTo (f ((numR n f N)[j]!)) (f ((numR n f N)[i]!)) n n < 0 := hp
  rw [cmpS_n]
  have h3 := cmpTo_three (f ((numR n f N)[i]!)) (f ((numR n f N)[j]!)) (f ((numR n f N)[i]!)) n n (Nat.le_refl _)
  rw [cmpTo_self _ _ _ (Nat.le_refl _)] at h3
  omega

set_option maxHeartbeats 1000000 in
theorem c_sortCells (W : World) (b cap N B n : Nat) (f : Nat → Nat → Int) (p q : Nat → Value) (hps : ∀ t, ∃ P c X m d, p t = .slice P n c ∧ q t = .slice X m d ∧ IntsAt W P n (f t) ∧ ∀ a, P = some a → a.block ≠ b) (hn : n ≤ 1000000) (hN : N ≤ 1000000) (hb : b < W.heap.size) (hB : b ≠ B) (hc : W.cell? ⟨B, 0, none⟩ = some (.func (.func 40) #[] #[]))
    (hcs : ∀ j, j < N → W.cell? ⟨b, j * 3, none⟩ = some (p j) ∧ W.cell? ⟨b, j * 3 + 1, none⟩ = some (p j) ∧ W.cell? ⟨b, j * 3 + 2, none⟩ = some (q j)) (hz : ∀ j, W.frozen? ⟨b, j, none⟩ = false) :
    Calls Tryz.prog 78 #[.slice (some ⟨b, 0, none⟩) N cap, .func (.func 79) #[] #[.pointer (some ⟨B, 0, none⟩)]] W fun e w' => e = .returned (.tuple #[]) ∧ W.grownBy w' (some b) ∧ ∀ j, j < N → w'.cell? ⟨b, j * 3, none⟩ = some (p ((numR n f N)[j]!)) ∧ w'.cell? ⟨b, j * 3 + 1, none⟩ = some (p ((numR n f N)[j]!)) ∧ w'.cell? ⟨b, j * 3 + 2, none⟩ = some (q ((numR n f N)[j]!)) := by
  have hds : (List.range N).toArray.size = N := by simp
  have hget : ∀ j, j < N → (List.range N).toArray[j]! = j := fun j hj => by simp [hj]
  have flat : ∀ (d : Array Nat) (t : Nat), t < d.size * 3 → (flatK (encC p q) 3 d)[t]! = if t % 3 = 2 then q (d[t / 3]!) else p (d[t / 3]!) := fun d t ht => by
    rw [get_flatK _ _ _ _ ht]
    rcases (by omega : t % 3 = 0 ∨ t % 3 = 1 ∨ t % 3 = 2) with h | h | h
    · rw [h, if_neg (by decide)]; rfl
    · rw [h, if_neg (by decide)]; rfl
    · rw [h, if_pos rfl]; rfl
  have hH : HoldsK (encC p q) 3 W b 0 (List.range N).toArray := fun j hj => by
    rw [size_flatK, hds] at hj
    refine ⟨?_, by rw [Nat.zero_add]; exact hz j⟩
    rw [flat _ _ (by rw [hds]; exact hj), hget (j / 3) (by omega), Nat.zero_add]
    obtain ⟨h1, h2, h3⟩ := hcs (j / 3) (by omega)
    rcases (by omega : j % 3 = 0 ∨ j % 3 = 1 ∨ j % 3 = 2) with h | h | h
    · rw [if_neg (by omega)]
      rw [show j / 3 * 3 = j by omega] at h1
      exact h1
    · rw [if_neg (by omega)]
      rw [show j / 3 * 3 + 1 = j by omega] at h2
      exact h2
    · rw [if_pos h]
      rw [show j / 3 * 3 + 2 = j by omega] at h3
      exact h3
  have eg : ∀ args w, (callFunc 79 args).run Tryz.prog w = .ok (.enter 79 args) w := enters_of Tryz.func79 (by kernel_rfl) rfl
  have keep : ∀ (m : Nat) (dk : Array Nat) (os : Array Obj) (P : Option Addr) (g : Nat → Int), IntsAt W P n g → (∀ a, P = some a → a.block ≠ b) → IntsAt (sortWorldK (encC p q) 3 W b 0 m dk os) P n g := fun m dk os P g hP hne h0 => by
    obtain ⟨b9, o9, rfl, u1, u2⟩ := hP h0
    have hg := sw_grownC (encC p q) 3 W b 0 m dk os
    refine ⟨b9, o9, rfl, Nat.lt_of_lt_of_le u1 hg.size, fun j hj => ?_⟩
    rw [cell_blk (hg.block b9 u1 (fun e => hne _ rfl (Option.some.inj e)))]
    exact u2 j hj
  have hcmp : CmpLays Tryz.prog 79 #[.pointer (some ⟨B, 0, none⟩)] (encC p q) 3 (fun x y => cmpS n n (f x) (f y)) b 0 (List.range N).toArray.size W := fun m os dk _ x y => by
    obtain ⟨P, c, X, m1, d1, e1, e2, h1, h2⟩ := hps x
    obtain ⟨P', c', X', m1', d1', e1', e2', h1', h2'⟩ := hps y
    have h := c_keyC P P' X X' n c c' m1 d1 m1' d1' (f x) (f y) B (sortWorldK (encC p q) 3 W b 0 m dk os) ((sw_grownC (encC p q) 3 W b 0 m dk os).cell hc (by simp; exact fun h => hB h.symm)) (keep m dk os P (f x) h1 h2) (keep m dk os P' (f y) h1' h2') hn
    unfold encC
    rw [e1, e2, e1', e2']
    unfold encC at h
    exact h
  have hcon := AnyQ.slices_SortFunc_eq Tryz.sortCells 3 Tryz.isAgg131 Tryz.sizeOf131 (encC p q) (fun _ => rfl) (fun x v hv => by
    obtain ⟨P, c, X, m1, d1, e1, e2, _, _⟩ := hps x
    simp only [encC, List.mem_cons, List.not_mem_nil, or_false] at hv
    rcases hv with rfl | rfl | rfl
    · rw [e1]; rfl
    · rw [e1]; rfl
    · rw [e2]; rfl) (fun x y => cmpS n n (f x) (f y)) (swo_list n f) 79 #[.pointer (some ⟨B, 0, none⟩)] b 0 cap (List.range N).toArray W eg hcmp hH hb (by rw [hds]; omega)
  rw [hds] at hcon
  refine Calls.mono hcon ?_
  rintro e w' ⟨rfl, n9, os, rfl⟩
  have hsz := numR_size n f N
  have hHR := holdsK_sortWorldK_c (enc := encC p q) (k := 3) (w := W) (blk := b) (off := 0) (List.range N).toArray (numR n f N) n9 os hH hb (by rw [hsz, hds])
  refine ⟨rfl, sw_grownC _ _ _ _ _ _ _ _, fun j hj => ?_⟩
  have h0 := (hHR (j * 3) (by rw [size_flatK, hsz]; omega)).1
  have h1 := (hHR (j * 3 + 1) (by rw [size_flatK, hsz]; omega)).1
  have h2 := (hHR (j * 3 + 2) (by rw [size_flatK, hsz]; omega)).1
  rw [flat _ _ (by rw [hsz]; omega), Nat.zero_add] at h0 h1 h2
  rw [if_neg (by omega), show j * 3 / 3 = j by omega] at h0
  rw [if_neg (by omega), show (j * 3 + 1) / 3 = j by omega] at h1
  rw [if_pos (by omega), show (j * 3 + 2) / 3 = j by omega] at h2
  exact ⟨h0, h1, h2⟩
end Go.Proofs.YtogmbehomilalaaGreatDoor

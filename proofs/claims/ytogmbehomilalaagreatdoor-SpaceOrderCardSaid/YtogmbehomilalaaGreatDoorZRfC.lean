/- How many bits the reference's numbers have. -/
import Derived.Test.YtogmbehomilalaaGreatDoorZSeq
import Derived.Test.YtogmbehomilalaaGreatDoorZExtR
import Derived.Test.YtogmbehomilalaaGreatDoorProg
import Derived.Test.YtogmbehomilalaaGreatDoorZInl
import Derived.Test.YtogmbehomilalaaGreatDoorZCmpS
import Derived.Test.YtogmbehomilalaaGreatDoorZSpH
import Derived.Test.YtogmbehomilalaaGreatDoorSortC
import Derived.Shelf.SlSortCmp.WholeK
import Derived.Test.YtogmbehomilalaaGreatDoorZApC

/- How many bits the reference's numbers have. -/
section
namespace Go.Proofs.YtogmbehomilalaaGreatDoor
open Go Go.RowKit Go.Deep

set_option maxRecDepth 100000 in
set_option maxHeartbeats 2000000 in
theorem r_bit (w : World) (x q : Nat) (hx : x < 2 ^ 62) (hq : q < 62) : Calls Tryz.prog 125 #[.int .i64 x, .int .i64 q] w fun e w' => e = .returned (.bool (bitN x q == 1)) ∧ w' = w := by
  have hd := div_i x q
  have hx2 : x / 2 ^ q < 2 ^ 62 := Nat.lt_of_le_of_lt (Nat.div_le_self _ _) hx
  have hq0 : (0 : Int) ≤ (q : Int) := by omega
  rw [p62] at hx2
  have HB : Hid (bitN x q = x / 2 ^ q % 2) := rfl
  generalize bitN x q = bt at *
  generalize x / 2 ^ q = y at *
  clear hx
  go_enter Tryz.func125, Tryz.ntmps125
  go_wp2
  go_ret
  refine ⟨?_, rfl⟩
  show Ending.returned (Value.bool (((y : Int) % 2) == 1)) = _
  have := HB.out
  congr 2
  rw [Bool.eq_iff_iff, beq_iff_eq, beq_iff_eq]
  omega
theorem bit_len_le {x b : Nat} (hb : b ≤ 64) (h : x < 2 ^ b) : Lib.bitLen x ≤ b := by
  have h9 := wd_le (lo := fun _ => 0) (hi := fun _ => (x : Int)) hb (n := 1) (fun k _ => by simpa using h)
  have h8 : wdTo (fun _ => 0) (fun _ => (x : Int)) 1 = max 0 (Lib.bitLen x) := by rw [wdTo, wdTo]; simp
  omega
set_option maxRecDepth 100000 in
set_option maxHeartbeats 4000000 in
theorem r_bits (w : World) (M : Option Addr) (n mc : Nat) (lo hi : Nat → Int) (e : Nat → Nat) (hm : IntsAt w M n fun k => ((e k : Nat) : Int)) (hn : n ≤ 1000) (he : ∀ k, k < n → 1 ≤ e k ∧ hi k = lo k + e k - 1 ∧ e k ≤ 4096) :
    Calls Tryz.prog 54 #[.slice M n mc] w fun e' w' => e' = .returned (.int .i64 (wdTo lo hi n : Nat)) ∧ Below w.heap.size w w' := by
  have HM := Lib.hid hm
  have HE := Lib.hid he
  clear hm he
  go_enter Tryz.func54, Tryz.ntmps54
  go_wp2_with fail
  go_loopw [3, 4] (fun b i wr => ∃ k : Nat, k ≤ n ∧ i = .int .i64 k ∧ b = .int .i64 (wdTo lo hi k : Nat) ∧ Hid (Below w.heap.size w wr)) (fun _ i _ => n - (intOf i).toNat)
  case atStart => exact ⟨0, Nat.zero_le _, rfl, rfl, Below.refl _ _⟩
  case round =>
    obtain ⟨k, hk, rfl, rfl, HBr⟩ := hrel
    by_cases hlt : k < n
    · have HW : Hid (wdTo lo hi (k + 1) = max (wdTo lo hi k) (Lib.bitLen (e k - 1))) := by
        obtain ⟨f1, f2, f3⟩ := HE.out k hlt
        show _ = _
        rw [wdTo, show (hi k - lo k).toNat = e k - 1 by omega]
      have HL : Hid (e k - 1 < 2 ^ Lib.bitLen (e k - 1)) := bit_len_lt (Nat.lt_of_le_of_lt (show _ ≤ 4096 by have := HE.out k hlt; omega) (by decide))
      have HL2 : Hid (wdTo lo hi (k + 1) ≤ 12) := wd_le (by decide) fun j hj => by
        have := HE.out j (by omega)
        have e9 : (2 : Nat) ^ 12 = 4096 := by decide
        omega
      obtain ⟨W2, hW2⟩ : ∃ W2, wdTo lo hi (k + 1) = W2 := ⟨_, rfl⟩
      rw [hW2] at HW HL2
      have HW2 := Lib.hid hW2
      have hk0 : wdTo lo hi k ≤ W2 := by have := HW.out; omega
      clear hW2
      go_wp2_with fail
      go_loopw [3] (fun b wr => ∃ z : Nat, wdTo lo hi k ≤ z ∧ z ≤ W2 ∧ b = .int .i64 z ∧ Hid (Below w.heap.size w wr)) (fun b _ => W2 - (intOf b).toNat)
      case atStart => exact ⟨_, Nat.le_refl _, hk0, rfl, HBr⟩
      case round =>
        obtain ⟨z, hz1, hz2, rfl, HBz⟩ := hrel
        obtain ⟨b1, o1, rfl, _, hc1⟩ := (HM.out.below HBz.out) (by omega)
        have x0 : wr.cell? ⟨b1, o1 + k, none⟩ = some (.int .i64 ((e k : Nat) : Int)) := hc1 k hlt
        clear hc1
        have hz12 : z ≤ 12 := Nat.le_trans hz2 HL2.out
        have hw1 : wrap64 (2 ^ z) = ((2 ^ z : Nat) : Int) := (wraps_low (s := z) (by omega)).1.trans (Int.natCast_pow 2 z).symm
        have hz0 : (0 : Int) ≤ (z : Int) := by omega
        have HC : Hid (2 ^ z < e k → z + 1 ≤ W2) := fun h => by
          have h8 : z < Lib.bitLen (e k - 1) := by
            rcases Nat.lt_or_ge z (Lib.bitLen (e k - 1)) with h9 | h9
            · exact h9
            · have := Nat.pow_le_pow_right (n := 2) (by decide) h9
              have := HL.out
              omega
          have := HW.out
          omega
        have HC2 : Hid (¬ 2 ^ z < e k → z = W2) := fun h => by
          have h9 := bit_len_le (x := e k - 1) (b := z) (by omega) (by have := (HE.out k hlt).1; omega)
          have := HW.out
          omega
        generalize (2 : Nat) ^ z = p at *
        generalize e k = ek at *
        by_cases hc : p < ek
        · have hc' : (p : Int) < (ek : Int) := by omega
          have hz3 := HC.out hc
          go_wp2_with fail
          go_quiet (fail)
          go_wp2
          exact ⟨⟨z + 1, by omega, hz3, by go_num, bel_dN HBz.out _⟩, by simp [intOf]; omega⟩
        · have hc' : ¬ (p : Int) < (ek : Int) := by omega
          have hz3 := HC2.out hc
          subst hz3
          go_wp2_with fail
          go_quiet (fail)
          go_wp2
          exact ⟨⟨k + 1, by omega, by go_num, by rw [HW2.out], bel_dN HBz.out _⟩, by simp [intOf]; omega⟩
    · obtain rfl : k = n := by omega
      go_wp2_with fail
      go_ret
      exact ⟨rfl, HBr.out⟩
end Go.Proofs.YtogmbehomilalaaGreatDoor
end

/- How many numbers are asked for, and which. -/
section
namespace Go.Proofs.YtogmbehomilalaaGreatDoor

/-- How many numbers below k are asked for, and the one at a place. -/
def cntTo (p : Nat → Bool) (k : Nat) : Nat := ((List.range k).filter p).length
theorem filt_succ (p : Nat → Bool) (k : Nat) : (List.range (k + 1)).filter p = (List.range k).filter p ++ (if p k = true then [k] else []) := by
  rw [List.range_succ, List.filter_append]
  cases h : p k <;> simp [h]
theorem cntTo_yes {p : Nat → Bool} {k : Nat} (h : p k = true) : cntTo p (k + 1) = cntTo p k + 1 := by simp [cntTo, filt_succ, h]
theorem cntTo_no {p : Nat → Bool} {k : Nat} (h : p k = false) : cntTo p (k + 1) = cntTo p k := by simp [cntTo, filt_succ, h]
theorem cntTo_le (p : Nat → Bool) (k : Nat) : cntTo p k ≤ k := by
  have := List.length_filter_le p (List.range k)
  simpa [cntTo] using this
end Go.Proofs.YtogmbehomilalaaGreatDoor
end

/- The sorted pairs: each of them once, in the order of their keys. -/
section
namespace Go.Proofs.YtogmbehomilalaaGreatDoor
open Go Go.RowKit Go.Deep Go.Shelf Go.Lib Go.Sort

theorem pair_facts (ky : Nat → Int) (N : Nat) : (pairR ky N).size = N ∧ (pairR ky N).toList.Perm (pairD ky N).toList ∧ ∀ i j, i < j → j < N → ((pairR ky N)[i]!).1 ≤ ((pairR ky N)[j]!).1 := by
  have hds : (pairD ky N).size = N := by simp [pairD]
  obtain ⟨⟨h1, _, h3⟩, h4⟩ := pdq_sorts (ltOf fun x y : Int × Nat => Lib.compareInt x.1 y.1) swo_key (pairD ky N) 0 N (Lib.bitLen N) true true (Nat.zero_le _) (by rw [hds]; exact Nat.le_refl _) (Or.inl rfl)
  have hs : (pairR ky N).size = N := h1.trans hds
  refine ⟨hs, ?_, fun i j hij hj => ?_⟩
  · have e1 : (pdq (ltOf fun x y : Int × Nat => Lib.compareInt x.1 y.1) (pairD ky N) 0 N (Lib.bitLen N) true true).extract 0 N = pairR ky N := by
      have : (pairR ky N).extract 0 N = pairR ky N := by
        conv => lhs; rw [← hs]
        rw [hs]
        simp [hs]
      exact this
    have e2 : (pairD ky N).extract 0 N = pairD ky N := by simp [hds]
    rw [e1, e2] at h3
    exact h3
  · have h := h4 i j (Nat.zero_le _) hij hj
    rw [lt_key] at h
    have := of_decide_eq_false h
    exact Int.not_lt.1 this
theorem pairD_list (ky : Nat → Int) (N : Nat) : (pairD ky N).toList = (List.range N).map fun t => (ky t, t) := by simp [pairD]
theorem pair_get {ky : Nat → Int} {N j : Nat} (hj : j < (pairR ky N).toList.length) : (pairR ky N).toList[j] = (pairR ky N)[j]! := by
  simp at hj
  simp [hj]
/-- As many keys are less than that of the i-th pair as pairs stand ahead of it. -/
theorem rank_at {ky : Nat → Int} {N : Nat} (hinj : ∀ s t, s < N → t < N → ky s = ky t → s = t) {i : Nat} (hi : i < N) : cntTo (fun t => decide (ky t < ky ((pairR ky N)[i]!).2)) N = i := by
  obtain ⟨hs, hp, hle⟩ := pair_facts ky N
  have hlen : (pairR ky N).toList.length = N := by simpa using hs
  have hk : ∀ j, j < N → ((pairR ky N)[j]!).1 = ky ((pairR ky N)[j]!).2 ∧ ((pairR ky N)[j]!).2 < N := fun j hj => by
    obtain ⟨t, ht, e⟩ := pairR_of ky N j hj
    rw [e]; exact ⟨rfl, ht⟩
  have hnd : (pairR ky N).toList.Nodup := by
    refine hp.nodup_iff.2 ?_
    rw [pairD_list]
    refine List.Pairwise.map _ (fun a b h e => h ?_) (List.nodup_range (n := N))
    exact congrArg Prod.snd e
  have hne : ∀ a b, a < b → b < N → ((pairR ky N)[a]!).1 ≠ ((pairR ky N)[b]!).1 := fun a b hab hb e => by
    rw [(hk a (by omega)).1, (hk b hb).1] at e
    have e2 := hinj _ _ (hk a (by omega)).2 (hk b hb).2 e
    have e3 : (pairR ky N)[a]! = (pairR ky N)[b]! := Prod.ext (by rw [(hk a (by omega)).1, (hk b hb).1, e2]) e2
    have := List.pairwise_iff_getElem.1 hnd a b (by omega) (by omega) hab
    rw [pair_get, pair_get] at this
    exact this e3
  have hlt : ∀ a b, a < b → b < N → ((pairR ky N)[a]!).1 < ((pairR ky N)[b]!).1 := fun a b hab hb => by
    have h1 := hle a b hab hb
    have h2 := hne a b hab hb
    omega
  have own := (hk i hi).1
  have hc : cntTo (fun t => decide (ky t < ky ((pairR ky N)[i]!).2)) N = (pairR ky N).toList.countP fun x => decide (x.1 < ((pairR ky N)[i]!).1) := by
    rw [hp.countP_eq, pairD_list, List.countP_map, List.countP_eq_length_filter, own]
    rfl
  rw [hc]
  have hsplit : (pairR ky N).toList = (pairR ky N).toList.take i ++ (pairR ky N).toList.drop i := (List.take_append_drop _ _).symm
  rw [hsplit, List.countP_append]
  have h1 : ((pairR ky N).toList.take i).countP (fun x => decide (x.1 < ((pairR ky N)[i]!).1)) = i := by
    have : ((pairR ky N).toList.take i).countP (fun x => decide (x.1 < ((pairR ky N)[i]!).1)) = ((pairR ky N).toList.take i).length := by
      rw [List.countP_eq_length]
      intro x hx
      obtain ⟨j, hj, rfl⟩ := List.getElem_of_mem hx
      rw [List.getElem_take]
      rw [List.length_take] at hj
      rw [pair_get]
      exact decide_eq_true (hlt j i (by omega) hi)
    rw [this, List.length_take]
    omega
  have h2 : ((pairR ky N).toList.drop i).countP (fun x => decide (x.1 < ((pairR ky N)[i]!).1)) = 0 := by
    rw [List.countP_eq_zero]
    intro x hx
    obtain ⟨j, hj, rfl⟩ := List.getElem_of_mem hx
    rw [List.getElem_drop, pair_get]
    rw [List.length_drop] at hj
    simp only [decide_eq_true_eq]
    by_cases e : j = 0
    · subst e; simp
    · have := hlt i (i + j) (by omega) (by omega)
      omega
  rw [h1, h2, Nat.add_zero]
end Go.Proofs.YtogmbehomilalaaGreatDoor
end

/- Pairs of keys and cells, sorted. -/
section
namespace Go.Proofs.YtogmbehomilalaaGreatDoor
open Go Go.RowKit Go.Deep Go.Shelf Go.Lib Go.Sort

/-! Lists of n integers, compared from left to right. -/
theorem cmpI3 (x y : Int) : Lib.compareInt x y = if x < y then -1 else if y < x then 1 else 0 := by
  unfold Lib.compareInt
  split <;> (try split) <;> omega
/-- How three comparisons hang together. -/
theorem cmpTo_three (f g h : Nat → Int) (n : Nat) : ∀ k, k ≤ n → ((cmpTo f g n k = 0 → cmpTo f h n k = cmpTo g h n k) ∧ (cmpTo g h n k = 0 → cmpTo f h n k = cmpTo f g n k) ∧ (cmpTo f g n k = cmpTo g h n k → cmpTo f h n k = cmpTo f g n k)) ∧ (cmpTo f g n k = -1 ∨ cmpTo f g n k = 0 ∨ cmpTo f g n k = 1) ∧ (cmpTo g h n k = -1 ∨ cmpTo g h n k = 0 ∨ cmpTo g h n k = 1) ∧ (cmpTo f h n k = -1 ∨ cmpTo f h n k = 0 ∨ cmpTo f h n k = 1)
  | 0, _ => by simp [cmpTo]
  | k + 1, hk => by
    have ih := cmpTo_three f g h n k (by omega)
    rw [cmpTo, cmpTo, cmpTo, if_neg (by omega : ¬ n ≤ k), if_neg (by omega : ¬ n ≤ k), if_neg (by omega : ¬ n ≤ k), cmpI3, cmpI3, cmpI3]
    generalize cmpTo f g n k = a at *
    generalize cmpTo g h n k = b at *
    generalize cmpTo f h n k = c at *
    generalize f k = x
    generalize g k = y
    generalize h k = z
    rcases (by omega : x < y ∨ x = y ∨ y < x) with h1 | h1 | h1 <;> rcases (by omega : y < z ∨ y = z ∨ z < y) with h2 | h2 | h2 <;> rcases (by omega : x < z ∨ x = z ∨ z < x) with h3 | h3 | h3 <;> rcases ih.2.1 with ha | ha | ha <;> rcases ih.2.2.1 with hb | hb | hb <;> rcases ih.2.2.2 with hc | hc | hc <;> subst ha hb hc <;> simp at ih ⊢ <;> simp (disch := omega) [*] <;> omega
theorem cmpS_n (n : Nat) (f g : Nat → Int) : cmpS n n f g = cmpTo f g n n := by
  unfold cmpS
  split
  · rename_i h
    rw [if_neg (by omega), h]
  · rfl
theorem cmpTo_self (f : Nat → Int) (n : Nat) : ∀ k, k ≤ n → cmpTo f f n k = 0
  | 0, _ => rfl
  | k + 1, hk => by rw [cmpTo, cmpTo_self f n k (by omega), if_pos rfl, if_neg (by omega), cmpI3, if_neg (by omega), if_neg (by omega)]
theorem lt_list (n : Nat) (f : Nat → Nat → Int) (x y : Nat) : ltOf (fun x y : Nat => cmpS n n (f x) (f y)) x y = decide (cmpTo (f x) (f y) n n < 0) := by
  unfold ltOf
  show decide (cmpS n n (f x) (f y) < 0) = _
  rw [cmpS_n]
/-- Less, by the lists of integers. -/
theorem swo_list (n : Nat) (f : Nat → Nat → Int) : SWO (ltOf fun x y : Nat => cmpS n n (f x) (f y)) where
  irrefl x := by rw [lt_list, cmpTo_self _ _ _ (Nat.le_refl _)]; rfl
  trans x y z h1 h2 := by
    rw [lt_list, decide_eq_true_eq] at *
    have := cmpTo_three (f x) (f y) (f z) n n (Nat.le_refl _)
    omega
  ntrans x y z h1 h2 := by
    rw [lt_list, decide_eq_false_iff_not] at *
    have := cmpTo_three (f x) (f y) (f z) n n (Nat.le_refl _)
    omega
end Go.Proofs.YtogmbehomilalaaGreatDoor
end

/- The reference's lists that bear a key: where they lie, and how they grow. -/
section
namespace Go.Proofs.YtogmbehomilalaaGreatDoor
open Go Go.RowKit Go.Deep Go.Shelf

/-- Elements of two lists of integers each: their sizes, and what they hold. -/
structure KyD where
  ln : Nat → Nat
  vl : Nat → Nat
  x : Nat → Nat → Int
  y : Nat → Nat → Int
def KyAt (w : World) (C : Option Addr) (N : Nat) (c : KyD) : Prop :=
  0 < N → ∃ b o, C = some ⟨b, o, none⟩ ∧ b < w.heap.size ∧ ∀ k, k < N → ∃ P pc Q qc, w.cell? ⟨b, o + k * 2, none⟩ = some (.slice P (c.ln k) pc) ∧ w.cell? ⟨b, o + k * 2 + 1, none⟩ = some (.slice Q (c.vl k) qc) ∧ IntsAt w P (c.ln k) (c.x k) ∧ IntsAt w Q (c.vl k) (c.y k) ∧ c.ln k ≤ 1000
theorem KyAt.below {W W' : World} {C : Option Addr} {N : Nat} {c : KyD} (h : KyAt W C N c) (hb : Below W.heap.size W W') : KyAt W' C N c := fun hN => by
  obtain ⟨d, o, h1, h3, h4⟩ := h hN
  have hbl := hb.block d h3
  refine ⟨d, o, h1, Nat.lt_of_lt_of_le h3 hb.size, fun k hk => ?_⟩
  obtain ⟨P, pc, Q, qc, a1, a2, a3, a4, a5⟩ := h4 k hk
  exact ⟨P, pc, Q, qc, by rw [cell_blk hbl]; exact a1, by rw [cell_blk hbl]; exact a2, a3.below hb, a4.below hb, a5⟩
/-- The slice v is the walk's own, from block B on, and holds n cells; their lists lie elsewhere. -/
def OwnY (S : Option Addr → Prop) (w : World) (B : Nat) (v : Value) (n : Nat) (c : KyD) : Prop :=
  ∃ xs, w.ownsRow B 103 2 v n xs ∧ ∀ k, k < n → ∃ P pc Q qc, xs[k * 2]? = some (.slice P (c.ln k) pc) ∧ xs[k * 2 + 1]? = some (.slice Q (c.vl k) qc) ∧ IntsAt w P (c.ln k) (c.x k) ∧ IntsAt w Q (c.vl k) (c.y k) ∧ (S P ∧ S Q) ∧
    (0 < c.ln k → ∀ a, P = some a → v.ownBlock ≠ some a.block) ∧ (0 < c.vl k → ∀ a, Q = some a → v.ownBlock ≠ some a.block)
theorem OwnY.nil (S : Option Addr → Prop) (w : World) (B : Nat) (c : KyD) : OwnY S w B (.slice none 0 0) 0 c := ⟨[], ⟨rfl, .inl ⟨rfl, rfl⟩⟩, fun k hk => absurd hk (by omega)⟩
theorem OwnY.below {S : Option Addr → Prop} {w w' : World} {B n : Nat} {v : Value} {c : KyD} (h : OwnY S w B v n c) (hb : Below w.heap.size w w') : OwnY S w' B v n c := by
  obtain ⟨xs, h1, h2⟩ := h
  refine ⟨xs, h1.kept (Below.by_ hb) ?_, fun k hk => ?_⟩
  · cases e : v.ownBlock with
    | none => exact .inl rfl
    | some g => exact .inr (by simp)
  · obtain ⟨P, pc, Q, qc, a1, a2, a3, a4, a5⟩ := h2 k hk
    exact ⟨P, pc, Q, qc, a1, a2, a3.below hb, a4.below hb, a5⟩
theorem OwnY.set {S : Option Addr → Prop} {w w' : World} {B n b : Nat} {v : Value} {c : KyD} (h : OwnY S w B v n c) (hg : w.grownBy w' (some b)) (hB : b < B) (hS : ∀ P, S P → ∀ a, P = some a → a.block ≠ b) : OwnY S w' B v n c := by
  obtain ⟨xs, h1, h2⟩ := h
  refine ⟨xs, h1.kept hg ?_, fun k hk => ?_⟩
  · cases e : v.ownBlock with
    | none => exact .inl rfl
    | some g =>
      obtain ⟨hg1, _⟩ := own_lt h1 g e
      refine .inr fun e2 => ?_
      injection e2 with e2
      omega
  · obtain ⟨P, pc, Q, qc, a1, a2, a3, a4, a5⟩ := h2 k hk
    exact ⟨P, pc, Q, qc, a1, a2, (a3.row.grown hg (fun _ => hS P a5.1.1)).ints, (a4.row.grown hg (fun _ => hS Q a5.1.2)).ints, a5⟩
theorem OwnY.block {S : Option Addr → Prop} {w : World} {B n : Nat} {v : Value} {c : KyD} (h : OwnY S w B v n c) {g : Nat} (hg : v.ownBlock = some g) : B ≤ g ∧ g < w.heap.size := by
  obtain ⟨xs, h1, _⟩ := h
  obtain ⟨a, cs, b⟩ := own_lt h1 g hg
  exact ⟨a, (Array.getElem?_eq_some_iff.1 b).1⟩
theorem OwnY.row {S : Option Addr → Prop} {w : World} {B n : Nat} {v : Value} {c : KyD} (h : OwnY S w B v n c) : ∃ A cap, v = .slice A n cap ∧ (0 < n → ∃ b, A = some ⟨b, 0, none⟩ ∧ B ≤ b ∧ b < w.heap.size ∧ ∀ k, k < n → ∃ P pc Q qc, w.cell? ⟨b, k * 2, none⟩ = some (.slice P (c.ln k) pc) ∧ w.cell? ⟨b, k * 2 + 1, none⟩ = some (.slice Q (c.vl k) qc) ∧ IntsAt w P (c.ln k) (c.x k) ∧ IntsAt w Q (c.vl k) (c.y k) ∧ (S P ∧ S Q)) := by
  obtain ⟨xs, ⟨hl, h1⟩, h2⟩ := h
  rcases h1 with ⟨rfl, rfl⟩ | ⟨g, cap, cur, rfl, hBg, hh, hcap, _, hs, ht⟩
  · exact ⟨none, 0, rfl, fun h => absurd h (by omega)⟩
  · refine ⟨_, _, rfl, fun hn => ⟨g, rfl, hBg, (Array.getElem?_eq_some_iff.1 hh).1, fun k hk => ?_⟩⟩
    obtain ⟨P, pc, Q, qc, a1, a2, a3, a4, a5, _⟩ := h2 k hk
    have get : ∀ j u, j < n * 2 → xs[j]? = some u → w.cell? ⟨g, j, none⟩ = some u := fun j u hj hu => by
      have h3 : cur.toList[j]? = some u := by
        rw [← List.getElem?_take_of_lt hj, ht]
        exact hu
      rw [Array.getElem?_toList] at h3
      simp [World.cell?, hh, h3]
    exact ⟨P, pc, Q, qc, get _ _ (by omega) a1, get _ _ (by omega) a2, a3, a4, a5⟩
theorem info_ky2 : (Tryz.prog.info? 103).map (fun i => (i.zero, i.size, i.bytes)) = some (some (.agg #[.slice none 0 0, .slice none 0 0]), 2, 48) := by kernel_rfl
/-- One cell more, behind a literal of one cell: the list lies where it lay, or in a new block. -/
theorem wpList_appY {ops : Array Oper} {rest : List Oper} {o : Oper} {a : Act} {Q' : Exit → Act → World → Prop} (hgd : o.guard = none) (s x : Operand)
    (ho : o.op = .call { callee := .builtin .append, args := #[s, x], argTypes := #[100, 100] })
    (W : World) (S : Option Addr → Prop) (B : Nat) (v : Value) (n : Nat) (c : KyD) (hs : a.eval s = v) (b : Nat) (hx : a.eval x = .slice (some ⟨b, 0, none⟩) 1 1)
    (P Q : Option Addr) (pc qc : Nat) (hb : W.heap[b]? = some (.cells #[.slice P (c.ln n) pc, .slice Q (c.vl n) qc] 103 (0, 0)))
    (hi : IntsAt W P (c.ln n) (c.x n)) (hv : IntsAt W Q (c.vl n) (c.y n)) (hS : S P ∧ S Q)
    (hne : (0 < c.ln n → ∀ a, P = some a → v.ownBlock ≠ some a.block) ∧ (0 < c.vl n → ∀ a, Q = some a → v.ownBlock ≠ some a.block))
    (hown : OwnY S W B v n c) (hn : n ≤ 1000000) (hB : B ≤ W.heap.size)
    (h : ∀ v' w', OwnY S w' B v' (n + 1) c → W.grownBy w' v.ownBlock → (v'.ownBlock = v.ownBlock ∨ ∃ g, v'.ownBlock = some g ∧ W.heap.size ≤ g) → wpList Tryz.prog ops Q' rest (a.put o.dst v') w') : wpList Tryz.prog ops Q' (o :: rest) a W := by
  obtain ⟨xs, h1, h2⟩ := hown
  obtain ⟨i0, hi0, hz0, hz1, hz2⟩ := info_parts info_ky2
  have hlb : b < W.heap.size := (Array.getElem?_eq_some_iff.1 hb).1
  have hnew : ∀ j u, [Value.slice P (c.ln n) pc, Value.slice Q (c.vl n) qc][j]? = some u → W.cell? ((⟨b, 0, none⟩ : Addr).add j) = some u := by
    intro j u hu
    rcases j with _ | _ | j
    · have hu' : u = .slice P (c.ln n) pc := by simpa using hu.symm
      subst hu'
      simp [World.cell?, hb, Addr.add]
    · have hu' : u = .slice Q (c.vl n) qc := by simpa using hu.symm
      subst hu'
      simp [World.cell?, hb, Addr.add]
    · simp at hu
  refine wpList_append_own_at _ hgd s x 100 ho B 103 i0 (.agg #[.slice none 0 0, .slice none 0 0]) 2 48 Tryz.underlying100 hi0 hz0 hz1 hz2 rfl (by decide) v n xs hs h1 ⟨b, 0, none⟩ 1 1 [.slice P (c.ln n) pc, .slice Q (c.vl n) qc] hx rfl hnew
    (fun u hu => by
      simp only [List.mem_cons, List.not_mem_nil, or_false] at hu
      rcases hu with rfl | rfl <;> rfl) (by unfold maxLen; omega) (by omega) hB ?_
  intro v' w' g1 g2 _ g4
  have hl : xs.length = n * 2 := h1.1
  have apart : ∀ (A : Option Addr) (z m : Nat) (f : Nat → Nat → Value), RowAt W A m z f → (0 < m → ∀ a, A = some a → v.ownBlock ≠ some a.block) → 0 < m → ∀ a, A = some a → v'.ownBlock ≠ some a.block := by
    intro A z m f hr hp hm ad had
    rcases g4 with e | h9
    · rw [e]; exact hp hm ad had
    · have h8 := hr.lt hm had
      intro e
      rw [e] at h9
      injection h9 with h9
      omega
  refine h v' w' ⟨xs ++ [.slice P (c.ln n) pc, .slice Q (c.vl n) qc], g1, fun k hk => ?_⟩ g2 (g4.imp id fun h9 => ⟨_, h9, Nat.le_refl _⟩)
  by_cases e : k = n
  · subst e
    refine ⟨P, pc, Q, qc, ?_, ?_, (hi.row.grownO g2 hne.1).ints, (hv.row.grownO g2 hne.2).ints, hS, apart _ _ _ _ hi.row hne.1, apart _ _ _ _ hv.row hne.2⟩
    · rw [List.getElem?_append_right (by omega), hl, Nat.sub_self]; rfl
    · rw [List.getElem?_append_right (by omega), hl, show k * 2 + 1 - k * 2 = 1 by omega]; rfl
  · obtain ⟨P', pc', Q', qc', a1, a2, a3, a4, a5, a6, a7⟩ := h2 k (by omega)
    refine ⟨P', pc', Q', qc', ?_, ?_, (a3.row.grownO g2 a6).ints, (a4.row.grownO g2 a7).ints, a5, apart _ _ _ _ a3.row a6, apart _ _ _ _ a4.row a7⟩
    · rw [List.getElem?_append_left (by omega)]; exact a1
    · rw [List.getElem?_append_left (by omega)]; exact a2
end Go.Proofs.YtogmbehomilalaaGreatDoor
end

/- A whole slice of them appended, nil or not. -/
section
namespace Go.Proofs.YtogmbehomilalaaGreatDoor
open Go Go.RowKit Go.Deep Go.Shelf

/-- Elements by a list of their numbers. -/
def KyD.of (T : KyD) (L : List Nat) : KyD := ⟨fun k => T.ln (L[k]!), fun k => T.vl (L[k]!), fun k => T.x (L[k]!), fun k => T.y (L[k]!)⟩
set_option maxRecDepth 100000 in
theorem wpList_appYs {ops : Array Oper} {rest : List Oper} {o : Oper} {a : Act} {Q' : Exit → Act → World → Prop} (hgd : o.guard = none) (s x : Operand)
    (ho : o.op = .call { callee := .builtin .append, args := #[s, x], argTypes := #[100, 100] })
    (W0 W : World) (B : Nat) (v : Value) (n : Nat) (T : KyD) (L M : List Nat) (hs : a.eval s = v) (A : Option Addr) (m cc : Nat) (hx : a.eval x = .slice A m cc) (hM : m = M.length) (hL : n = L.length)
    (hy : KyAt W0 A m (T.of M)) (hb : Below W0.heap.size W0 W) (hB0 : W0.heap.size ≤ B) (hown : OwnY (fun _ => True) W B v n (T.of L)) (hn : n ≤ 1000000) (hm : m ≤ 1000000) (hB : B ≤ W.heap.size)
    (h : ∀ v' w', OwnY (fun _ => True) w' B v' (n + m) (T.of (L ++ M)) → W.grownBy w' v.ownBlock → wpList Tryz.prog ops Q' rest (a.put o.dst v') w') : wpList Tryz.prog ops Q' (o :: rest) a W := by
  subst hM hL
  obtain ⟨xs, h1, h2⟩ := hown
  obtain ⟨i0, hi0, hz0, hz1, hz2⟩ := info_parts info_ky2
  have hex : ∀ k, ∃ pq : Value × Value, (∃ P c, pq.1 = .slice P (T.ln (M[k]!)) c ∧ (k < M.length → IntsAt W0 P (T.ln (M[k]!)) (T.x (M[k]!)))) ∧ (∃ Q c, pq.2 = .slice Q (T.vl (M[k]!)) c ∧ (k < M.length → IntsAt W0 Q (T.vl (M[k]!)) (T.y (M[k]!)))) ∧
      (k < M.length → ∃ b o, A = some ⟨b, o, none⟩ ∧ b < W0.heap.size ∧ W0.cell? ⟨b, o + k * 2, none⟩ = some pq.1 ∧ W0.cell? ⟨b, o + k * 2 + 1, none⟩ = some pq.2) := fun k => by
    by_cases hk : k < M.length
    · obtain ⟨b, o, e1, e2, e3⟩ := hy (by omega)
      obtain ⟨P, c, Q, d, a1, a2, a3, a4, _⟩ := e3 k hk
      exact ⟨(_, _), ⟨P, c, rfl, fun _ => a3⟩, ⟨Q, d, rfl, fun _ => a4⟩, fun _ => ⟨b, o, e1, e2, a1, a2⟩⟩
    · exact ⟨(.slice none _ 0, .slice none _ 0), ⟨none, 0, rfl, fun h => absurd h hk⟩, ⟨none, 0, rfl, fun h => absurd h hk⟩, fun h => absurd h hk⟩
  obtain ⟨pq, hpq⟩ := Classical.axiomOfChoice hex
  have hrow : RowAt W A M.length 2 (fun k r => if r = 0 then (pq k).1 else (pq k).2) := fun h0 => by
    obtain ⟨b, o, e1, e2, _⟩ := (hpq 0).2.2 h0
    refine ⟨b, o, e1, Nat.lt_of_lt_of_le e2 hb.size, fun k r hk hr => ?_⟩
    obtain ⟨b', o', e1', _, c0, c1⟩ := (hpq k).2.2 hk
    rw [e1] at e1'
    injection e1' with e1'
    injection e1' with e3 e4 _
    subst e3 e4
    rcases (by omega : r = 0 ∨ r = 1) with rfl | rfl
    · exact (hb.cell (p := ⟨b, o + k * 2, none⟩) e2).trans c0
    · exact (hb.cell (p := ⟨b, o + k * 2 + 1, none⟩) e2).trans c1
  refine wpList_app_rowA hgd s x 100 ho B 103 i0 (.agg #[.slice none 0 0, .slice none 0 0]) 2 48 Tryz.underlying100 hi0 hz0 hz1 hz2 rfl (by decide) v L.length xs hs h1 A M.length cc _ hx hrow (fun k r => by
    obtain ⟨⟨P, c, e1, _⟩, ⟨Q, d, e2, _⟩, _⟩ := hpq k
    show (if r = 0 then (pq k).1 else (pq k).2).oneCell' = true
    split
    · rw [e1]; rfl
    · rw [e2]; rfl) (by unfold maxLen; omega) (by omega) hB ?_
  intro v' w' g1 g2 g4
  have hl : xs.length = L.length * 2 := h1.1
  have apart : ∀ (A : Option Addr) (z m : Nat) (f : Nat → Nat → Value), RowAt W A m z f → (0 < m → ∀ a, A = some a → v.ownBlock ≠ some a.block) → 0 < m → ∀ a, A = some a → v'.ownBlock ≠ some a.block := by
    intro A z m f hr hp hm ad had
    rcases g4 with e | h9
    · rw [e]; exact hp hm ad had
    · have h8 := hr.lt hm had
      intro e
      rw [e] at h9
      injection h9 with h9
      omega
  have far : ∀ (A : Option Addr) (z m : Nat) (f : Nat → Nat → Value), RowAt W0 A m z f → 0 < m → ∀ a, A = some a → v.ownBlock ≠ some a.block := fun A z m f hr hm a ha e => by
    have h8 := hr.lt hm ha
    obtain ⟨h9, _⟩ := own_lt h1 _ e
    omega
  refine h v' w' ⟨_, g1, fun k hk => ?_⟩ g2
  by_cases e : k < L.length
  · obtain ⟨P', pc', Q', qc', a1, a2, a3, a4, _, a6, a7⟩ := h2 k e
    have eg : (L ++ M)[k]! = L[k]! := getL_left e
    refine ⟨P', pc', Q', qc', ?_, ?_, ?_, ?_, ⟨trivial, trivial⟩, ?_, ?_⟩
    · rw [List.getElem?_append_left (by omega)]; show _ = some (Value.slice P' (T.ln ((L ++ M)[k]!)) pc'); rw [eg]; exact a1
    · rw [List.getElem?_append_left (by omega)]; show _ = some (Value.slice Q' (T.vl ((L ++ M)[k]!)) qc'); rw [eg]; exact a2
    · show IntsAt w' P' (T.ln ((L ++ M)[k]!)) (T.x ((L ++ M)[k]!)); rw [eg]; exact (a3.row.grownO g2 a6).ints
    · show IntsAt w' Q' (T.vl ((L ++ M)[k]!)) (T.y ((L ++ M)[k]!)); rw [eg]; exact (a4.row.grownO g2 a7).ints
    · show 0 < T.ln ((L ++ M)[k]!) → _; rw [eg]; exact apart _ _ _ _ a3.row a6
    · show 0 < T.vl ((L ++ M)[k]!) → _; rw [eg]; exact apart _ _ _ _ a4.row a7
  · have eg : (L ++ M)[k]! = M[k - L.length]! := getL_right (by omega)
    obtain ⟨⟨P, c, e1, a3⟩, ⟨Q, d, e2, a4⟩, _⟩ := hpq (k - L.length)
    have a3 := a3 (by omega)
    have a4 := a4 (by omega)
    have gw : ∀ j, j < 2 → (xs ++ rowL (fun k r => if r = 0 then (pq k).1 else (pq k).2) 2 M.length)[k * 2 + j]? = some (if j = 0 then (pq (k - L.length)).1 else (pq (k - L.length)).2) := fun j hj => by
      rw [List.getElem?_append_right (by omega), hl]
      have hjl : k * 2 + j - L.length * 2 < M.length * 2 := by omega
      simp only [rowL, List.getElem?_map, List.getElem?_range hjl, Option.map_some]
      rw [show (k * 2 + j - L.length * 2) / 2 = k - L.length by omega, show (k * 2 + j - L.length * 2) % 2 = j by omega]
    refine ⟨P, c, Q, d, ?_, ?_, ?_, ?_, ⟨trivial, trivial⟩, ?_, ?_⟩
    · have := gw 0 (by omega); rw [Nat.add_zero, if_pos rfl, e1] at this; rw [this]; show _ = some (Value.slice P (T.ln ((L ++ M)[k]!)) c); rw [eg]
    · have := gw 1 (by omega); rw [if_neg (by decide), e2] at this; rw [this]; show _ = some (Value.slice Q (T.vl ((L ++ M)[k]!)) d); rw [eg]
    · show IntsAt w' P (T.ln ((L ++ M)[k]!)) (T.x ((L ++ M)[k]!)); rw [eg]; exact ((a3.below hb).row.grownO g2 (far _ _ _ _ a3.row)).ints
    · show IntsAt w' Q (T.vl ((L ++ M)[k]!)) (T.y ((L ++ M)[k]!)); rw [eg]; exact ((a4.below hb).row.grownO g2 (far _ _ _ _ a4.row)).ints
    · show 0 < T.ln ((L ++ M)[k]!) → _; rw [eg]; exact apart _ _ _ _ (a3.below hb).row (far _ _ _ _ a3.row)
    · show 0 < T.vl ((L ++ M)[k]!) → _; rw [eg]; exact apart _ _ _ _ (a4.below hb).row (far _ _ _ _ a4.row)
end Go.Proofs.YtogmbehomilalaaGreatDoor
end

/- The reference's comparison of coordinates. -/
section
namespace Go.Proofs.YtogmbehomilalaaGreatDoor
open Go Go.RowKit Go.Deep

set_option maxRecDepth 100000 in
set_option maxHeartbeats 2000000 in
theorem r_Compare (w : World) (A B : Option Addr) (n c m d : Nat) (f g : Nat → Int) (ha : IntsAt w A n f) (hb : IntsAt w B m g) (hn : n ≤ 1000000) (hm : m ≤ 1000000) :
    Calls Tryz.prog 32 #[.slice A n c, .slice B m d] w fun e w' => e = .returned (.int .i64 (cmpS n m f g)) ∧ Below w.heap.size w w' := by
  have HA := Lib.hid ha
  have HB := Lib.hid hb
  obtain ⟨ve, hve⟩ : ∃ ve, cmpS n m f g = ve := ⟨_, rfl⟩
  rw [hve]
  have HV : Hid (ve = if cmpTo f g m n = 0 then (if n < m then -1 else 0) else cmpTo f g m n) := hve.symm
  clear ha hb hve
  go_enter Tryz.func32, Tryz.ntmps32
  go_wp2
  go_loopw [5] (fun i wr => ∃ k : Nat, k ≤ n ∧ k ≤ m ∧ i = .int .i64 k ∧ Hid (cmpTo f g m k = 0) ∧ Hid (Below w.heap.size w wr)) (fun i _ => n - (intOf i).toNat)
  case atStart => exact ⟨0, Nat.zero_le _, Nat.zero_le _, rfl, rfl, Below.refl _ _⟩
  case round =>
    obtain ⟨k, hk, hkm, rfl, HK, HBw⟩ := hrel
    by_cases hlt : k < n
    · have HS : Hid (cmpTo f g m (k + 1) = if m ≤ k then 1 else Lib.compareInt (f k) (g k)) := by show _ = _; rw [cmpTo, if_pos HK.out]
      by_cases hlm : k < m
      · obtain ⟨b1, o1, rfl, _, hc1⟩ := (HA.out.below HBw.out) (by omega)
        have x0 := hc1 k hlt
        obtain ⟨b2, o2, rfl, _, hc2⟩ := (HB.out.below HBw.out) (by omega)
        have y0 := hc2 k hlm
        clear hc1 hc2
        rw [if_neg (by omega)] at HS
        have HE : Hid (Lib.compareInt (f k) (g k) ≠ 0 → ve = Lib.compareInt (f k) (g k)) := fun h => by
          have h1 := cmpTo_le (f := f) (g := g) (m := m) (k := k + 1) (n := n) (by rw [HS.out]; exact h) (by omega)
          rw [HV.out, h1, HS.out, if_neg h]
        have hx0 : ∀ W, Below wr.heap.size wr W → True := fun _ _ => trivial
        have HCW : Hid (∀ n9, (wr.drewN n9).cell? ⟨b1, o1 + k, none⟩ = some (.int .i64 (f k)) ∧ (wr.drewN n9).cell? ⟨b2, o2 + k, none⟩ = some (.int .i64 (g k))) := fun n9 => ⟨x0, y0⟩
        clear hx0
        have HD : Hid (Lib.compareInt (f k) (g k) = if f k < g k then -1 else if g k < f k then 1 else 0) := rfl
        generalize f k = x at *
        generalize g k = y at *
        by_cases g1 : x < y
        · have HF : Hid (ve = -1) := by
            have h9 : Lib.compareInt x y = -1 := by rw [HD.out, if_pos g1]
            rw [h9] at HE
            exact HE.out (by decide)
          go_wp2
          go_quiet (fail)
          go_wp2
          go_ret
          exact ⟨by rw [HF.out]; rfl, drewB HBw.out _⟩
        · by_cases g2 : y < x
          · have HF : Hid (ve = 1) := by
              have h9 : Lib.compareInt x y = 1 := by rw [HD.out, if_neg g1, if_pos g2]
              rw [h9] at HE
              exact HE.out (by decide)
            have g3 : x > y := g2
            clear HE HD HS
            go_wp2
            go_quiet (fail)
            have HB1 : Hid (Below w.heap.size w (wr.drewN nq)) := drewB HBw.out _
            obtain ⟨x1, y1⟩ := HCW.out nq
            clear x0 y0 HCW
            generalize wr.drewN nq = wq at *
            go_wp2
            go_quiet (fail)
            go_wp2
            go_ret
            exact ⟨by rw [HF.out]; rfl, drewB HB1.out _⟩
          · have HR : Hid (cmpTo f g m (k + 1) = 0) := by show _ = _; rw [HS.out, HD.out, if_neg g1, if_neg g2]
            have g3 : ¬ x > y := g2
            clear HE HD HS
            go_wp2
            go_quiet (fail)
            have HB1 : Hid (Below w.heap.size w (wr.drewN nq)) := drewB HBw.out _
            obtain ⟨x1, y1⟩ := HCW.out nq
            clear x0 y0 HCW
            generalize wr.drewN nq = wq at *
            go_wp2
            go_quiet (fail)
            go_wp2
            go_roundw
            case rel => exact ⟨k + 1, by omega, by omega, by go_num, HR.out, drewB HB1.out _⟩
            case measure => simp [intOf]; omega
      · have HF : Hid (ve = 1) := by
          show _ = _
          have h1 : cmpTo f g m (k + 1) = 1 := by rw [HS.out, if_pos (by omega)]
          rw [HV.out, cmpTo_le (k := k + 1) (by rw [h1]; decide) (by omega), h1]; rfl
        have h2 : ¬ (k : Int) < (m : Int) := by omega
        have h3 : ¬ (n : Int) < (m : Int) := by omega
        have h4 : (n : Int) > (m : Int) := by omega
        go_wp2
        go_ret
        exact ⟨by rw [HF.out]; rfl, HBw.out⟩
    · obtain rfl : k = n := by omega
      rw [if_pos HK.out] at HV
      by_cases hkm2 : k < m
      · rw [if_pos hkm2] at HV
        have hkm' : (k : Int) < (m : Int) := by omega
        go_wp2
        go_ret
        exact ⟨by rw [HV.out]; rfl, HBw.out⟩
      · rw [if_neg hkm2] at HV
        have hkm' : ¬ (k : Int) < (m : Int) := by omega
        have hkm3 : ¬ (k : Int) > (m : Int) := by omega
        go_wp2
        go_ret
        exact ⟨by rw [HV.out]; rfl, HBw.out⟩
end Go.Proofs.YtogmbehomilalaaGreatDoor
end

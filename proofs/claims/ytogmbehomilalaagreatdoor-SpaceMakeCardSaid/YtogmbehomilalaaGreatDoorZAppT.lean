/- There is one order of cells no two of which have the same place. -/
import Derived.Test.YtogmbehomilalaaGreatDoorZRfMG
import Derived.Test.YtogmbehomilalaaGreatDoorZSrC
import Derived.Test.YtogmbehomilalaaGreatDoorZArGa
import Derived.Test.YtogmbehomilalaaGreatDoorZActL
import Derived.Test.YtogmbehomilalaaGreatDoorZRfC

/- There is one order of cells no two of which have the same place. -/
section
namespace Go.Proofs.YtogmbehomilalaaGreatDoor
open Go Go.RowKit Go.Deep Go.Shelf Go.Sort

/-- A list in order, as far as keys go. -/
def Weak (n N : Nat) (x : Nat → Nat → Int) (L : List Nat) : Prop := ∀ i j, i < j → j < N → cmpTo (x (L[i]!)) (x (L[j]!)) n n ≤ 0
def Strict (n N : Nat) (x : Nat → Nat → Int) (L : List Nat) : Prop := ∀ i j, i < j → j < N → cmpTo (x (L[i]!)) (x (L[j]!)) n n = -1
theorem anti (f g : Nat → Int) (n : Nat) : cmpTo g f n n = - cmpTo f g n n := by
  have h := cmpTo_three f g f n n (Nat.le_refl _)
  have h2 := cmpTo_three g f g n n (Nat.le_refl _)
  rw [cmpTo_self _ _ _ (Nat.le_refl _)] at h h2
  omega
theorem weak_strict {n N : Nat} {c : CeD} {L : List Nat} (hw : Weak n N c.x L) (hz : fstE (adjE n c fun j => L[j]!) N = 0) : Strict n N c.x L := fun i j hij hj => by
  have ha : adjE n c (fun j => L[j]!) (i + 1) = 0 := fstE_zero hz (i + 1) (by omega)
  have h1 : cmpTo (c.x (L[i]!)) (c.x (L[i + 1]!)) n n ≠ 0 := fun h => by
    unfold adjE at ha
    rw [if_neg (by omega), cmpS_n] at ha
    rw [if_pos (show cmpTo (c.x (L[i + 1 - 1]!)) (c.x (L[i + 1]!)) n n = 0 from h)] at ha
    cases ha
  have h2 := hw i (i + 1) (by omega) (by omega)
  by_cases e : j = i + 1
  · subst e
    have := (cmpTo_three (c.x (L[i]!)) (c.x (L[i + 1]!)) (c.x (L[i]!)) n n (Nat.le_refl _)).2.1
    omega
  · have h3 := hw (i + 1) j (by omega) hj
    have := cmpTo_three (c.x (L[i]!)) (c.x (L[i + 1]!)) (c.x (L[j]!)) n n (Nat.le_refl _)
    omega
theorem perm_at {L : List Nat} {N t : Nat} (h : L.Perm (List.range N)) (ht : t < N) : ∃ a, a < N ∧ L[a]! = t := by
  have hl : L.length = N := by rw [h.length_eq, List.length_range]
  obtain ⟨a, ha, e⟩ := List.getElem_of_mem (h.mem_iff.2 (List.mem_range.2 ht))
  exact ⟨a, by omega, by rw [getElem!_pos L a ha]; exact e⟩
theorem perm_inj {L : List Nat} {N i j : Nat} (h : L.Perm (List.range N)) (hij : i < j) (hj : j < N) : L[i]! ≠ L[j]! := by
  have hl : L.length = N := by rw [h.length_eq, List.length_range]
  have hnd : L.Nodup := h.nodup_iff.2 List.nodup_range
  rw [getElem!_pos L i (by omega), getElem!_pos L j (by omega)]
  exact List.pairwise_iff_getElem.1 hnd i j (by omega) (by omega) hij
theorem strict_uniq {n N : Nat} {x : Nat → Nat → Int} {L Q : List Nat} (pL : L.Perm (List.range N)) (pQ : Q.Perm (List.range N)) (sL : Strict n N x L) (sQ : Strict n N x Q) : ∀ j, j < N → L[j]! = Q[j]! := by
  intro j
  induction j using Nat.strongRecOn with
  | ind j ih =>
    intro hj
    obtain ⟨a, ha, ea⟩ := perm_at pQ (perm_lt pL hj)
    obtain ⟨b, hb, eb⟩ := perm_at pL (perm_lt pQ hj)
    by_cases h : a = j
    · rw [← ea, h]
    · exfalso
      have ha2 : j < a := by
        rcases Nat.lt_trichotomy a j with h2 | h2 | h2
        · exact absurd ((ih a h2 ha).trans ea) (perm_inj pL h2 hj)
        · exact absurd h2 h
        · exact h2
      have hb2 : j < b := by
        rcases Nat.lt_trichotomy b j with h2 | h2 | h2
        · exact absurd ((ih b h2 hb).symm.trans eb) (perm_inj pQ h2 hj)
        · subst h2
          exact absurd (eb.symm.trans ea.symm) (perm_inj pQ ha2 ha)
        · exact h2
      have h1 := sQ j a ha2 ha
      have h2 := sL j b hb2 hb
      rw [ea] at h1
      rw [eb, anti] at h2
      omega
theorem strict_adj {n N : Nat} {c : CeD} {L Q : List Nat} (pL : L.Perm (List.range N)) (pQ : Q.Perm (List.range N)) (sL : Strict n N c.x L) : fstE (adjE n c fun j => Q[j]!) N = 0 := fstE_all fun k hk => by
  unfold adjE
  by_cases h0 : k = 0
  · rw [if_pos h0]
  · rw [if_neg h0, cmpS_n, if_neg]
    obtain ⟨a, ha, ea⟩ := perm_at pL (perm_lt pQ (show k - 1 < N by omega))
    obtain ⟨b, hb, eb⟩ := perm_at pL (perm_lt pQ hk)
    have hab : a ≠ b := fun e => by
      subst e
      exact absurd (ea.symm.trans eb) (perm_inj pQ (by omega) hk)
    show ¬ cmpTo (c.x (Q[k - 1]!)) (c.x (Q[k]!)) n n = 0
    rw [← ea, ← eb]
    rcases Nat.lt_or_gt_of_ne hab with h | h
    · rw [sL a b h hb]; decide
    · rw [anti, sL b a h ha]; decide
theorem adj_five {n N : Nat} {c : CeD} {r : Nat → Nat} (h : fstE (adjE n c r) N ≠ 0) : fstE (adjE n c r) N = 5 := by
  obtain ⟨K, _, _, h3, h4⟩ := fstE_first h
  rw [h4]
  unfold adjE at h3 ⊢
  by_cases e : K = 0
  · rw [if_pos e] at h3; exact absurd rfl h3
  · rw [if_neg e] at h3 ⊢
    by_cases e2 : cmpS n n (c.x (r (K - 1))) (c.x (r K)) = 0
    · rw [if_pos e2]
    · rw [if_neg e2] at h3; exact absurd rfl h3
/-- Two orders of the same cells: the same error, and the same order where there is none. -/
theorem two_orders {n N : Nat} {c : CeD} {L Q : List Nat} (pL : L.Perm (List.range N)) (pQ : Q.Perm (List.range N)) (wL : Weak n N c.x L) (wQ : Weak n N c.x Q) : fstE (adjE n c fun j => L[j]!) N = fstE (adjE n c fun j => Q[j]!) N ∧ (fstE (adjE n c fun j => L[j]!) N = 0 → ∀ j, j < N → L[j]! = Q[j]!) := by
  by_cases h1 : fstE (adjE n c fun j => L[j]!) N = 0
  · have h2 := strict_adj pL pQ (weak_strict wL h1)
    exact ⟨h1.trans h2.symm, fun _ => strict_uniq pL pQ (weak_strict wL h1) (weak_strict wQ h2)⟩
  · refine ⟨?_, fun h => absurd h h1⟩
    by_cases h2 : fstE (adjE n c fun j => Q[j]!) N = 0
    · exact absurd (strict_adj pQ pL (weak_strict wQ h2)) h1
    · rw [adj_five h1, adj_five h2]
theorem ord_weak {n m N : Nat} {c : CeD} {L : List Nat} (pL : L.Perm (List.range N)) (h : InOrd (tabC n m N c) L) : Weak n N c.x L := fun i j hij hj => by
  have hl : L.length = N := by rw [pL.length_eq, List.length_range]
  have h9 := List.pairwise_iff_getElem.1 h i j (by omega) (by omega) hij
  have e1 := perm_lt pL (show i < N by omega)
  have e2 := perm_lt pL hj
  rw [getElem!_pos L i (by omega)] at e1 ⊢
  rw [getElem!_pos L j (by omega)] at e2 ⊢
  rw [Bool.not_eq_true'] at h9
  unfold lessC at h9
  rw [decide_eq_false_iff_not] at h9
  have h8 : ¬ cmpS n n (c.x (clN N L[j])) (c.x (clN N L[i])) < 0 := h9
  rw [clN_id e1, clN_id e2, cmpS_n, anti] at h8
  omega
/-- The program's order as a list. -/
theorem srt_list (n N : Nat) (c : CeD) : ∃ Q : List Nat, Q.Perm (List.range N) ∧ Weak n N c.x Q ∧ ∀ j, j < N → srtR n N c j = Q[j]! := by
  have hs := numR_size n (fun t => c.x (clN N t)) N
  have hp := (pdq_sorts (ltOf fun x y : Nat => cmpS n n (c.x (clN N x)) (c.x (clN N y))) (swo_list n fun t => c.x (clN N t)) (List.range N).toArray 0 N (Lib.bitLen N) true true (Nat.zero_le _) (by simp) (Or.inl rfl)).1
  obtain ⟨h1, _, h3⟩ := hp
  have h3' : ((numR n (fun t => c.x (clN N t)) N).extract 0 N).toList.Perm ((List.range N).toArray.extract 0 N).toList := h3
  have e1 : (numR n (fun t => c.x (clN N t)) N).extract 0 N = numR n (fun t => c.x (clN N t)) N := by
    have h9 := Array.extract_size (xs := numR n (fun t => c.x (clN N t)) N)
    rwa [hs] at h9
  have e2 : ((List.range N).toArray.extract 0 N).toList = List.range N := by simp
  rw [e1, e2] at h3'
  have eg : ∀ j, j < N → (numR n (fun t => c.x (clN N t)) N)[j]! = (numR n (fun t => c.x (clN N t)) N).toList[j]! := fun j hj => by
    rw [getElem!_pos _ j (by rw [hs]; exact hj), getElem!_pos _ j (by rw [Array.length_toList, hs]; exact hj)]
    rfl
  refine ⟨_, h3', fun i j hij hj => ?_, eg⟩
  have h9 := numR_sorted n (fun t => c.x (clN N t)) N i j hij hj
  have l1 := numR_lt n (fun t => c.x (clN N t)) N i (by omega)
  have l2 := numR_lt n (fun t => c.x (clN N t)) N j hj
  rw [clN_id l1, clN_id l2, cmpS_n] at h9
  rwa [← eg i (by omega), ← eg j hj]
end Go.Proofs.YtogmbehomilalaaGreatDoor
end

/- The program's Make and the reference's: the same error, the same array. -/
section
namespace Go.Proofs.YtogmbehomilalaaGreatDoor
open Go Go.RowKit Go.Deep

theorem r_MakeA (w : World) (A B C : Option Addr) (n cap m bcap N ccap : Nat) (nm : Nat → ByteArray) (lo hi : Nat → Int) (an : Nat → ByteArray) (ty : Nat → Int) (c : CeD) (hd : DimsAt w A n nm lo hi) (ha : AttrsAt w B m an ty) (hc : CeAt w C N c) (hn : n ≤ 1000) (hm : m ≤ 1000) (hcc : N ≤ ccap) (ho : CeOk N c) (hs : ∀ k, k < n → (nm k).size ≤ 9223372036854775807) (hs2 : ∀ k, k < m → (an k).size ≤ 9223372036854775807) :
    Calls Tryz.prog 8 #[.slice A n cap, .slice B m bcap, .slice C N ccap] w fun e w' => ∃ L : List Nat, (makE nm lo hi n an ty m N c (fun j => L[j]!) = makE nm lo hi n an ty m N c (srtR n N c) ∧ (makE nm lo hi n an ty m N c (srtR n N c) = 0 → ∀ j, j < N → L[j]! = srtR n N c j ∧ L[j]! < N)) ∧ MkR w ⟨n, nm, lo, hi, m, an, ty, N, c.re fun j => L[j]!⟩ (makE nm lo hi n an ty m N c (srtR n N c)) e w' ∧ Below w.heap.size w w' := by
  by_cases h1 : manyE nm lo hi n an ty m N = 0
  · by_cases h2 : fstE (celE lo hi n ty m c) N = 0
    · have hE : ∀ r, makE nm lo hi n an ty m N c r = fstE (adjE n c r) N := fun r => by
        unfold makE
        rw [if_neg (fun h => h h1), if_neg (fun h => h h2)]
      refine (r_Make_rest w A B C n cap m bcap N ccap nm lo hi an ty c hd ha hc hn hm hcc ho hs hs2 h1 (fstE_zero h2)).mono ?_
      rintro e w' ⟨L, ⟨pL, oL⟩, h4, h5⟩
      obtain ⟨Q, pQ, wQ, eQ⟩ := srt_list n N c
      have ht := two_orders pL pQ (ord_weak pL oL) wQ
      have hQ : fstE (adjE n c (srtR n N c)) N = fstE (adjE n c fun j => Q[j]!) N := by
        have hc : ∀ k, k ≤ N → fstE (adjE n c (srtR n N c)) k = fstE (adjE n c fun j => Q[j]!) k := fun k => by
          induction k with
          | zero => exact fun _ => rfl
          | succ k ih =>
            intro hk
            have ea : adjE n c (srtR n N c) k = adjE n c (fun j => Q[j]!) k := by
              unfold adjE
              by_cases h0 : k = 0
              · rw [if_pos h0, if_pos h0]
              · rw [if_neg h0, if_neg h0, eQ (k - 1) (by omega), eQ k (by omega)]
            rw [fstE, fstE, ih (by omega), ea]
        exact hc N (Nat.le_refl _)
      refine ⟨L, ⟨?_, fun h0 j hj => ⟨?_, perm_lt pL hj⟩⟩, ?_, h5⟩
      · rw [hE, hE, ht.1, hQ]
      · rw [hE, hQ] at h0
        rw [ht.2 (ht.1.trans h0) j hj, eQ j hj]
      · rw [hE, hQ, ← ht.1]
        exact h4
    · have hE : ∀ r, makE nm lo hi n an ty m N c r = fstE (celE lo hi n ty m c) N := fun r => by
        unfold makE
        rw [if_neg (fun h => h h1), if_pos h2]
      obtain ⟨K, hK, hb, hz, he⟩ := fstE_first h2
      refine (r_Make_cell w A B C n cap m bcap N ccap K nm lo hi an ty c hd ha hc hn hm hK ho hs hs2 h1 hb hz).mono ?_
      rintro e w' ⟨rfl, h6⟩
      refine ⟨[], ⟨?_, fun h0 => ?_⟩, .inl ⟨?_, ?_⟩, h6⟩
      · rw [hE, hE]
      · rw [hE] at h0; exact absurd h0 h2
      · rw [hE]; exact h2
      · rw [hE, he]; rfl
  · have hE : ∀ r, makE nm lo hi n an ty m N c r = manyE nm lo hi n an ty m N := fun r => by
      unfold makE
      rw [if_pos h1]
    refine (r_Make_many w A B C n cap m bcap N ccap nm lo hi an ty hd ha hs hs2 hn hm h1).mono ?_
    rintro e w' ⟨rfl, h6⟩
    refine ⟨[], ⟨?_, fun h0 => ?_⟩, .inl ⟨?_, ?_⟩, h6⟩
    · rw [hE, hE]
    · rw [hE] at h0; exact absurd h0 h1
    · rw [hE]; exact h1
    · rw [hE]
end Go.Proofs.YtogmbehomilalaaGreatDoor
end

/- Equal to itself. -/
section
namespace Go.Proofs.YtogmbehomilalaaGreatDoor

theorem sameD_refl (n : Nat) (a : Nat → ByteArray) (b c : Nat → Int) : sameD n n a a b b c c = true := by
  unfold sameD
  rw [beq_self_eq_true, Bool.true_and]
  exact allTo_iff.2 fun k _ => by simp [dqQ]
theorem sameA_refl (n : Nat) (a : Nat → ByteArray) (b : Nat → Int) : sameA n n a a b b = true := by
  unfold sameA
  rw [beq_self_eq_true, Bool.true_and]
  exact allTo_iff.2 fun k _ => by simp [aqQ]
theorem sameV_refl' (n : Nat) (vk vn vd : Nat → Int) (vs : Nat → ByteArray) : sameV n n vk vk vn vn vd vd vs vs = true := by
  unfold sameV
  rw [beq_self_eq_true, Bool.true_and]
  exact allTo_iff.2 fun k _ => by simp [vqQ]
theorem sameZ_refl (n : Nat) (x : Nat → Int) : sameZ n n x x = true := by
  unfold sameZ
  rw [beq_self_eq_true, Bool.true_and]
  exact eqTo_iff.2 fun k _ => rfl
theorem sameC_refl (N : Nat) (c : CeD) : sameC N N c c = true := by
  unfold sameC
  rw [beq_self_eq_true, Bool.true_and]
  exact allTo_iff.2 fun k _ => by rw [celQ, sameZ_refl, sameV_refl']; rfl
theorem eqAr_refl (D : ArD) : eqAr D D = true := by rw [eqAr, sameD_refl, sameA_refl, sameC_refl]; rfl
end Go.Proofs.YtogmbehomilalaaGreatDoor
end

/- The cells turned round: the same array. -/
section
namespace Go.Proofs.YtogmbehomilalaaGreatDoor
open Go Go.RowKit Go.Deep

/-- The cells from the last to the first. -/
def CeD.turn (c : CeD) (N : Nat) : CeD := c.re fun k => N - 1 - k
theorem map_get {L : List Nat} {f : Nat → Nat} {k : Nat} (h : k < L.length) : (L.map f)[k]! = f (L[k]!) := by
  rw [getElem!_pos (L.map f) k (by rw [List.length_map]; exact h), getElem!_pos L k h, List.getElem_map]
theorem turn_range (N : Nat) : ((List.range N).map fun t => N - 1 - t).Perm (List.range N) := by
  refine (List.perm_ext_iff_of_nodup ?_ List.nodup_range).2 fun t => ?_
  · refine List.pairwise_iff_getElem.2 fun i j hi hj hij => ?_
    rw [List.length_map, List.length_range] at hi hj
    simp only [List.getElem_map, List.getElem_range]
    omega
  · rw [List.mem_map, List.mem_range]
    constructor
    · rintro ⟨a, ha, e⟩
      have := List.mem_range.1 ha
      omega
    · exact fun h => ⟨N - 1 - t, List.mem_range.2 (by omega), by omega⟩
theorem turn_orders (n N : Nat) (c : CeD) : (fstE (adjE n (c.turn N) (srtR n N (c.turn N))) N = fstE (adjE n c (srtR n N c)) N) ∧ (fstE (adjE n c (srtR n N c)) N = 0 → ∀ j, j < N → N - 1 - srtR n N (c.turn N) j = srtR n N c j) := by
  obtain ⟨Q, pQ, wQ, eQ⟩ := srt_list n N c
  obtain ⟨R, pR, wR, eR⟩ := srt_list n N (c.turn N)
  have hl : R.length = N := by rw [pR.length_eq, List.length_range]
  have pL : (R.map fun t => N - 1 - t).Perm (List.range N) := (pR.map _).trans (turn_range N)
  have wL : Weak n N c.x (R.map fun t => N - 1 - t) := fun i j hij hj => by
    rw [map_get (by omega), map_get (by omega)]
    exact wR i j hij hj
  have ht := two_orders (c := c) pL pQ wL wQ
  have same : ∀ (c1 c2 : CeD) (r1 r2 : Nat → Nat), (∀ j, j < N → c1.x (r1 j) = c2.x (r2 j)) → ∀ k, k ≤ N → fstE (adjE n c1 r1) k = fstE (adjE n c2 r2) k := fun c1 c2 r1 r2 h k => by
    induction k with
    | zero => exact fun _ => rfl
    | succ k ih =>
      intro hk
      have ea : adjE n c1 r1 k = adjE n c2 r2 k := by
        unfold adjE
        by_cases h0 : k = 0
        · rw [if_pos h0, if_pos h0]
        · rw [if_neg h0, if_neg h0, h (k - 1) (by omega), h k (by omega)]
      rw [fstE, fstE, ih (by omega), ea]
  have h1 := same (c.turn N) c (srtR n N (c.turn N)) (fun j => (R.map fun t => N - 1 - t)[j]!) (fun j hj => by
    rw [eR j hj, map_get (by omega)]; rfl) N (Nat.le_refl _)
  have h2 := same c c (srtR n N c) (fun j => Q[j]!) (fun j hj => by rw [eQ j hj]) N (Nat.le_refl _)
  refine ⟨by rw [h1, h2, ht.1], fun h0 j hj => ?_⟩
  rw [h2, ← ht.1] at h0
  have h9 := ht.2 h0 j hj
  rw [map_get (by omega)] at h9
  rw [eR j hj, eQ j hj]
  exact h9
/-- Made of the cells turned round: an error exactly if there is one, and the same cells otherwise. -/
theorem turn_make (nm : Nat → ByteArray) (lo hi : Nat → Int) (n : Nat) (an : Nat → ByteArray) (ty : Nat → Int) (m N : Nat) (c : CeD) :
    (makE nm lo hi n an ty m N (c.turn N) (srtR n N (c.turn N)) = 0 ↔ makE nm lo hi n an ty m N c (srtR n N c) = 0) ∧ (makE nm lo hi n an ty m N c (srtR n N c) = 0 → ∀ j, j < N → N - 1 - srtR n N (c.turn N) j = srtR n N c j) := by
  have hz : fstE (celE lo hi n ty m (c.turn N)) N = 0 ↔ fstE (celE lo hi n ty m c) N = 0 := by
    constructor
    · exact fun h => fstE_all fun k hk => by
        have h9 : celE lo hi n ty m c (N - 1 - (N - 1 - k)) = 0 := fstE_zero h (N - 1 - k) (by omega)
        rwa [show N - 1 - (N - 1 - k) = k by omega] at h9
    · exact fun h => fstE_all fun k hk => (fstE_zero h (N - 1 - k) (by omega) : celE lo hi n ty m c (N - 1 - k) = 0)
  obtain ⟨t1, t2⟩ := turn_orders n N c
  unfold makE
  by_cases h1 : manyE nm lo hi n an ty m N = 0
  · by_cases h2 : fstE (celE lo hi n ty m c) N = 0
    · have h3 := hz.2 h2
      simp only [h1, h2, h3, ne_eq, not_true_eq_false, if_false, t1]
      exact ⟨trivial, t2⟩
    · have h3 : ¬ fstE (celE lo hi n ty m (c.turn N)) N = 0 := fun h => h2 (hz.1 h)
      simp only [h1, h2, h3, ne_eq, not_true_eq_false, not_false_eq_true, if_false, if_true]
      exact ⟨trivial, fun h => h.elim⟩
  · simp only [h1, ne_eq, not_false_eq_true, if_true]
    exact ⟨trivial, fun h => h.elim⟩
/-- Arrays of the same cells are equal. -/
theorem eqAr_re (D : ArD) (c1 c2 : CeD) (h : ∀ k, k < D.N → c1.ln k = c2.ln k ∧ c1.vl k = c2.vl k ∧ c1.x k = c2.x k ∧ c1.vk k = c2.vk k ∧ c1.vn k = c2.vn k ∧ c1.vd k = c2.vd k ∧ c1.vs k = c2.vs k) : eqAr ⟨D.n, D.nm, D.lo, D.hi, D.m, D.an, D.ty, D.N, c1⟩ ⟨D.n, D.nm, D.lo, D.hi, D.m, D.an, D.ty, D.N, c2⟩ = true := by
  unfold eqAr
  have hc : sameC D.N D.N c1 c2 = true := by
    unfold sameC
    rw [beq_self_eq_true, Bool.true_and]
    refine allTo_iff.2 fun k hk => ?_
    obtain ⟨e1, e2, e3, e4, e5, e6, e7⟩ := h k hk
    unfold celQ
    rw [e1, e2, e3, e4, e5, e6, e7, sameZ_refl, sameV_refl']
    rfl
  show (sameD D.n D.n D.nm D.nm D.lo D.lo D.hi D.hi && (sameA D.m D.m D.an D.an D.ty D.ty && sameC D.N D.N c1 c2)) = true
  rw [sameD_refl, sameA_refl, hc]
  rfl
end Go.Proofs.YtogmbehomilalaaGreatDoor
end

/- The reference's copy of a cell, and the types of its blocks. -/
section
namespace Go.Proofs.YtogmbehomilalaaGreatDoor
open Go Go.RowKit Go.Deep Go.Shelf

/-- The slice, where it is not empty, lies at the head of a block of type e, none of which is frozen. -/
def RowN (W : World) (P : Option Addr) (m : Nat) (e : TypeId) : Prop := 0 < m → ∃ b cs, P = some ⟨b, 0, none⟩ ∧ W.heap[b]? = some (.cells cs e (0, 0))
theorem RowN.below {w w' : World} {P : Option Addr} {m : Nat} {e : TypeId} (h : RowN w P m e) (hb : Below w.heap.size w w') : RowN w' P m e := fun hm => by
  obtain ⟨b, cs, h1, h2⟩ := h hm
  exact ⟨b, cs, h1, (hb.block b (Array.getElem?_eq_some_iff.1 h2).1).trans h2⟩
theorem RowN.grown {w w' : World} {P : Option Addr} {m b : Nat} {e : TypeId} (h : RowN w P m e) (hg : w.grownBy w' (some b)) (hA : 0 < m → ∀ a, P = some a → a.block ≠ b) : RowN w' P m e := fun hm => by
  obtain ⟨b', cs, h1, h2⟩ := h hm
  exact ⟨b', cs, h1, (hg.block b' (Array.getElem?_eq_some_iff.1 h2).1 (fun e9 => hA hm _ h1 (by injection e9))).trans h2⟩
def IntsT (W : World) (P : Option Addr) (l : Nat) (x : Nat → Int) : Prop := IntsAt W P l x ∧ RowN W P l 3
def ValsT (W : World) (P : Option Addr) (l : Nat) (vk vn vd : Nat → Int) (vs : Nat → ByteArray) : Prop := ValsAt W P l vk vn vd vs ∧ RowN W P l 40
theorem IntsT.below {w w' : World} {P : Option Addr} {l : Nat} {x : Nat → Int} (h : IntsT w P l x) (hb : Below w.heap.size w w') : IntsT w' P l x := ⟨h.1.below hb, h.2.below hb⟩
theorem ValsT.below {w w' : World} {P : Option Addr} {l : Nat} {vk vn vd : Nat → Int} {vs : Nat → ByteArray} (h : ValsT w P l vk vn vd vs) (hb : Below w.heap.size w w') : ValsT w' P l vk vn vd vs := ⟨h.1.below hb, h.2.below hb⟩
theorem intsT_mono {l : Nat} {x : Nat → Int} {B : Nat} : Mono (fun v W => ∃ P' c', v = .slice P' l c' ∧ IntsT W P' l x ∧ Up B P') := by
  rintro v x y ⟨P, c, h1, h2, h3⟩ hb; exact ⟨P, c, h1, h2.below hb, h3⟩
theorem valsT_mono {l : Nat} {vk vn vd : Nat → Int} {vs : Nat → ByteArray} {B : Nat} : Mono (fun v W => ∃ P' c', v = .slice P' l c' ∧ ValsT W P' l vk vn vd vs ∧ Up B P') := by
  rintro v x y ⟨P, c, h1, h2, h3⟩ hb; exact ⟨P, c, h1, h2.below hb, h3⟩
theorem run_app_newT {P : Program} {w : World} (t ty e : TypeId) (i : TypeInfo) (z : Value) (size bytes : Nat) (ht : P.underlying t = some (.slice e)) (hi : P.info? e = some i) (hz : i.zero = some z)
    (hsize : i.size = size) (hby : i.bytes = bytes) (hzs : z.cells.size = size) (hsz : 0 < size) {b B : Nat} (hb : w.heap[b]? = some (.cells #[] e (0, 0))) (hB : B ≤ b)
    (A : Option Addr) (m c : Nat) (f : Nat → Nat → Value) (hrow : RowAt w A m size f) (h1 : ∀ k r, (f k r).oneCell' = true) (hm : m ≤ 1000000) (hb1 : bytes ≤ 1000) :
    ∃ P' c' w', (Builtin.append_ #[t, t] ty #[.slice (some ⟨b, 0, none⟩) 0 0, .slice A m c]).run P w = .ok (.slice P' m c') w' ∧ Up B P' ∧ RowAt w' P' m size f ∧ Below w.heap.size w w' ∧ RowN w' P' m e := by
  have hlt : b < w.heap.size := (Array.getElem?_eq_some_iff.1 hb).1
  have hby2 : (0 + m) * bytes ≤ 140737488355328 := by
    have : m * bytes ≤ 1000000 * 1000 := Nat.mul_le_mul hm hb1
    rw [Nat.zero_add]
    omega
  have own : w.ownsRow B e size (.slice (some ⟨b, 0, none⟩) 0 0) 0 [] := ⟨by simp, .inr ⟨b, 0, #[], rfl, hB, hb, Nat.le_refl _, by unfold maxLen; omega, by simp, by simp⟩⟩
  have stay : Up B (some (⟨b, 0, none⟩ : Addr)) ∧ RowAt w (some ⟨b, 0, none⟩) 0 size f := ⟨fun a ha => by injection ha with ha; subst ha; exact ⟨hB, rfl, rfl⟩, fun h => absurd h (Nat.lt_irrefl 0)⟩
  cases A with
  | none =>
    have hm0 : m = 0 := by
      rcases Nat.eq_zero_or_pos m with h0 | h0
      · exact h0
      · obtain ⟨b', o, h1, _⟩ := hrow h0
        cases h1
    subst hm0
    exact ⟨_, _, _, run_app_none (P := P) (w := w) B t ty e i size ht hi _ 0 c [] own, stay.1, stay.2, Below.refl _ _, fun h => absurd h (Nat.lt_irrefl 0)⟩
  | some ad =>
    rcases Nat.eq_zero_or_pos m with rfl | hpos
    · have hr := run_append_room_cells (P := P) w t ty e i ht hi b 0 0 0 ad 0 c [] (by simp) (by intro j u h; simp at h) (by intro u h; cases h) (by omega) (by intro j h; exact absurd h (by simp)) (by intro j h; exact absurd h (by simp))
      exact ⟨_, _, _, hr, stay.1, stay.2, Below.refl _ _, fun h => absurd h (Nat.lt_irrefl 0)⟩
    · have hnews := hrow.news hsz
      obtain ⟨v', w', hr, h2, h3, h4⟩ := run_append_own (P := P) w B t ty e i z size bytes ht hi hz hsize hby hzs hsz _ 0 [] own ad m c (rowL f size m) (rowL_len _ _ _) hnews (rowL_one h1) (by unfold maxLen; omega) hby2 (by omega)
      subst hsize hby
      have hr2 := run_append_grow (P := P) w t ty e i z ht hi hz ⟨b, 0, none⟩ 0 0 [] (by simp) (by intro j u h; simp at h) ad m c (rowL f i.size m) (rowL_len _ _ _) hnews (by omega) (by omega) (growslice_fits (by omega) hby2)
      rw [hr] at hr2
      injection hr2 with e1 e2
      have hown2 : w'.ownsRow B e i.size v' m (rowL f i.size m) := by simpa using h2
      obtain ⟨P', c', rfl, u1, u2⟩ := RowAt.own hown2
      have hN : RowN w' P' m e := fun _ => by
        rcases hown2.2 with ⟨e9, e8⟩ | ⟨g, cap, cur, e9, _, hh, _⟩
        · omega
        · injection e9 with e9
          exact ⟨g, cur, e9, hh⟩
      refine ⟨P', c', w', hr, u1, u2, ?_, hN⟩
      rw [e2]
      exact (Below.drew (Below.refl _ _)).alloc (by simp) _
section
variable {ops : Array Oper} {Q : Exit → Act → World → Prop} {K : Act → World → Prop} {a : Act} {w : World}
theorem op_apnT {o : Oper} {d s x : Nat} {t e : TypeId} (ho : o.op = .call { callee := .builtin .append, args := #[.tmp s, .tmp x], argTypes := #[t, t] }) (hd : o.dst = some d)
    (i : TypeInfo) (z : Value) (size bytes : Nat) (ht : Tryz.prog.underlying t = some (.slice e)) (hi : Tryz.prog.info? e = some i) (hz : i.zero = some z)
    (hsize : i.size = size) (hby : i.bytes = bytes) (hzs : z.cells.size = size) (hsz : 0 < size) {b B : Nat} (hb : w.heap[b]? = some (.cells #[] e (0, 0))) (hB : B ≤ b)
    (hs : slot a s = .slice (some ⟨b, 0, none⟩) 0 0) {A : Option Addr} {m c : Nat} {f : Nat → Nat → Value} (hx : slot a x = .slice A m c) (hrow : RowAt w A m size f) (h1 : ∀ k r, (f k r).oneCell' = true) (hm : m ≤ 1000000) (hb1 : bytes ≤ 1000)
    (h : ∀ P' c' w', Up B P' → RowAt w' P' m size f → Below w.heap.size w w' → RowN w' P' m e → K (putSlot a d (.slice P' m c')) w') : o.wp Tryz.prog a w K Q := by
  obtain ⟨P', c', w', hr, u1, u2, u3, u4⟩ := run_app_newT (P := Tryz.prog) (w := w) t o.type e i z size bytes ht hi hz hsize hby hzs hsz hb hB A m c f hrow h1 hm hb1
  refine Lib.wp_append_run w (.tmp s) (.tmp x) t t ho _ _ (by rw [← hs]; simp [Act.eval, slot]) (by rw [← hx]; simp [Act.eval, slot]) _ w' hr ?_
  rw [hd]
  exact h P' c' w' u1 u2 u3 u4
set_option maxRecDepth 100000 in
end
set_option maxRecDepth 100000 in
set_option maxHeartbeats 4000000 in
theorem r_CopyCellT (w : World) (P Q : Option Addr) (l pc v qc : Nat) (x vk vn vd : Nat → Int) (vs : Nat → ByteArray) (hp : IntsAt w P l x) (hq : ValsAt w Q v vk vn vd vs) (hl : l ≤ 1000000) (hv : v ≤ 1000000) :
    Calls Tryz.prog 34 #[.agg #[.slice P l pc, .slice Q v qc]] w fun e w' => ∃ P' c' Q' d', e = .returned (.agg #[.slice P' l c', .slice Q' v d']) ∧ IntsT w' P' l x ∧ ValsT w' Q' v vk vn vd vs ∧ Up w.heap.size P' ∧ Up w.heap.size Q' ∧ Below w.heap.size w w' := by
  have HP := Lib.hid hp.row
  have HQ := Lib.hid hq.row
  have HB : Hid (Below w.heap.size w (w.alloc (.cells #[.slice P l pc, .slice Q v qc] 38))) := (Below.refl _ _).alloc (Nat.le_refl _) _
  have KC := Lib.hid (cel_box w (.slice P l pc) (.slice Q v qc) 38)
  obtain ⟨i0, hI0, hiz0, hiz1, hiz2⟩ := info_parts info_int
  obtain ⟨i9, hI9, hzz0, hz1, hz2⟩ := info_parts info_val
  clear hp hq
  go_enter Tryz.func34, Tryz.ntmps34
  go_wp2_with fail
  rename_i K hK
  have hz0 : ((w.alloc (.cells #[.slice P l pc, .slice Q v qc] 38)).alloc (.cells #[.slice none 0 0, .slice none 0 0] 38)).heap.size = w.heap.size + 2 := by simp
  have HB0 : Hid (Below (w.alloc (.cells #[.slice P l pc, .slice Q v qc] 38)).heap.size (w.alloc (.cells #[.slice P l pc, .slice Q v qc] 38)) ((w.alloc (.cells #[.slice P l pc, .slice Q v qc] 38)).alloc (.cells #[.slice none 0 0, .slice none 0 0] 38))) := bel_nw _ _
  have HRes : Hid (((w.alloc (.cells #[.slice P l pc, .slice Q v qc] 38)).alloc (.cells #[.slice none 0 0, .slice none 0 0] 38)).heap[w.heap.size + 1]? = some (.cells #[.slice none 0 0, .slice none 0 0] 38 (0, 0))) := by
    have := heap_alloc_new (w.alloc (.cells #[.slice P l pc, .slice Q v qc] 38)) (.cells #[.slice none 0 0, .slice none 0 0] 38)
    rw [World.size_alloc] at this
    exact this
  generalize w.alloc (.cells #[.slice P l pc, .slice Q v qc] 38) = Wa at *
  generalize Wa.alloc (.cells #[.slice none 0 0, .slice none 0 0] 38) = W0 at *
  refine wp_region_TL (n1 := 9) (T := TL [NewR (w.heap.size + 2) 3, isW (.pointer (some ⟨w.heap.size, 0, none⟩)), isW (.slice P l pc), fun v' W => ∃ P' c', v' = .slice P' l c' ∧ IntsT W P' l x ∧ Up (w.heap.size + 2) P', NewR (w.heap.size + 2) 40, isW (.pointer (some ⟨w.heap.size, 1, none⟩)), isW (.slice Q v qc), fun v' W => ∃ P' c', v' = .slice P' v c' ∧ ValsT W P' v vk vn vd vs ∧ Up (w.heap.size + 2) P',
    fun u W => ∃ P' c' Q' d', u = .agg #[.slice P' l c', .slice Q' v d'] ∧ (IntsT W P' l x ∧ Up (w.heap.size + 2) P') ∧ ValsT W Q' v vk vn vd vs ∧ Up (w.heap.size + 2) Q']) (by kernel_rfl) rfl rfl rfl (by kernel_rfl) ?step ?tail
  case step =>
    intro listed a W i H hi9 hilt
    have dl := H.dl (l := [some 3, some 4, some 5, some 6, some 7, some 8, some 9, some 10, some 11, none]) rfl
    have ap := apart_of dl (by decide)
    have HBW : Hid (Below Wa.heap.size Wa W) := st HB0.out H.below
    have hBW1 : w.heap.size + 2 ≤ W.heap.size := by rw [← hz0]; exact H.below.size
    obtain ⟨m0, m1⟩ := KC.out W HBW.out
    have mono : ∀ p ∈ [NewR (w.heap.size + 2) 3, isW (.pointer (some ⟨w.heap.size, 0, none⟩)), isW (.slice P l pc), fun v' W => ∃ P' c', v' = .slice P' l c' ∧ IntsT W P' l x ∧ Up (w.heap.size + 2) P', NewR (w.heap.size + 2) 40, isW (.pointer (some ⟨w.heap.size, 1, none⟩)), isW (.slice Q v qc), fun v' W => ∃ P' c', v' = .slice P' v c' ∧ ValsT W P' v vk vn vd vs ∧ Up (w.heap.size + 2) P',
      fun u W => ∃ P' c' Q' d', u = .agg #[.slice P' l c', .slice Q' v d'] ∧ (IntsT W P' l x ∧ Up (w.heap.size + 2) P') ∧ ValsT W Q' v vk vn vd vs ∧ Up (w.heap.size + 2) Q'], Mono p := by
      intro p hp
      simp only [List.mem_cons, List.not_mem_nil, or_false] at hp
      rcases hp with rfl | rfl | rfl | rfl | rfl | rfl | rfl | rfl | rfl
      · exact newR_mono
      · exact isW_mono _
      · exact isW_mono _
      · exact intsT_mono
      · exact newR_mono
      · exact isW_mono _
      · exact isW_mono _
      · exact valsT_mono
      · rintro v' x y ⟨P', c', Q', d', h1, h2, h3, h4⟩ hb; exact ⟨P', c', Q', d', h1, ⟨h2.1.below hb, h2.2⟩, h3.below hb, h4⟩
    rcases (by omega : i = 0 ∨ i = 1 ∨ i = 2 ∨ i = 3 ∨ i = 4 ∨ i = 5 ∨ i = 6 ∨ i = 7 ∨ i = 8) with rfl | rfl | rfl | rfl | rfl | rfl | rfl | rfl | rfl
    · exact wpOp_of rfl (.inl rfl) (op_bs0 (.inl ⟨rfl, rfl⟩) rfl rfl (H.over mono ap rfl rfl (by simp) (bel_nw W _) ⟨_, rfl, hBW1, heap_alloc_new W _⟩))
    · exact wpOp_of rfl (.inl rfl) (op_fac (by decide) rfl rfl (H.old 1 (old_of' dl 1 (by decide))) (H.over mono ap rfl rfl (by simp) (Below.refl _ _) rfl))
    · exact wpOp_of rfl (.inl rfl) (op_lsl (.inl rfl) rfl rfl (H.got' hi9 (j := 1) (t := 4) rfl (by kernel_rfl) rfl rfl) m0 (H.over mono ap rfl rfl (by simp) (Below.refl _ _) rfl))
    · obtain ⟨b, e1, e2, e3⟩ := H.got' hi9 (j := 0) (t := 3) rfl (by kernel_rfl) rfl rfl
      refine wpOp_of rfl (.inl rfl) (op_apnT rfl rfl i0 (.int .i64 0) 1 8 Tryz.underlying35 hI0 hiz0 hiz1 hiz2 rfl (by decide) e3 e2 e1 (H.got' hi9 (j := 2) (t := 5) rfl (by kernel_rfl) rfl rfl) (HP.out.below (st HB.out HBW.out)) (intF_one x) hl (by decide) ?_)
      intro P' c' w' u1 u2 u3 u4
      exact H.over mono ap rfl rfl (by simp) u3 ⟨P', c', rfl, ⟨u2.ints, u4⟩, u1⟩
    · exact wpOp_of rfl (.inl rfl) (op_bs0 (.inr (.inl ⟨rfl, rfl⟩)) rfl rfl (H.over mono ap rfl rfl (by simp) (bel_nw W _) ⟨_, rfl, hBW1, heap_alloc_new W _⟩))
    · exact wpOp_of rfl (.inl rfl) (op_fac (by decide) rfl rfl (H.old 1 (old_of' dl 1 (by decide))) (H.over mono ap rfl rfl (by simp) (Below.refl _ _) rfl))
    · exact wpOp_of rfl (.inl rfl) (op_lsl (.inr (.inl rfl)) rfl rfl (H.got' hi9 (j := 5) (t := 8) rfl (by kernel_rfl) rfl rfl) m1 (H.over mono ap rfl rfl (by simp) (Below.refl _ _) rfl))
    · obtain ⟨b, e1, e2, e3⟩ := H.got' hi9 (j := 4) (t := 7) rfl (by kernel_rfl) rfl rfl
      refine wpOp_of rfl (.inl rfl) (op_apnT rfl rfl i9 _ 4 40 Tryz.underlying36 hI9 hzz0 hz1 hz2 rfl (by decide) e3 e2 e1 (H.got' hi9 (j := 6) (t := 9) rfl (by kernel_rfl) rfl rfl) (HQ.out.below (st HB.out HBW.out)) (valF4_one _ _ _ _) hv (by decide) ?_)
      intro P' c' w' u1 u2 u3 u4
      exact H.over mono ap rfl rfl (by simp) u3 ⟨P', c', rfl, ⟨u2.vals, u4⟩, u1⟩
    · obtain ⟨P', c', e1, d1, d2⟩ := H.got' hi9 (j := 3) (t := 6) rfl (by kernel_rfl) rfl rfl
      obtain ⟨Q', d', e2, d3, d4⟩ := H.got' hi9 (j := 7) (t := 10) rfl (by kernel_rfl) rfl rfl
      exact wpOp_of rfl (.inl rfl) (op_bdc rfl rfl e1 e2 (H.over mono ap rfl rfl (by simp) (Below.refl _ _) ⟨P', c', Q', d', rfl, ⟨d1, d2⟩, d3, d4⟩))
  case tail =>
    intro listed a W H hall
    obtain ⟨P', c', Q', d', e1, ⟨d1, d2⟩, d3, d4⟩ := H.got 8 _ 11 rfl rfl (hall 8 (by decide))
    have dl := H.dl (l := [some 3, some 4, some 5, some 6, some 7, some 8, some 9, some 10, some 11, none]) rfl
    have s2 := H.old 2 (old_of' dl 2 (by decide))
    have hres := (H.below.block _ (by rw [hz0]; omega)).trans HRes.out
    refine op_stc rfl rfl s2 e1 hres ?_
    have hdf : a.defers = [] := H.defers.trans rfl
    have HBW : Below Wa.heap.size Wa W := st HB0.out H.below
    refine hK _ _ ?_
    go_wp2
    refine bodyPost_ret (v := .agg #[.slice P' l c', .slice Q' v d']) (res_cell Tryz.results34 _ _ (w.heap.size + 1) 38 _ (0, 0) _ (by rw [Array.getD_eq_getD_getElem?]; exact s2) (two_sets hres _ _) Tryz.underlying38 rfl (by rw [info_cel']; rfl)) hdf ?_
    have gr : W.grownBy ((W.setCell ⟨w.heap.size + 1, 0, none⟩ (.slice P' l c')).setCell ⟨w.heap.size + 1, 1, none⟩ (.slice Q' v d')) (some (w.heap.size + 1)) := gr2 (grown_set _ _ _ _) (grown_set _ _ _ _)
    refine ⟨P', c', Q', ⟨d', rfl⟩, ⟨(d1.1.row.grown gr (d2.ne (by omega))).ints, d1.2.grown gr (d2.ne (by omega))⟩, ⟨(d3.1.row.grown gr (d4.ne (by omega))).vals, d3.2.grown gr (d4.ne (by omega))⟩, d2.mono (by omega), d4.mono (by omega), ?_⟩
    exact ((st HB.out HBW).setCell (p := ⟨w.heap.size + 1, 0, none⟩) (by show w.heap.size ≤ w.heap.size + 1; omega) _).setCell (p := ⟨w.heap.size + 1, 1, none⟩) (by show w.heap.size ≤ w.heap.size + 1; omega) _
end Go.Proofs.YtogmbehomilalaaGreatDoor
end

/- A list of cells that grows, and the types of its blocks. -/
section
namespace Go.Proofs.YtogmbehomilalaaGreatDoor
open Go Go.RowKit Go.Deep

theorem RowN.grownO {w w' : World} {P : Option Addr} {m : Nat} {e : TypeId} {row : Option Nat} (h : RowN w P m e) (hg : w.grownBy w' row) (hA : 0 < m → ∀ a, P = some a → row ≠ some a.block) : RowN w' P m e := fun hm => by
  obtain ⟨b', cs, h1, h2⟩ := h hm
  exact ⟨b', cs, h1, (hg.block b' (Array.getElem?_eq_some_iff.1 h2).1 (fun e9 => hA hm _ h1 e9.symm)).trans h2⟩
theorem IntsT.grownO {w w' : World} {P : Option Addr} {l : Nat} {x : Nat → Int} {row : Option Nat} (h : IntsT w P l x) (hg : w.grownBy w' row) (hA : 0 < l → ∀ a, P = some a → row ≠ some a.block) : IntsT w' P l x := ⟨(h.1.row.grownO hg hA).ints, h.2.grownO hg hA⟩
theorem ValsT.grownO {w w' : World} {P : Option Addr} {l : Nat} {vk vn vd : Nat → Int} {vs : Nat → ByteArray} {row : Option Nat} (h : ValsT w P l vk vn vd vs) (hg : w.grownBy w' row) (hA : 0 < l → ∀ a, P = some a → row ≠ some a.block) : ValsT w' P l vk vn vd vs := ⟨(h.1.row.grownO hg hA).vals, h.2.grownO hg hA⟩
theorem IntsT.grown {w w' : World} {P : Option Addr} {l b : Nat} {x : Nat → Int} (h : IntsT w P l x) (hg : w.grownBy w' (some b)) (hA : 0 < l → ∀ a, P = some a → a.block ≠ b) : IntsT w' P l x := ⟨(h.1.row.grown hg hA).ints, h.2.grown hg hA⟩
theorem ValsT.grown {w w' : World} {P : Option Addr} {l b : Nat} {vk vn vd : Nat → Int} {vs : Nat → ByteArray} (h : ValsT w P l vk vn vd vs) (hg : w.grownBy w' (some b)) (hA : 0 < l → ∀ a, P = some a → a.block ≠ b) : ValsT w' P l vk vn vd vs := ⟨(h.1.row.grown hg hA).vals, h.2.grown hg hA⟩
/-- Cells in blocks from B on, and the types of these. -/
def CeUpT (w : World) (B : Nat) (C : Option Addr) (N : Nat) (c : CeD) : Prop :=
  0 < N → ∃ b cs, C = some ⟨b, 0, none⟩ ∧ B ≤ b ∧ w.heap[b]? = some (.cells cs 38 (0, 0)) ∧ ∀ k, k < N → ∃ P pc Q qc, w.cell? ⟨b, k * 2, none⟩ = some (.slice P (c.ln k) pc) ∧ w.cell? ⟨b, k * 2 + 1, none⟩ = some (.slice Q (c.vl k) qc) ∧ IntsT w P (c.ln k) (c.x k) ∧ ValsT w Q (c.vl k) (c.vk k) (c.vn k) (c.vd k) (c.vs k) ∧ c.ln k ≤ 1000 ∧ Up B P ∧ Up B Q
/-- The slice v is the walk's own, from block B on, and holds n cells; their lists lie elsewhere. -/
def OwnCT (S : Option Addr → Prop) (w : World) (B : Nat) (v : Value) (n : Nat) (c : CeD) : Prop :=
  ∃ xs, w.ownsRow B 38 2 v n xs ∧ ∀ k, k < n → ∃ P pc Q qc, xs[k * 2]? = some (.slice P (c.ln k) pc) ∧ xs[k * 2 + 1]? = some (.slice Q (c.vl k) qc) ∧ IntsT w P (c.ln k) (c.x k) ∧ ValsT w Q (c.vl k) (c.vk k) (c.vn k) (c.vd k) (c.vs k) ∧ (S P ∧ S Q) ∧
    (0 < c.ln k → ∀ a, P = some a → v.ownBlock ≠ some a.block) ∧ (0 < c.vl k → ∀ a, Q = some a → v.ownBlock ≠ some a.block)
theorem OwnCT.nil (S : Option Addr → Prop) (w : World) (B : Nat) (c : CeD) : OwnCT S w B (.slice none 0 0) 0 c := ⟨[], ⟨rfl, .inl ⟨rfl, rfl⟩⟩, fun k hk => absurd hk (by omega)⟩
theorem OwnCT.below {S : Option Addr → Prop} {w w' : World} {B n : Nat} {v : Value} {c : CeD} (h : OwnCT S w B v n c) (hb : Below w.heap.size w w') : OwnCT S w' B v n c := by
  obtain ⟨xs, h1, h2⟩ := h
  refine ⟨xs, h1.kept (Below.by_ hb) ?_, fun k hk => ?_⟩
  · cases e : v.ownBlock with
    | none => exact .inl rfl
    | some g => exact .inr (by simp)
  · obtain ⟨P, pc, Q, qc, a1, a2, a3, a4, a5⟩ := h2 k hk
    exact ⟨P, pc, Q, qc, a1, a2, a3.below hb, a4.below hb, a5⟩
theorem OwnCT.set {S : Option Addr → Prop} {w w' : World} {B n b : Nat} {v : Value} {c : CeD} (h : OwnCT S w B v n c) (hg : w.grownBy w' (some b)) (hB : b < B) (hS : ∀ P, S P → ∀ a, P = some a → a.block ≠ b) : OwnCT S w' B v n c := by
  obtain ⟨xs, h1, h2⟩ := h
  refine ⟨xs, h1.kept hg ?_, fun k hk => ?_⟩
  · cases e : v.ownBlock with
    | none => exact .inl rfl
    | some g =>
      obtain ⟨hg1, _⟩ := own_lt h1 g e
      refine .inr fun e2 => ?_
      injection e2 with e2
      omega
  · obtain ⟨P, pc, Q, qc, a1, a2, a3, a4, a5⟩ := h2 k hk
    exact ⟨P, pc, Q, qc, a1, a2, (a3.grown hg (fun _ => hS P a5.1.1)), (a4.grown hg (fun _ => hS Q a5.1.2)), a5⟩
theorem OwnCT.block {S : Option Addr → Prop} {w : World} {B n : Nat} {v : Value} {c : CeD} (h : OwnCT S w B v n c) {g : Nat} (hg : v.ownBlock = some g) : B ≤ g ∧ g < w.heap.size := by
  obtain ⟨xs, h1, _⟩ := h
  obtain ⟨a, cs, b⟩ := own_lt h1 g hg
  exact ⟨a, (Array.getElem?_eq_some_iff.1 b).1⟩
theorem OwnCT.row {S : Option Addr → Prop} {w : World} {B n : Nat} {v : Value} {c : CeD} (h : OwnCT S w B v n c) : ∃ A cap, v = .slice A n cap ∧ (0 < n → ∃ b, A = some ⟨b, 0, none⟩ ∧ B ≤ b ∧ b < w.heap.size ∧ ∀ k, k < n → ∃ P pc Q qc, w.cell? ⟨b, k * 2, none⟩ = some (.slice P (c.ln k) pc) ∧ w.cell? ⟨b, k * 2 + 1, none⟩ = some (.slice Q (c.vl k) qc) ∧ IntsT w P (c.ln k) (c.x k) ∧ ValsT w Q (c.vl k) (c.vk k) (c.vn k) (c.vd k) (c.vs k) ∧ (S P ∧ S Q)) := by
  obtain ⟨xs, ⟨hl, h1⟩, h2⟩ := h
  rcases h1 with ⟨rfl, rfl⟩ | ⟨g, cap, cur, rfl, hBg, hh, hcap, _, hs, ht⟩
  · exact ⟨none, 0, rfl, fun h => absurd h (by omega)⟩
  · refine ⟨_, _, rfl, fun hn => ⟨g, rfl, hBg, (Array.getElem?_eq_some_iff.1 hh).1, fun k hk => ?_⟩⟩
    obtain ⟨P, pc, Q, qc, a1, a2, a3, a4, a5, _⟩ := h2 k hk
    have get : ∀ j u, j < n * 2 → xs[j]? = some u → w.cell? ⟨g, j, none⟩ = some u := fun j u hj hu => by
      have h3 : cur.toList[j]? = some u := by
        rw [← List.getElem?_take_of_lt hj, ht]
        exact hu
      rw [Array.getElem?_toList] at h3
      simp [World.cell?, hh, h3]
    exact ⟨P, pc, Q, qc, get _ _ (by omega) a1, get _ _ (by omega) a2, a3, a4, a5⟩
theorem wpList_appCT {ops : Array Oper} {rest : List Oper} {o : Oper} {a : Act} {Q' : Exit → Act → World → Prop} (hgd : o.guard = none) (s x : Operand)
    (ho : o.op = .call { callee := .builtin .append, args := #[s, x], argTypes := #[24, 24] })
    (W : World) (S : Option Addr → Prop) (B : Nat) (v : Value) (n : Nat) (c : CeD) (hs : a.eval s = v) (b : Nat) (hx : a.eval x = .slice (some ⟨b, 0, none⟩) 1 1)
    (P Q : Option Addr) (pc qc : Nat) (hb : W.heap[b]? = some (.cells #[.slice P (c.ln n) pc, .slice Q (c.vl n) qc] 38 (0, 0)))
    (hi : IntsT W P (c.ln n) (c.x n)) (hv : ValsT W Q (c.vl n) (c.vk n) (c.vn n) (c.vd n) (c.vs n)) (hS : S P ∧ S Q)
    (hne : (0 < c.ln n → ∀ a, P = some a → v.ownBlock ≠ some a.block) ∧ (0 < c.vl n → ∀ a, Q = some a → v.ownBlock ≠ some a.block))
    (hown : OwnCT S W B v n c) (hn : n ≤ 1000000) (hB : B ≤ W.heap.size)
    (h : ∀ v' w', OwnCT S w' B v' (n + 1) c → W.grownBy w' v.ownBlock → (v'.ownBlock = v.ownBlock ∨ ∃ g, v'.ownBlock = some g ∧ W.heap.size ≤ g) → wpList Tryz.prog ops Q' rest (a.put o.dst v') w') : wpList Tryz.prog ops Q' (o :: rest) a W := by
  obtain ⟨xs, h1, h2⟩ := hown
  obtain ⟨i0, hi0, hz0, hz1, hz2⟩ := info_parts info_cel2
  have hlb : b < W.heap.size := (Array.getElem?_eq_some_iff.1 hb).1
  have hnew : ∀ j u, [Value.slice P (c.ln n) pc, Value.slice Q (c.vl n) qc][j]? = some u → W.cell? ((⟨b, 0, none⟩ : Addr).add j) = some u := by
    intro j u hu
    rcases j with _ | _ | j
    · have hu' : u = .slice P (c.ln n) pc := by simpa using hu.symm
      subst hu'
      simp [World.cell?, hb, Addr.add]
    · have hu' : u = .slice Q (c.vl n) qc := by simpa using hu.symm
      subst hu'
      simp [World.cell?, hb, Addr.add]
    · simp at hu
  refine wpList_append_own_at _ hgd s x 24 ho B 38 i0 (.agg #[.slice none 0 0, .slice none 0 0]) 2 48 Tryz.underlying24 hi0 hz0 hz1 hz2 rfl (by decide) v n xs hs h1 ⟨b, 0, none⟩ 1 1 [.slice P (c.ln n) pc, .slice Q (c.vl n) qc] hx rfl hnew
    (fun u hu => by
      simp only [List.mem_cons, List.not_mem_nil, or_false] at hu
      rcases hu with rfl | rfl <;> rfl) (by unfold maxLen; omega) (by omega) hB ?_
  intro v' w' g1 g2 _ g4
  have hl : xs.length = n * 2 := h1.1
  have apart : ∀ (A : Option Addr) (z m : Nat) (f : Nat → Nat → Value), RowAt W A m z f → (0 < m → ∀ a, A = some a → v.ownBlock ≠ some a.block) → 0 < m → ∀ a, A = some a → v'.ownBlock ≠ some a.block := by
    intro A z m f hr hp hm ad had
    rcases g4 with e | h9
    · rw [e]; exact hp hm ad had
    · have h8 := hr.lt hm had
      intro e
      rw [e] at h9
      injection h9 with h9
      omega
  refine h v' w' ⟨xs ++ [.slice P (c.ln n) pc, .slice Q (c.vl n) qc], g1, fun k hk => ?_⟩ g2 (g4.imp id fun h9 => ⟨_, h9, Nat.le_refl _⟩)
  by_cases e : k = n
  · subst e
    refine ⟨P, pc, Q, qc, ?_, ?_, (hi.grownO g2 hne.1), (hv.grownO g2 hne.2), hS, apart _ _ _ _ hi.1.row hne.1, apart _ _ _ _ hv.1.row hne.2⟩
    · rw [List.getElem?_append_right (by omega), hl, Nat.sub_self]; rfl
    · rw [List.getElem?_append_right (by omega), hl, show k * 2 + 1 - k * 2 = 1 by omega]; rfl
  · obtain ⟨P', pc', Q', qc', a1, a2, a3, a4, a5, a6, a7⟩ := h2 k (by omega)
    refine ⟨P', pc', Q', qc', ?_, ?_, (a3.grownO g2 a6), (a4.grownO g2 a7), a5, apart _ _ _ _ a3.1.row a6, apart _ _ _ _ a4.1.row a7⟩
    · rw [List.getElem?_append_left (by omega)]; exact a1
    · rw [List.getElem?_append_left (by omega)]; exact a2
theorem OwnCT.up {w : World} {B B' n : Nat} {v : Value} {c : CeD} (h : OwnCT (Up B') w B v n c) (hB : B' ≤ B) (ho : CeOk n c) : ∃ A cap, v = .slice A n cap ∧ CeUpT w B' A n c := by
  obtain ⟨A, cap, h1, h2⟩ := h.row
  refine ⟨A, cap, h1, fun hn => ?_⟩
  obtain ⟨b, h3, h4, h5, h6⟩ := h2 hn
  obtain ⟨xs, ⟨_, h7⟩, _⟩ := h
  have hc : ∃ cs, w.heap[b]? = some (.cells cs 38 (0, 0)) := by
    rcases h7 with ⟨e, _⟩ | ⟨g, c9, cur, e, _, hh, _⟩
    · rw [h1, h3] at e
      injection e with e
      cases e
    · rw [h1, h3] at e
      injection e with e
      injection e with e
      injection e with e
      subst e
      exact ⟨cur, hh⟩
  obtain ⟨cs, hcs⟩ := hc
  refine ⟨b, cs, h3, by omega, hcs, fun k hk => ?_⟩
  obtain ⟨P, pc, Q, qc, a1, a2, a3, a4, a5⟩ := h6 k hk
  exact ⟨P, pc, Q, qc, a1, a2, a3, a4, (ho k hk).1, a5⟩
theorem CeUpT.up {w : World} {B : Nat} {C : Option Addr} {N : Nat} {c : CeD} (h : CeUpT w B C N c) : CeUp w B C N c := fun hn => by
  obtain ⟨b, cs, h1, h2, h3, h4⟩ := h hn
  refine ⟨b, 0, h1, h2, (Array.getElem?_eq_some_iff.1 h3).1, fun k hk => ?_⟩
  obtain ⟨P, pc, Q, qc, a1, a2, a3, a4, a5⟩ := h4 k hk
  exact ⟨P, pc, Q, qc, by rw [Nat.zero_add]; exact a1, by rw [Nat.zero_add]; exact a2, a3.1, a4.1, a5⟩
theorem CeUpT.grown {w w' : World} {B b : Nat} {C : Option Addr} {N : Nat} {c : CeD} (h : CeUpT w B C N c) (hg : w.grownBy w' (some b)) (hb : b < B) : CeUpT w' B C N c := fun hn => by
  obtain ⟨b', cs, h1, h2, h3, h4⟩ := h hn
  have hk9 : w'.heap[b']? = w.heap[b']? := hg.block b' (Array.getElem?_eq_some_iff.1 h3).1 (fun e => by injection e with e; omega)
  refine ⟨b', cs, h1, h2, hk9.trans h3, fun k hk => ?_⟩
  obtain ⟨P, pc, Q, qc, a1, a2, a3, a4, a5, a6, a7⟩ := h4 k hk
  exact ⟨P, pc, Q, qc, (cell_blk hk9).trans a1, (cell_blk hk9).trans a2, a3.grown hg (a6.ne hb), a4.grown hg (a7.ne hb), a5, a6, a7⟩
end Go.Proofs.YtogmbehomilalaaGreatDoor
end

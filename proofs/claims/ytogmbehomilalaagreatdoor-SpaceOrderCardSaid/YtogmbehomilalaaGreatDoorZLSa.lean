/- Slices of structs copied: their cells in a row. -/
import Derived.Test.YtogmbehomilalaaGreatDoorZSmA
import Derived.Maps.AppendAt
import Derived.Test.YtogmbehomilalaaGreatDoorShelf
import Derived.Deep.OwnRows
import Derived.Test.YtogmbehomilalaaGreatDoorZInvReg
import Derived.Test.YtogmbehomilalaaGreatDoorZSplit
import Derived.Test.YtogmbehomilalaaGreatDoorZSpH
import Derived.Test.YtogmbehomilalaaGreatDoorZWka
import Derived.Test.YtogmbehomilalaaGreatDoorZSch
import Derived.Test.YtogmbehomilalaaGreatDoorZOpB
import Derived.Test.YtogmbehomilalaaGreatDoorZPrt2

/- Slices of structs copied: their cells in a row. -/
section
namespace Go.Proofs.YtogmbehomilalaaGreatDoor
open Go Go.RowKit Go.Deep

/-- The cells of n structs of z cells each. -/
def rowL (f : Nat → Nat → Value) (z n : Nat) : List Value := (List.range (n * z)).map fun i => f (i / z) (i % z)
theorem rowL_len (f : Nat → Nat → Value) (z n : Nat) : (rowL f z n).length = n * z := by simp [rowL]
theorem rowL_get {f : Nat → Nat → Value} {z n j : Nat} {u : Value} (h : (rowL f z n)[j]? = some u) : j < n * z ∧ u = f (j / z) (j % z) := by
  obtain ⟨h1, h2⟩ := List.getElem?_eq_some_iff.1 h
  rw [rowL_len] at h1
  refine ⟨h1, ?_⟩
  rw [← h2]
  simp [rowL]
theorem rowL_one {f : Nat → Nat → Value} {z n : Nat} (hf : ∀ k r, (f k r).oneCell' = true) : ∀ u ∈ rowL f z n, u.oneCell' = true := by
  intro u hu
  obtain ⟨i, _, rfl⟩ := List.mem_map.1 hu
  exact hf _ _
/-- A slice that begins at the head of a block from B on. -/
def Up (B : Nat) (A : Option Addr) : Prop := ∀ a, A = some a → B ≤ a.block ∧ a.off = 0 ∧ a.spot = none
theorem Up.none (B : Nat) : Up B none := fun a h => by cases h
theorem Up.mono {B B' : Nat} {A : Option Addr} (h : Up B A) (hb : B' ≤ B) : Up B' A := fun a ha => ⟨Nat.le_trans hb (h a ha).1, (h a ha).2⟩
theorem row_own {w : World} {B e z n : Nat} {v : Value} {f : Nat → Nat → Value} (h : w.ownsRow B e z v n (rowL f z n)) :
    ∃ A cap, v = .slice A n cap ∧ Up B A ∧ (0 < n → ∃ b, A = some ⟨b, 0, none⟩ ∧ b < w.heap.size ∧ ∀ k r, k < n → r < z → w.cell? ⟨b, k * z + r, none⟩ = some (f k r)) := by
  rcases h.2 with ⟨rfl, rfl⟩ | ⟨g, cap, cur, rfl, hg, hh, hcap, _, hs, ht⟩
  · exact ⟨none, 0, rfl, Up.none _, fun h => absurd h (by omega)⟩
  · refine ⟨_, _, rfl, fun a ha => by injection ha with ha; subst ha; exact ⟨hg, rfl, rfl⟩, fun _ => ⟨g, rfl, (Array.getElem?_eq_some_iff.1 hh).1, fun k r hk hr => ?_⟩⟩
    have hj : k * z + r < n * z := by
      have : (k + 1) * z ≤ n * z := Nat.mul_le_mul_right _ hk
      rw [Nat.add_mul, Nat.one_mul] at this
      omega
    have h2 : cur.toList[k * z + r]? = some (f k r) := by
      rw [← List.getElem?_take_of_lt hj, ht]
      simp only [rowL, List.getElem?_map]
      rw [List.getElem?_range hj]
      have e1 : (k * z + r) / z = k := by rw [Nat.mul_comm, Nat.mul_add_div (by omega), Nat.div_eq_of_lt hr, Nat.add_zero]
      have e2 : (k * z + r) % z = r := by rw [Nat.mul_comm, Nat.mul_add_mod, Nat.mod_eq_of_lt hr]
      simp [e1, e2]
    rw [Array.getElem?_toList] at h2
    simp [World.cell?, hh, h2]
theorem div_row {z j n : Nat} (hz : 0 < z) (h : j < n * z) : j / z < n ∧ j % z < z ∧ j / z * z + j % z = j := by
  refine ⟨?_, Nat.mod_lt _ hz, by rw [Nat.mul_comm]; exact Nat.div_add_mod j z⟩
  exact Nat.div_lt_of_lt_mul (by rw [Nat.mul_comm]; exact h)
def intF (f : Nat → Int) (k _r : Nat) : Value := .int .i64 (f k)
def dimF (nm : Nat → ByteArray) (lo hi : Nat → Int) (k r : Nat) : Value := if r = 0 then .string (nm k) else if r = 1 then .int .i64 (lo k) else .int .i64 (hi k)
def attF (an : Nat → ByteArray) (ty : Nat → Int) (k r : Nat) : Value := if r = 0 then .string (an k) else .int .i64 (ty k)
def valF4 (vk vn vd : Nat → Int) (vs : Nat → ByteArray) (k r : Nat) : Value := if r = 0 then .int .i64 (vk k) else if r = 1 then .int .i64 (vn k) else if r = 2 then .int .i64 (vd k) else .string (vs k)
theorem r3 {r : Nat} (h : r < 3) : r = 0 ∨ r = 1 ∨ r = 2 := by omega
theorem r4 {r : Nat} (h : r < 4) : r = 0 ∨ r = 1 ∨ r = 2 ∨ r = 3 := by omega
/-- What the cells of a slice are, as a row. -/
def RowAt (w : World) (A : Option Addr) (n z : Nat) (f : Nat → Nat → Value) : Prop := 0 < n → ∃ b o, A = some ⟨b, o, none⟩ ∧ b < w.heap.size ∧ ∀ k r, k < n → r < z → w.cell? ⟨b, o + (k * z + r), none⟩ = some (f k r)
theorem RowAt.below {w w' : World} {A : Option Addr} {n z : Nat} {f : Nat → Nat → Value} (h : RowAt w A n z f) (hb : Below w.heap.size w w') : RowAt w' A n z f := fun hn => by
  obtain ⟨b, o, h1, h2, h3⟩ := h hn
  exact ⟨b, o, h1, Nat.lt_of_lt_of_le h2 hb.size, fun k r hk hr => (hb.cell (p := ⟨b, o + (k * z + r), none⟩) h2).trans (h3 k r hk hr)⟩
theorem IntsAt.row {w : World} {A : Option Addr} {n : Nat} {f : Nat → Int} (h : IntsAt w A n f) : RowAt w A n 1 (intF f) := fun hn => by
  obtain ⟨b, o, h1, h2, h3⟩ := h hn
  refine ⟨b, o, h1, h2, fun k r hk hr => ?_⟩
  obtain rfl : r = 0 := by omega
  rw [Nat.mul_one, Nat.add_zero]
  exact h3 k hk
theorem RowAt.ints {w : World} {A : Option Addr} {n : Nat} {f : Nat → Int} (h : RowAt w A n 1 (intF f)) : IntsAt w A n f := fun hn => by
  obtain ⟨b, o, h1, h2, h3⟩ := h hn
  refine ⟨b, o, h1, h2, fun k hk => ?_⟩
  have := h3 k 0 hk (by omega)
  rw [Nat.mul_one, Nat.add_zero] at this
  exact this
theorem DimsAt.row {w : World} {A : Option Addr} {n : Nat} {nm : Nat → ByteArray} {lo hi : Nat → Int} (h : DimsAt w A n nm lo hi) : RowAt w A n 3 (dimF nm lo hi) := fun hn => by
  obtain ⟨b, o, h1, h2, h3⟩ := h hn
  refine ⟨b, o, h1, h2, fun k r hk hr => ?_⟩
  obtain ⟨a0, a1, a2⟩ := h3 k hk
  rcases r3 hr with rfl | rfl | rfl
  · exact a0
  · exact a1
  · exact a2
theorem RowAt.dims {w : World} {A : Option Addr} {n : Nat} {nm : Nat → ByteArray} {lo hi : Nat → Int} (h : RowAt w A n 3 (dimF nm lo hi)) : DimsAt w A n nm lo hi := fun hn => by
  obtain ⟨b, o, h1, h2, h3⟩ := h hn
  exact ⟨b, o, h1, h2, fun k hk => ⟨h3 k 0 hk (by omega), h3 k 1 hk (by omega), h3 k 2 hk (by omega)⟩⟩
theorem AttrsAt.row {w : World} {A : Option Addr} {n : Nat} {an : Nat → ByteArray} {ty : Nat → Int} (h : AttrsAt w A n an ty) : RowAt w A n 2 (attF an ty) := fun hn => by
  obtain ⟨b, o, h1, h2, h3⟩ := h hn
  refine ⟨b, o, h1, h2, fun k r hk hr => ?_⟩
  obtain ⟨a0, a1⟩ := h3 k hk
  rcases (by omega : r = 0 ∨ r = 1) with rfl | rfl
  · exact a0
  · exact a1
theorem RowAt.attrs {w : World} {A : Option Addr} {n : Nat} {an : Nat → ByteArray} {ty : Nat → Int} (h : RowAt w A n 2 (attF an ty)) : AttrsAt w A n an ty := fun hn => by
  obtain ⟨b, o, h1, h2, h3⟩ := h hn
  exact ⟨b, o, h1, h2, fun k hk => ⟨h3 k 0 hk (by omega), h3 k 1 hk (by omega)⟩⟩
theorem ValsAt.row {w : World} {A : Option Addr} {n : Nat} {vk vn vd : Nat → Int} {vs : Nat → ByteArray} (h : ValsAt w A n vk vn vd vs) : RowAt w A n 4 (valF4 vk vn vd vs) := fun hn => by
  obtain ⟨b, o, h1, h2, h3⟩ := h hn
  refine ⟨b, o, h1, h2, fun k r hk hr => ?_⟩
  obtain ⟨a0, a1, a2, a3⟩ := h3 k hk
  rcases r4 hr with rfl | rfl | rfl | rfl
  · exact a0
  · exact a1
  · exact a2
  · exact a3
theorem RowAt.vals {w : World} {A : Option Addr} {n : Nat} {vk vn vd : Nat → Int} {vs : Nat → ByteArray} (h : RowAt w A n 4 (valF4 vk vn vd vs)) : ValsAt w A n vk vn vd vs := fun hn => by
  obtain ⟨b, o, h1, h2, h3⟩ := h hn
  exact ⟨b, o, h1, h2, fun k hk => ⟨h3 k 0 hk (by omega), h3 k 1 hk (by omega), h3 k 2 hk (by omega), h3 k 3 hk (by omega)⟩⟩
theorem RowAt.own {w : World} {B e z n : Nat} {v : Value} {f : Nat → Nat → Value} (h : w.ownsRow B e z v n (rowL f z n)) : ∃ A cap, v = .slice A n cap ∧ Up B A ∧ RowAt w A n z f := by
  obtain ⟨A, cap, h1, h2, h3⟩ := row_own h
  refine ⟨A, cap, h1, h2, fun hn => ?_⟩
  obtain ⟨b, e1, e2, e3⟩ := h3 hn
  exact ⟨b, 0, e1, e2, fun k r hk hr => by rw [Nat.zero_add]; exact e3 k r hk hr⟩
/-- What is read for an append: the cells of the slice. -/
theorem RowAt.news {w : World} {a : Addr} {n z : Nat} {f : Nat → Nat → Value} (hz : 0 < z) (h : RowAt w (some a) n z f) : ∀ j u, (rowL f z n)[j]? = some u → w.cell? (a.add j) = some u := by
  intro j u hu
  obtain ⟨h1, rfl⟩ := rowL_get hu
  obtain ⟨d1, d2, d3⟩ := div_row hz h1
  obtain ⟨b, o, e1, _, e3⟩ := h (Nat.lt_of_le_of_lt (Nat.zero_le _) d1)
  injection e1 with e1
  subst e1
  have := e3 (j / z) (j % z) d1 d2
  rw [d3] at this
  rw [Go.WideShapes.add_plain]
  exact this
end Go.Proofs.YtogmbehomilalaaGreatDoor
end

/- The library's Clone at slices of integers, dimensions, attributes and values. -/
section
namespace Go.Proofs.YtogmbehomilalaaGreatDoor
open Go Go.RowKit Go.Deep Go.Shelf

end Go.Proofs.YtogmbehomilalaaGreatDoor
end

/- A region whose order is open, by what each operation leaves in its slot; the last operation (a store) behind all others. -/
section
namespace Go.Proofs.YtogmbehomilalaaGreatDoor
open Go Go.RowKit Go.Deep Go.Shelf

section
variable {ops : Array Oper} {Q : Exit → Act → World → Prop}
theorem chk_dag {n1 : Nat} (hc : RW.chk ops n1 = true) : ∀ (i : Nat) (o : Oper), ops[i]? = some o → ∀ e : Edge, e ∈ o.after → e.on < i := fun i o ho e he => by
  unfold RW.chk at hc
  rw [Bool.and_eq_true, Bool.and_eq_true, List.all_eq_true, List.all_eq_true, List.all_eq_true] at hc
  have := hc.1.2 i (List.mem_range.2 (Array.getElem?_eq_some_iff.1 ho).1)
  rw [ho] at this
  simp only [Option.map_some, Option.getD_some, Array.all_eq_true_iff_forall_mem] at this
  simpa using this e he
theorem set_getD (listed : Array Bool) (i j : Nat) (hi : i < listed.size) : (listed.setIfInBounds i true).getD j false = if j = i then true else listed.getD j false := by
  rw [Array.getD_eq_getD_getElem?, Array.getD_eq_getD_getElem?, Array.getElem?_setIfInBounds]
  by_cases e : i = j
  · subst e; simp [hi]
  · rw [if_neg e, if_neg (fun x => e x.symm)]
end
end Go.Proofs.YtogmbehomilalaaGreatDoor
end

/- A region whose order is open, up to where the rest is a chain. -/
section
namespace Go.Proofs.YtogmbehomilalaaGreatDoor
open Go Go.RowKit Go.Deep Go.Shelf RW

section
variable {ops : Array Oper} {Q : Exit → Act → World → Prop} {P : Program}
theorem wpAny_head {n1 : Nat} (hn1 : n1 ≤ ops.size) (Inv : Array Bool → Act → World → Prop)
    (form : ∀ listed a w, Inv listed a w → listed.size = ops.size ∧ ∀ i, n1 ≤ i → listed.getD i false = false)
    (late : ∀ listed a w i, Inv listed a w → i ∈ Region.ready .any ops listed → n1 ≤ i → ∀ j, j < n1 → listed.getD j false = true)
    (dag : ∀ (i : Nat) (o : Oper), ops[i]? = some o → ∀ e : Edge, e ∈ o.after → e.on < i)
    (step : ∀ listed a w i, Inv listed a w → i ∈ Region.ready .any ops listed → i < n1 → wpOp P ops Q i (Inv (listed.setIfInBounds i true)) a w)
    (tail : ∀ fuel a w, Inv (firsts ops.size n1) a w → ops.size - n1 ≤ fuel → wpAny P .any ops Q fuel (firsts ops.size n1) a w) :
    ∀ (fuel : Nat) (listed : Array Bool) (a : Act) (w : World), leftOf listed ≤ fuel → Inv listed a w → wpAny P .any ops Q fuel listed a w := by
  intro fuel
  induction fuel with
  | zero =>
    intro listed a w hf hi
    obtain ⟨hs, hl⟩ := form listed a w hi
    by_cases hall : ∀ j, j < n1 → listed.getD j false = true
    · have e := eq_firsts hn1 hs hall hl
      subst e
      exact tail 0 a w hi (by have := leftOf_firsts ops.size n1 hn1; omega)
    · exfalso
      obtain ⟨j, hj⟩ := Classical.not_forall.1 hall
      obtain ⟨hj1, hj2⟩ := Classical.not_imp.1 hj
      have := leftOf_set listed j (by rw [Array.getD, dif_pos (by omega)] at hj2 ⊢; simpa using hj2)
      omega
  | succ fuel ih =>
    intro listed a w hf hi
    obtain ⟨hs, hl⟩ := form listed a w hi
    by_cases hall : ∀ j, j < n1 → listed.getD j false = true
    · have e := eq_firsts hn1 hs hall hl
      subst e
      exact tail (fuel + 1) a w hi (by have := leftOf_firsts ops.size n1 hn1; omega)
    · obtain ⟨j, hj⟩ := Classical.not_forall.1 hall
      obtain ⟨hj1, hj2⟩ := Classical.not_imp.1 hj
      have hj3 : listed.getD j false = false := by simpa using hj2
      refine ⟨fun hr => ?_, fun i hm => ?_⟩
      · obtain ⟨i, _, hi2⟩ := least_ready dag hs (by omega) hj3
        rw [hr] at hi2
        cases hi2
      · have hr := mem_ready hm
        have hin : i < n1 := by
          by_cases hin : i < n1
          · exact hin
          · exfalso
            have := late listed a w i hi hm (by omega) j hj1
            rw [hj3] at this
            cases this
        exact wpOp_mono (fun a' w' h' => ih _ a' w' (by have := leftOf_set listed i hr.2.1; omega) h') (step listed a w i hi hm hin)
/-- Behind n1, each operation waits for the one ahead of it. -/
def chain (ops : Array Oper) (n1 : Nat) : Bool := (List.range ops.size).all fun k => decide (k ≤ n1) || ((ops[k]?).map fun o => o.after.any fun e => e.on == k - 1 && Region.binds .any e).getD false
theorem chain_on {n1 k : Nat} {o : Oper} (hc : chain ops n1 = true) (hk : n1 < k) (ho : ops[k]? = some o) : (o.after.any fun e => e.on == k - 1 && Region.binds .any e) = true := by
  unfold chain at hc
  rw [List.all_eq_true] at hc
  have := hc k (List.mem_range.2 (Array.getElem?_eq_some_iff.1 ho).1)
  rw [ho, Bool.or_eq_true] at this
  rcases this with h | h
  · have := of_decide_eq_true h; omega
  · simpa using h
theorem firsts_set {n k : Nat} (h : k < ops.size) (_hn : n = ops.size) : (firsts ops.size k).setIfInBounds k true = firsts ops.size (k + 1) := by
  apply eq_firsts (by omega)
  · simp [firsts_size ops.size k (by omega)]
  · intro j hj
    rw [set_getD _ _ _ (by rw [firsts_size _ _ (by omega)]; exact h), firsts_getD _ _ _ (by omega)]
    by_cases e : j = k
    · rw [if_pos e]
    · rw [if_neg e]; exact decide_eq_true (by omega)
  · intro j hj
    rw [set_getD _ _ _ (by rw [firsts_size _ _ (by omega)]; exact h), firsts_getD _ _ _ (by omega), if_neg (by omega)]
    exact decide_eq_false (by omega)
theorem wpAny_tail {n1 : Nat} (hc : chain ops n1 = true) (dag : ∀ (i : Nat) (o : Oper), ops[i]? = some o → ∀ e : Edge, e ∈ o.after → e.on < i) :
    ∀ m k, k + m = ops.size → n1 ≤ k → ∀ fuel a w, m ≤ fuel → wpList P ops Q (ops.toList.drop k) a w → wpAny P .any ops Q fuel (firsts ops.size k) a w := by
  intro m
  induction m with
  | zero =>
    intro k hk hn fuel a w _ h
    obtain rfl : k = ops.size := by omega
    have hr : ∀ i, i ∉ Region.ready .any ops (firsts ops.size ops.size) := fun i hi => by
      have h1 := (mem_ready hi).1
      have h2 := (mem_ready hi).2.1
      have h3 := firsts_getD ops.size ops.size i (Nat.le_refl _)
      rw [Array.getD_eq_getD_getElem?] at h2 h3
      rw [decide_eq_true h1] at h3
      cases hx : (firsts ops.size ops.size)[i]? <;> rw [hx] at h2 h3 <;> simp_all
    have hr2 := List.eq_nil_iff_forall_not_mem.2 hr
    rw [← Array.length_toList, List.drop_length] at h
    cases fuel with
    | zero => exact ⟨hr2, h⟩
    | succ fuel => exact ⟨fun _ => h, fun i hi => absurd hi (hr i)⟩
  | succ m ih =>
    intro k hk hn fuel a w hf h
    obtain ⟨fu, rfl⟩ : ∃ fu, fuel = fu + 1 := ⟨fuel - 1, by omega⟩
    have hkl : k < ops.size := by omega
    have hun : (firsts ops.size k).getD k false = false := by rw [firsts_getD _ _ _ (by omega)]; exact decide_eq_false (by omega)
    refine ⟨fun hr => ?_, fun i hi => ?_⟩
    · obtain ⟨i, _, hi2⟩ := least_ready dag (firsts_size _ _ (by omega)) hkl hun
      rw [hr] at hi2
      cases hi2
    · have h1 := (mem_ready hi).1
      have h2 := (mem_ready hi).2.1
      have hik : k ≤ i := by
        have h3 := firsts_getD ops.size k i (by omega)
        by_cases hlt : i < k
        · rw [Array.getD_eq_getD_getElem?] at h2 h3
          rw [decide_eq_true hlt] at h3
          cases hx : (firsts ops.size k)[i]? <;> rw [hx] at h2 h3 <;> simp_all
        · omega
      have hik2 : i = k := by
        rcases Nat.lt_or_ge k i with hlt | hge
        · have h4 := ready_onS hi (Array.getElem?_eq_getElem h1) (chain_on hc (by omega) (Array.getElem?_eq_getElem h1))
          rw [firsts_getD _ _ _ (by omega)] at h4
          have := of_decide_eq_true h4
          omega
        · omega
      subst hik2
      have hd : ops.toList.drop i = ops[i] :: ops.toList.drop (i + 1) := by
        rw [List.drop_eq_getElem_cons (by simpa using hkl)]
        simp
      rw [hd] at h
      unfold wpOp
      rw [Array.getElem?_eq_getElem h1]
      unfold wpList at h
      rw [firsts_set hkl rfl]
      have key := ih (i + 1) (by omega) (by omega) fu
      simp only
      by_cases hw : Region.wanted ops[i] (yielded ops a.tmps) = true
      · rw [if_pos hw] at h ⊢
        exact h.imp (Oper.wp_mono fun a' w' h' => key a' w' (by omega) h') id
      · rw [if_neg hw] at h ⊢
        exact key _ _ (by omega) h
/-- The operations ahead of n1 in any order, by what each leaves in its slot; the others one behind the other. -/
theorem wp_region_TK {id : Nat} {a0 : Act} {w0 : World} {T : Nat → Value → World → Prop} {n1 : Nat} (hm : P.follows .mixedOrders = true) (hn1 : n1 ≤ ops.size) (hc : RW.chk ops n1 = true) (hch : chain ops n1 = true)
    (step : ∀ listed a w i, Held ops a0 w0 T listed a w → i ∈ Region.ready .any ops listed → i < n1 → wpOp P ops Q i (Held ops a0 w0 T (listed.setIfInBounds i true)) a w)
    (tail : ∀ listed a w, Held ops a0 w0 T listed a w → (∀ j, j < n1 → listed.getD j false = true) → wpList P ops Q (ops.toList.drop n1) a w) : (Code.region id ops true).wp P Q a0 w0 := by
  have dag := chk_dag hc
  have late1 : ∀ (listed : Array Bool), CL ops listed → n1 ∈ Region.ready .any ops listed ∨ listed.getD n1 false = true → ∀ j, j < n1 → listed.getD j false = true := by
    unfold RW.chk at hc
    rw [Bool.and_eq_true, Bool.and_eq_true, List.all_eq_true, List.all_eq_true, List.all_eq_true] at hc
    obtain ⟨⟨c1, c2⟩, c3⟩ := hc
    intro listed hcl hm j hj
    have key : ∀ m j, m + j = n1 → 1 ≤ m → listed.getD j false = true := by
      intro m
      induction m using Nat.strongRecOn with
      | _ m ih =>
        intro j hmj hm1
        have hk := c3 j (List.mem_range.2 (by omega))
        rw [List.any_eq_true] at hk
        obtain ⟨k, hk1, hk2⟩ := hk
        rw [Bool.and_eq_true, decide_eq_true_eq] at hk2
        obtain ⟨hk2, hk3⟩ := hk2
        have hk4 := List.mem_range.1 hk1
        cases ho : ops[k]? with
        | none => rw [ho] at hk3; cases hk3
        | some o =>
          rw [ho] at hk3
          by_cases e : k = n1
          · subst e
            rcases hm with hm | hm
            · exact ready_onS hm ho hk3
            · exact hcl.on ho hk3 hm
          · exact hcl.on ho hk3 (ih (n1 - k) (by omega) k (by omega) (by omega))
    exact key (n1 - j) j (by omega) (by omega)
  refine wp_region_any hm (wpAny_head hn1 (fun listed a w => Held ops a0 w0 T listed a w ∧ (∀ i, n1 ≤ i → listed.getD i false = false) ∧ CL ops listed) (fun listed a w h => ⟨h.1.size, h.2.1⟩) (fun listed a w i h hi hni j hj => ?_) dag (fun listed a w i h hi hlt => ?_) (fun fuel a w h hf => ?_) _ _ _ _ ?_ ?_)
  · rcases Nat.lt_or_ge n1 i with hlt | hge
    · exfalso
      have h1 := (mem_ready hi).1
      have h4 := ready_onS hi (Array.getElem?_eq_getElem h1) (chain_on hch hlt (Array.getElem?_eq_getElem h1))
      rw [h.2.1 (i - 1) (by omega)] at h4
      cases h4
    · obtain rfl : i = n1 := by omega
      exact late1 listed h.2.2 (.inl hi) j hj
  · refine wpOp_mono ?_ (step listed a w i h.1 hi hlt)
    intro a' w' H'
    refine ⟨H', fun j hj => ?_, h.2.2.set hi⟩
    rw [set_getD _ _ _ (by rw [h.1.size]; exact (mem_ready hi).1), if_neg (by omega)]
    exact h.2.1 j hj
  · refine wpAny_tail hch dag (ops.size - n1) n1 (by omega) (Nat.le_refl _) fuel a w hf (tail _ a w h.1 fun j hj => ?_)
    rw [firsts_getD _ _ _ hn1]
    exact decide_eq_true hj
  · unfold leftOf
    simp
  · have hf : ∀ j, (Array.replicate ops.size false).getD j false = false := by
      intro j
      rw [Array.getD_eq_getD_getElem?, Array.getElem?_replicate]
      split <;> rfl
    exact ⟨⟨by simp, rfl, rfl, Below.drew (Below.refl _ _), fun _ _ => rfl, fun i o t _ _ hl => by rw [hf] at hl; cases hl⟩, fun i _ => hf i, fun j oj _ hl => by rw [hf] at hl; cases hl⟩
end
end Go.Proofs.YtogmbehomilalaaGreatDoor
end

/- General facts of regions and worlds. -/
section
namespace Go.Proofs.YtogmbehomilalaaGreatDoor
open Go Go.RowKit Go.Deep

theorem bel_nw (W : World) (o : Obj) : Below W.heap.size W (W.alloc o) := (Below.refl _ _).alloc (Nat.le_refl _) _
theorem gr2 {w w1 w2 : World} {b : Nat} (h : w.grownBy w1 (some b)) (h2 : w1.grownBy w2 (some b)) : w.grownBy w2 (some b) :=
  ⟨h2.os.trans h.os, h2.tape.trans h.tape, h2.output.trans h.output, Nat.le_trans h.size h2.size, fun k hk hne => (h2.block k (Nat.lt_of_lt_of_le hk h.size) hne).trans (h.block k hk hne)⟩
theorem Below.by_ {w w' : World} (h : Below w.heap.size w w') : w.grownBy w' none := ⟨h.os, h.tape, h.output, h.size, fun k hk _ => h.block k hk⟩
section
variable {ops : Array Oper} {Q : Exit → Act → World → Prop} {K : Act → World → Prop} {a : Act} {w : World}
theorem Held.dl {a0 : Act} {W0 : World} {T : Nat → Value → World → Prop} {listed : Array Bool} (_H : Held ops a0 W0 T listed a w) {l : List (Option Nat)} (h : ops.toList.map (·.dst) = l) : ops.toList.map (·.dst) = l := h
set_option maxRecDepth 100000 in
theorem op_lsl {o : Oper} {d t b f : Nat} {v : Value} {ty : TypeId} (hty : ty = 35 ∨ ty = 36 ∨ ty = 22 ∨ ty = 23 ∨ ty = 24) (ho : o.op = .load ty (.tmp t)) (hd : o.dst = some d) (hs : slot a t = .pointer (some ⟨b, f, none⟩))
    (hc : w.cell? ⟨b, f, none⟩ = some v) (h : K (putSlot a d v) w) : o.wp Tryz.prog a w K Q := by
  obtain ⟨op, dst, ty', pos, after, guard⟩ := o
  dsimp only at ho hd
  subst ho hd
  have hs' : a.tmps[t]?.getD undef = .pointer (some ⟨b, f, none⟩) := hs
  unfold Oper.wp
  rcases hty with rfl | rfl | rfl | rfl | rfl <;> (go_simp; exact h)
end
end Go.Proofs.YtogmbehomilalaaGreatDoor
end

/- From the row's condition to the walk: a list of attributes. -/
section
namespace Go.Proofs.YtogmbehomilalaaGreatDoor
open Go Go.ChangeShapes Go.WideShapes Go.ChangeAt Go.RowKit

section
variable {H : Type} {enc : TypeId × Value → H} {w : World} {base : Nat} {spare : Nat → Bool} {held : Bool}
end
end Go.Proofs.YtogmbehomilalaaGreatDoor
end

/- From the row's condition to the walk: cells, and arrays. -/
section
namespace Go.Proofs.YtogmbehomilalaaGreatDoor
open Go Go.ChangeShapes Go.WideShapes Go.ChangeAt Go.RowKit

/-- The cells of a slice, whatever their sizes. -/
def CelsAt (w : World) (A : Option Addr) (N : Nat) (ln vl : Nat → Nat) (x vk vn vd : Nat → Nat → Int) (vs : Nat → Nat → ByteArray) : Prop :=
  0 < N → ∃ b o, A = some ⟨b, o, none⟩ ∧ b < w.heap.size ∧ ∀ k, k < N → ∃ P c Q d, w.cell? ⟨b, o + k * 2, none⟩ = some (.slice P (ln k) c) ∧ w.cell? ⟨b, o + k * 2 + 1, none⟩ = some (.slice Q (vl k) d) ∧ IntsAt w P (ln k) (x k) ∧ ValsAt w Q (vl k) (vk k) (vn k) (vd k) (vs k)
theorem CelsAt.below {w w' : World} {A : Option Addr} {N : Nat} {ln vl : Nat → Nat} {x vk vn vd : Nat → Nat → Int} {vs : Nat → Nat → ByteArray} (h : CelsAt w A N ln vl x vk vn vd vs) (hb : Below w.heap.size w w') : CelsAt w' A N ln vl x vk vn vd vs := fun hn => by
  obtain ⟨b, o, h1, h2, h3⟩ := h hn
  refine ⟨b, o, h1, Nat.lt_of_lt_of_le h2 hb.size, fun k hk => ?_⟩
  obtain ⟨P, c, Q, d, a1, a2, a3, a4⟩ := h3 k hk
  exact ⟨P, c, Q, d, (hb.cell (p := ⟨b, o + k * 2, none⟩) h2).trans a1, (hb.cell (p := ⟨b, o + k * 2 + 1, none⟩) h2).trans a2, a3.below hb, a4.below hb⟩
theorem CelsAt.few {w : World} {A : Option Addr} {N : Nat} {ln vl : Nat → Nat} {x vk vn vd : Nat → Nat → Int} {vs : Nat → Nat → ByteArray} (h : CelsAt w A N ln vl x vk vn vd vs) (hl : ∀ k, k < N → ln k ≤ 1000) : CellsAt w A N ln vl x vk vn vd vs := fun hn => by
  obtain ⟨b, o, h1, h2, h3⟩ := h hn
  refine ⟨b, o, h1, h2, fun k hk => ?_⟩
  obtain ⟨P, c, Q, d, a1, a2, a3, a4⟩ := h3 k hk
  exact ⟨P, c, Q, d, a1, a2, a3, a4, hl k hk⟩
section
variable {H : Type} {enc : TypeId × Value → H} {w : World} {base : Nat} {spare : Nat → Bool} {held : Bool}
/-- A cell's parts. -/
structure CelD where
  P : Option Addr
  ln : Nat
  c : Nat
  Q : Option Addr
  vl : Nat
  d : Nat
  x : Nat → Int
  vk : Nat → Int
  vn : Nat → Int
  vd : Nat → Int
  vs : Nat → ByteArray
/-- What is known of an array. -/
structure ArrF (w : World) (A : Option Addr) (n : Nat) (B : Option Addr) (m : Nat) (C : Option Addr) (N : Nat) (nm : Nat → ByteArray) (lo hi : Nat → Int) (an : Nat → ByteArray) (ty : Nat → Int) (ln vl : Nat → Nat) (x vk vn vd : Nat → Nat → Int) (vs : Nat → Nat → ByteArray) : Prop where
  dims : DimsAt w A n nm lo hi
  attrs : AttrsAt w B m an ty
  cells : CelsAt w C N ln vl x vk vn vd vs
  nmS : ∀ k, k < n → (nm k).size ≤ 9223372036854775807
  anS : ∀ k, k < m → (an k).size ≤ 9223372036854775807
  cS : ∀ k, k < N → ln k ≤ 9223372036854775807 ∧ vl k ≤ 9223372036854775807 ∧ ∀ j, j < vl k → (vs k j).size ≤ 9223372036854775807
  nL : n ≤ 9223372036854775807
  mL : m ≤ 9223372036854775807
  NL : N ≤ 9223372036854775807
theorem ArrF.below {w w' : World} {A : Option Addr} {n : Nat} {B : Option Addr} {m : Nat} {C : Option Addr} {N : Nat} {nm : Nat → ByteArray} {lo hi : Nat → Int} {an : Nat → ByteArray} {ty : Nat → Int} {ln vl : Nat → Nat} {x vk vn vd : Nat → Nat → Int} {vs : Nat → Nat → ByteArray}
    (h : ArrF w A n B m C N nm lo hi an ty ln vl x vk vn vd vs) (hb : Below w.heap.size w w') : ArrF w' A n B m C N nm lo hi an ty ln vl x vk vn vd vs :=
  ⟨h.dims.below hb, h.attrs.below hb, h.cells.below hb, h.nmS, h.anS, h.cS, h.nL, h.mL, h.NL⟩
end
end Go.Proofs.YtogmbehomilalaaGreatDoor
end

/- What the laws examine: the sizes of schemas. -/
section
namespace Go.Proofs.YtogmbehomilalaaGreatDoor
open Go Go.RowKit Go.Deep

end Go.Proofs.YtogmbehomilalaaGreatDoor
end

/- What the laws examine: the sizes of schemas with attributes. -/
section
namespace Go.Proofs.YtogmbehomilalaaGreatDoor
open Go Go.RowKit Go.Deep

end Go.Proofs.YtogmbehomilalaaGreatDoor
end

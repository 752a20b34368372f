/- Slices of structs copied: their cells in a row. -/
import Derived.Test.YtogmbehomilalaaGreatDoorZSmA
import Derived.Maps.AppendAt
import Derived.Test.YtogmbehomilalaaGreatDoorShelf
import Derived.Deep.OwnRows
import Derived.Test.YtogmbehomilalaaGreatDoorZInvReg
import Derived.Test.YtogmbehomilalaaGreatDoorZSplit
import Derived.Test.YtogmbehomilalaaGreatDoorZSpH
import Derived.Test.YtogmbehomilalaaGreatDoorZSch

/- Slices of structs copied: their cells in a row. -/
section
namespace Go.Proofs.YtogmbehomilalaaGreatDoor
open Go Go.RowKit Go.Deep

/-- The cells of n structs of z cells each. -/
def rowL (f : Nat → Nat → Value) (z n : Nat) : List Value := (List.range (n * z)).map fun i => f (i / z) (i % z)
theorem rowL_len (f : Nat → Nat → Value) (z n : Nat) : (rowL f z n).length = n * z := by simp [rowL]
theorem rowL_get {f : Nat → Nat → Value} {z n j : Nat} {u : Value} (h : (rowL f z n)[j]? = some u) : j < n * z ∧ u = f (j / z) (j % z) := by
  obtain ⟨h1, h2⟩ := List.getElem?_eq_some_iff.1 h
  rw [rowL_len] at h1
  refine ⟨h1, ?_⟩
  rw [← h2]
  simp [rowL]
theorem rowL_one {f : Nat → Nat → Value} {z n : Nat} (hf : ∀ k r, (f k r).oneCell' = true) : ∀ u ∈ rowL f z n, u.oneCell' = true := by
  intro u hu
  obtain ⟨i, _, rfl⟩ := List.mem_map.1 hu
  exact hf _ _
/-- A slice that begins at the head of a block from B on. -/
def Up (B : Nat) (A : Option Addr) : Prop := ∀ a, A = some a → B ≤ a.block ∧ a.off = 0 ∧ a.spot = none
theorem Up.none (B : Nat) : Up B none := fun a h => by cases h
theorem Up.mono {B B' : Nat} {A : Option Addr} (h : Up B A) (hb : B' ≤ B) : Up B' A := fun a ha => ⟨Nat.le_trans hb (h a ha).1, (h a ha).2⟩
theorem row_own {w : World} {B e z n : Nat} {v : Value} {f : Nat → Nat → Value} (h : w.ownsRow B e z v n (rowL f z n)) :
    ∃ A cap, v = .slice A n cap ∧ Up B A ∧ (0 < n → ∃ b, A = some ⟨b, 0, none⟩ ∧ b < w.heap.size ∧ ∀ k r, k < n → r < z → w.cell? ⟨b, k * z + r, none⟩ = some (f k r)) := by
  rcases h.2 with ⟨rfl, rfl⟩ | ⟨g, cap, cur, rfl, hg, hh, hcap, _, hs, ht⟩
  · exact ⟨none, 0, rfl, Up.none _, fun h => absurd h (by omega)⟩
  · refine ⟨_, _, rfl, fun a ha => by injection ha with ha; subst ha; exact ⟨hg, rfl, rfl⟩, fun _ => ⟨g, rfl, (Array.getElem?_eq_some_iff.1 hh).1, fun k r hk hr => ?_⟩⟩
    have hj : k * z + r < n * z := by
      have : (k + 1) * z ≤ n * z := Nat.mul_le_mul_right _ hk
      rw [Nat.add_mul, Nat.one_mul] at this
      omega
    have h2 : cur.toList[k * z + r]? = some (f k r) := by
      rw [← List.getElem?_take_of_lt hj, ht]
      simp only [rowL, List.getElem?_map]
      rw [List.getElem?_range hj]
      have e1 : (k * z + r) / z = k := by rw [Nat.mul_comm, Nat.mul_add_div (by omega), Nat.div_eq_of_lt hr, Nat.add_zero]
      have e2 : (k * z + r) % z = r := by rw [Nat.mul_comm, Nat.mul_add_mod, Nat.mod_eq_of_lt hr]
      simp [e1, e2]
    rw [Array.getElem?_toList] at h2
    simp [World.cell?, hh, h2]
theorem div_row {z j n : Nat} (hz : 0 < z) (h : j < n * z) : j / z < n ∧ j % z < z ∧ j / z * z + j % z = j := by
  refine ⟨?_, Nat.mod_lt _ hz, by rw [Nat.mul_comm]; exact Nat.div_add_mod j z⟩
  exact Nat.div_lt_of_lt_mul (by rw [Nat.mul_comm]; exact h)
def intF (f : Nat → Int) (k _r : Nat) : Value := .int .i64 (f k)
def dimF (nm : Nat → ByteArray) (lo hi : Nat → Int) (k r : Nat) : Value := if r = 0 then .string (nm k) else if r = 1 then .int .i64 (lo k) else .int .i64 (hi k)
def attF (an : Nat → ByteArray) (ty : Nat → Int) (k r : Nat) : Value := if r = 0 then .string (an k) else .int .i64 (ty k)
def valF4 (vk vn vd : Nat → Int) (vs : Nat → ByteArray) (k r : Nat) : Value := if r = 0 then .int .i64 (vk k) else if r = 1 then .int .i64 (vn k) else if r = 2 then .int .i64 (vd k) else .string (vs k)
theorem intF_one (f : Nat → Int) (k r : Nat) : (intF f k r).oneCell' = true := rfl
theorem dimF_one (nm : Nat → ByteArray) (lo hi : Nat → Int) (k r : Nat) : (dimF nm lo hi k r).oneCell' = true := by
  unfold dimF
  split
  · rfl
  · split <;> rfl
theorem attF_one (an : Nat → ByteArray) (ty : Nat → Int) (k r : Nat) : (attF an ty k r).oneCell' = true := by unfold attF; split <;> rfl
theorem valF4_one (vk vn vd : Nat → Int) (vs : Nat → ByteArray) (k r : Nat) : (valF4 vk vn vd vs k r).oneCell' = true := by
  unfold valF4
  split
  · rfl
  · split
    · rfl
    · split <;> rfl
theorem r3 {r : Nat} (h : r < 3) : r = 0 ∨ r = 1 ∨ r = 2 := by omega
theorem r4 {r : Nat} (h : r < 4) : r = 0 ∨ r = 1 ∨ r = 2 ∨ r = 3 := by omega
/-- What the cells of a slice are, as a row. -/
def RowAt (w : World) (A : Option Addr) (n z : Nat) (f : Nat → Nat → Value) : Prop := 0 < n → ∃ b o, A = some ⟨b, o, none⟩ ∧ b < w.heap.size ∧ ∀ k r, k < n → r < z → w.cell? ⟨b, o + (k * z + r), none⟩ = some (f k r)
theorem RowAt.below {w w' : World} {A : Option Addr} {n z : Nat} {f : Nat → Nat → Value} (h : RowAt w A n z f) (hb : Below w.heap.size w w') : RowAt w' A n z f := fun hn => by
  obtain ⟨b, o, h1, h2, h3⟩ := h hn
  exact ⟨b, o, h1, Nat.lt_of_lt_of_le h2 hb.size, fun k r hk hr => (hb.cell (p := ⟨b, o + (k * z + r), none⟩) h2).trans (h3 k r hk hr)⟩
theorem IntsAt.row {w : World} {A : Option Addr} {n : Nat} {f : Nat → Int} (h : IntsAt w A n f) : RowAt w A n 1 (intF f) := fun hn => by
  obtain ⟨b, o, h1, h2, h3⟩ := h hn
  refine ⟨b, o, h1, h2, fun k r hk hr => ?_⟩
  obtain rfl : r = 0 := by omega
  rw [Nat.mul_one, Nat.add_zero]
  exact h3 k hk
theorem RowAt.ints {w : World} {A : Option Addr} {n : Nat} {f : Nat → Int} (h : RowAt w A n 1 (intF f)) : IntsAt w A n f := fun hn => by
  obtain ⟨b, o, h1, h2, h3⟩ := h hn
  refine ⟨b, o, h1, h2, fun k hk => ?_⟩
  have := h3 k 0 hk (by omega)
  rw [Nat.mul_one, Nat.add_zero] at this
  exact this
theorem DimsAt.row {w : World} {A : Option Addr} {n : Nat} {nm : Nat → ByteArray} {lo hi : Nat → Int} (h : DimsAt w A n nm lo hi) : RowAt w A n 3 (dimF nm lo hi) := fun hn => by
  obtain ⟨b, o, h1, h2, h3⟩ := h hn
  refine ⟨b, o, h1, h2, fun k r hk hr => ?_⟩
  obtain ⟨a0, a1, a2⟩ := h3 k hk
  rcases r3 hr with rfl | rfl | rfl
  · exact a0
  · exact a1
  · exact a2
theorem RowAt.dims {w : World} {A : Option Addr} {n : Nat} {nm : Nat → ByteArray} {lo hi : Nat → Int} (h : RowAt w A n 3 (dimF nm lo hi)) : DimsAt w A n nm lo hi := fun hn => by
  obtain ⟨b, o, h1, h2, h3⟩ := h hn
  exact ⟨b, o, h1, h2, fun k hk => ⟨h3 k 0 hk (by omega), h3 k 1 hk (by omega), h3 k 2 hk (by omega)⟩⟩
theorem AttrsAt.row {w : World} {A : Option Addr} {n : Nat} {an : Nat → ByteArray} {ty : Nat → Int} (h : AttrsAt w A n an ty) : RowAt w A n 2 (attF an ty) := fun hn => by
  obtain ⟨b, o, h1, h2, h3⟩ := h hn
  refine ⟨b, o, h1, h2, fun k r hk hr => ?_⟩
  obtain ⟨a0, a1⟩ := h3 k hk
  rcases (by omega : r = 0 ∨ r = 1) with rfl | rfl
  · exact a0
  · exact a1
theorem RowAt.attrs {w : World} {A : Option Addr} {n : Nat} {an : Nat → ByteArray} {ty : Nat → Int} (h : RowAt w A n 2 (attF an ty)) : AttrsAt w A n an ty := fun hn => by
  obtain ⟨b, o, h1, h2, h3⟩ := h hn
  exact ⟨b, o, h1, h2, fun k hk => ⟨h3 k 0 hk (by omega), h3 k 1 hk (by omega)⟩⟩
theorem ValsAt.row {w : World} {A : Option Addr} {n : Nat} {vk vn vd : Nat → Int} {vs : Nat → ByteArray} (h : ValsAt w A n vk vn vd vs) : RowAt w A n 4 (valF4 vk vn vd vs) := fun hn => by
  obtain ⟨b, o, h1, h2, h3⟩ := h hn
  refine ⟨b, o, h1, h2, fun k r hk hr => ?_⟩
  obtain ⟨a0, a1, a2, a3⟩ := h3 k hk
  rcases r4 hr with rfl | rfl | rfl | rfl
  · exact a0
  · exact a1
  · exact a2
  · exact a3
theorem RowAt.vals {w : World} {A : Option Addr} {n : Nat} {vk vn vd : Nat → Int} {vs : Nat → ByteArray} (h : RowAt w A n 4 (valF4 vk vn vd vs)) : ValsAt w A n vk vn vd vs := fun hn => by
  obtain ⟨b, o, h1, h2, h3⟩ := h hn
  exact ⟨b, o, h1, h2, fun k hk => ⟨h3 k 0 hk (by omega), h3 k 1 hk (by omega), h3 k 2 hk (by omega), h3 k 3 hk (by omega)⟩⟩
theorem RowAt.own {w : World} {B e z n : Nat} {v : Value} {f : Nat → Nat → Value} (h : w.ownsRow B e z v n (rowL f z n)) : ∃ A cap, v = .slice A n cap ∧ Up B A ∧ RowAt w A n z f := by
  obtain ⟨A, cap, h1, h2, h3⟩ := row_own h
  refine ⟨A, cap, h1, h2, fun hn => ?_⟩
  obtain ⟨b, e1, e2, e3⟩ := h3 hn
  exact ⟨b, 0, e1, e2, fun k r hk hr => by rw [Nat.zero_add]; exact e3 k r hk hr⟩
/-- What is read for an append: the cells of the slice. -/
theorem RowAt.news {w : World} {a : Addr} {n z : Nat} {f : Nat → Nat → Value} (hz : 0 < z) (h : RowAt w (some a) n z f) : ∀ j u, (rowL f z n)[j]? = some u → w.cell? (a.add j) = some u := by
  intro j u hu
  obtain ⟨h1, rfl⟩ := rowL_get hu
  obtain ⟨d1, d2, d3⟩ := div_row hz h1
  obtain ⟨b, o, e1, _, e3⟩ := h (Nat.lt_of_le_of_lt (Nat.zero_le _) d1)
  injection e1 with e1
  subst e1
  have := e3 (j / z) (j % z) d1 d2
  rw [d3] at this
  rw [Go.WideShapes.add_plain]
  exact this
end Go.Proofs.YtogmbehomilalaaGreatDoor
end

/- The library's Clone at slices of integers, dimensions, attributes and values. -/
section
namespace Go.Proofs.YtogmbehomilalaaGreatDoor
open Go Go.RowKit Go.Deep Go.Shelf

theorem info_clI : (Tryz.prog.info? 3).map (fun i => (i.zero, i.size, i.bytes)) = some (some (.int .i64 0), 1, 8) := by kernel_rfl
set_option maxRecDepth 100000 in
set_option maxHeartbeats 2000000 in
theorem c_CloneI (w : World) (A : Option Addr) (n c : Nat) (f : Nat → Int) (h : IntsAt w A n f) (hn : n ≤ 1000000) :
    Calls Tryz.prog 84 #[.slice A n c] w fun e w' => ∃ P cc, e = .returned (.slice P n cc) ∧ IntsAt w' P n f ∧ Up w.heap.size P ∧ Below w.heap.size w w' := by
  have HR := Lib.hid h.row
  have H0 : Hid (A = none → n = 0) := fun e => by
    rcases Nat.eq_zero_or_pos n with h0 | h0
    · exact h0
    · obtain ⟨b, o, h1, _⟩ := h h0
      rw [e] at h1; cases h1
  clear h
  obtain ⟨i0, hI9, hz0, hz1, hz2⟩ := info_parts info_clI
  have q1 : ∀ (w : World) (a : Option Addr) (n c n' c' : Nat), (binOp .eql 35 (.slice a n c) (.slice none n' c')).run Tryz.prog w = .ok (.bool a.isNone) w := fun w a n c n' c' => Lib.run_eql_slice_nil w _ _ a n c n' c' Tryz.underlying35
  cases A with
  | none =>
    obtain rfl := H0.out rfl
    have HN : Calls Tryz.prog 84 #[.slice none 0 c] w fun e w' => e = .returned (.slice none 0 0) ∧ w' = w := by
      clear HR
      go_enter Tryz.func84, Tryz.ntmps84
      go_wp2
      go_ret
      exact ⟨rfl, rfl⟩
    exact HN.mono fun e w' ⟨h1, h2⟩ => ⟨none, 0, h1, fun h => absurd h (by omega), Up.none _, by rw [h2]; exact Below.refl _ _⟩
  | some ad =>
    clear H0
    go_enter Tryz.func84, Tryz.ntmps84
    go_wp2_with (at_builtin; refine wpList_append_own _ rfl _ _ 35 rfl w.heap.size 3 i0 (.int .i64 0) 1 8 Tryz.underlying35 hI9 hz0 hz1 hz2 rfl (by decide) _ _ _ rfl (World.ownsRow_made w #[] 0 (Nat.le_refl _) (Nat.zero_le _) rfl) ad n c (rowL (intF f) 1 n) rfl ?qc1 ?qc2 ?qc3 ?qc4 ?qc5 ?qc6 ?_)
    case qc1 => rw [rowL_len]
    case qc2 => exact fun j u hj => Lib.cell?_alloc_some _ (HR.out.news (by decide) j u hj)
    case qc3 => exact rowL_one (intF_one f)
    case qc4 => unfold maxLen; omega
    case qc5 => omega
    case qc6 => simp
    intro v' w1 hown hgrow hnil
    go_wp2
    go_ret
    have hown2 : w1.ownsRow w.heap.size 3 1 v' n (rowL (intF f) 1 n) := by simpa using hown
    obtain ⟨P, cc, rfl, h1, h2⟩ := RowAt.own hown2
    exact ⟨P, cc, rfl, h2.ints, h1, ((Below.refl _ w).alloc (Nat.le_refl _) _).grown hgrow (by simp) (by intro k hk; simp [Value.ownBlock] at hk; omega)⟩
theorem info_clD : (Tryz.prog.info? 57).map (fun i => (i.zero, i.size, i.bytes)) = some (some (.agg #[.string ⟨#[]⟩, .int .i64 0, .int .i64 0]), 3, 32) := by kernel_rfl
set_option maxRecDepth 100000 in
set_option maxHeartbeats 2000000 in
theorem c_CloneD (w : World) (A : Option Addr) (n c : Nat) (nm : Nat → ByteArray) (lo hi : Nat → Int) (h : DimsAt w A n nm lo hi) (hn : n ≤ 1000000) :
    Calls Tryz.prog 82 #[.slice A n c] w fun e w' => ∃ P cc, e = .returned (.slice P n cc) ∧ DimsAt w' P n nm lo hi ∧ Up w.heap.size P ∧ Below w.heap.size w w' := by
  have HR := Lib.hid h.row
  have H0 : Hid (A = none → n = 0) := fun e => by
    rcases Nat.eq_zero_or_pos n with h0 | h0
    · exact h0
    · obtain ⟨b, o, h1, _⟩ := h h0
      rw [e] at h1; cases h1
  clear h
  obtain ⟨i0, hI9, hz0, hz1, hz2⟩ := info_parts info_clD
  have q1 : ∀ (w : World) (a : Option Addr) (n c n' c' : Nat), (binOp .eql 22 (.slice a n c) (.slice none n' c')).run Tryz.prog w = .ok (.bool a.isNone) w := fun w a n c n' c' => Lib.run_eql_slice_nil w _ _ a n c n' c' Tryz.underlying22
  cases A with
  | none =>
    obtain rfl := H0.out rfl
    have HN : Calls Tryz.prog 82 #[.slice none 0 c] w fun e w' => e = .returned (.slice none 0 0) ∧ w' = w := by
      clear HR
      go_enter Tryz.func82, Tryz.ntmps82
      go_wp2
      go_ret
      exact ⟨rfl, rfl⟩
    exact HN.mono fun e w' ⟨h1, h2⟩ => ⟨none, 0, h1, fun h => absurd h (by omega), Up.none _, by rw [h2]; exact Below.refl _ _⟩
  | some ad =>
    clear H0
    go_enter Tryz.func82, Tryz.ntmps82
    go_wp2_with (at_builtin; refine wpList_append_own _ rfl _ _ 22 rfl w.heap.size 57 i0 (.agg #[.string ⟨#[]⟩, .int .i64 0, .int .i64 0]) 3 32 Tryz.underlying22 hI9 hz0 hz1 hz2 rfl (by decide) _ _ _ rfl (World.ownsRow_made w #[] 0 (Nat.le_refl _) (Nat.zero_le _) rfl) ad n c (rowL (dimF nm lo hi) 3 n) rfl ?qc1 ?qc2 ?qc3 ?qc4 ?qc5 ?qc6 ?_)
    case qc1 => rw [rowL_len]
    case qc2 => exact fun j u hj => Lib.cell?_alloc_some _ (HR.out.news (by decide) j u hj)
    case qc3 => exact rowL_one (dimF_one nm lo hi)
    case qc4 => unfold maxLen; omega
    case qc5 => omega
    case qc6 => simp
    intro v' w1 hown hgrow hnil
    go_wp2
    go_ret
    have hown2 : w1.ownsRow w.heap.size 57 3 v' n (rowL (dimF nm lo hi) 3 n) := by simpa using hown
    obtain ⟨P, cc, rfl, h1, h2⟩ := RowAt.own hown2
    exact ⟨P, cc, rfl, h2.dims, h1, ((Below.refl _ w).alloc (Nat.le_refl _) _).grown hgrow (by simp) (by intro k hk; simp [Value.ownBlock] at hk; omega)⟩
theorem info_clA : (Tryz.prog.info? 59).map (fun i => (i.zero, i.size, i.bytes)) = some (some (.agg #[.string ⟨#[]⟩, .int .i64 0]), 2, 24) := by kernel_rfl
set_option maxRecDepth 100000 in
set_option maxHeartbeats 2000000 in
theorem c_CloneA (w : World) (A : Option Addr) (n c : Nat) (an : Nat → ByteArray) (ty : Nat → Int) (h : AttrsAt w A n an ty) (hn : n ≤ 1000000) :
    Calls Tryz.prog 83 #[.slice A n c] w fun e w' => ∃ P cc, e = .returned (.slice P n cc) ∧ AttrsAt w' P n an ty ∧ Up w.heap.size P ∧ Below w.heap.size w w' := by
  have HR := Lib.hid h.row
  have H0 : Hid (A = none → n = 0) := fun e => by
    rcases Nat.eq_zero_or_pos n with h0 | h0
    · exact h0
    · obtain ⟨b, o, h1, _⟩ := h h0
      rw [e] at h1; cases h1
  clear h
  obtain ⟨i0, hI9, hz0, hz1, hz2⟩ := info_parts info_clA
  have q1 : ∀ (w : World) (a : Option Addr) (n c n' c' : Nat), (binOp .eql 23 (.slice a n c) (.slice none n' c')).run Tryz.prog w = .ok (.bool a.isNone) w := fun w a n c n' c' => Lib.run_eql_slice_nil w _ _ a n c n' c' Tryz.underlying23
  cases A with
  | none =>
    obtain rfl := H0.out rfl
    have HN : Calls Tryz.prog 83 #[.slice none 0 c] w fun e w' => e = .returned (.slice none 0 0) ∧ w' = w := by
      clear HR
      go_enter Tryz.func83, Tryz.ntmps83
      go_wp2
      go_ret
      exact ⟨rfl, rfl⟩
    exact HN.mono fun e w' ⟨h1, h2⟩ => ⟨none, 0, h1, fun h => absurd h (by omega), Up.none _, by rw [h2]; exact Below.refl _ _⟩
  | some ad =>
    clear H0
    go_enter Tryz.func83, Tryz.ntmps83
    go_wp2_with (at_builtin; refine wpList_append_own _ rfl _ _ 23 rfl w.heap.size 59 i0 (.agg #[.string ⟨#[]⟩, .int .i64 0]) 2 24 Tryz.underlying23 hI9 hz0 hz1 hz2 rfl (by decide) _ _ _ rfl (World.ownsRow_made w #[] 0 (Nat.le_refl _) (Nat.zero_le _) rfl) ad n c (rowL (attF an ty) 2 n) rfl ?qc1 ?qc2 ?qc3 ?qc4 ?qc5 ?qc6 ?_)
    case qc1 => rw [rowL_len]
    case qc2 => exact fun j u hj => Lib.cell?_alloc_some _ (HR.out.news (by decide) j u hj)
    case qc3 => exact rowL_one (attF_one an ty)
    case qc4 => unfold maxLen; omega
    case qc5 => omega
    case qc6 => simp
    intro v' w1 hown hgrow hnil
    go_wp2
    go_ret
    have hown2 : w1.ownsRow w.heap.size 59 2 v' n (rowL (attF an ty) 2 n) := by simpa using hown
    obtain ⟨P, cc, rfl, h1, h2⟩ := RowAt.own hown2
    exact ⟨P, cc, rfl, h2.attrs, h1, ((Below.refl _ w).alloc (Nat.le_refl _) _).grown hgrow (by simp) (by intro k hk; simp [Value.ownBlock] at hk; omega)⟩
theorem info_clV : (Tryz.prog.info? 40).map (fun i => (i.zero, i.size, i.bytes)) = some (some (.agg #[.int .i64 0, .int .i64 0, .int .i64 0, .string ⟨#[]⟩]), 4, 40) := by kernel_rfl
set_option maxRecDepth 100000 in
set_option maxHeartbeats 2000000 in
theorem c_CloneV (w : World) (A : Option Addr) (n c : Nat) (vk vn vd : Nat → Int) (vs : Nat → ByteArray) (h : ValsAt w A n vk vn vd vs) (hn : n ≤ 1000000) :
    Calls Tryz.prog 85 #[.slice A n c] w fun e w' => ∃ P cc, e = .returned (.slice P n cc) ∧ ValsAt w' P n vk vn vd vs ∧ Up w.heap.size P ∧ Below w.heap.size w w' := by
  have HR := Lib.hid h.row
  have H0 : Hid (A = none → n = 0) := fun e => by
    rcases Nat.eq_zero_or_pos n with h0 | h0
    · exact h0
    · obtain ⟨b, o, h1, _⟩ := h h0
      rw [e] at h1; cases h1
  clear h
  obtain ⟨i0, hI9, hz0, hz1, hz2⟩ := info_parts info_clV
  have q1 : ∀ (w : World) (a : Option Addr) (n c n' c' : Nat), (binOp .eql 36 (.slice a n c) (.slice none n' c')).run Tryz.prog w = .ok (.bool a.isNone) w := fun w a n c n' c' => Lib.run_eql_slice_nil w _ _ a n c n' c' Tryz.underlying36
  cases A with
  | none =>
    obtain rfl := H0.out rfl
    have HN : Calls Tryz.prog 85 #[.slice none 0 c] w fun e w' => e = .returned (.slice none 0 0) ∧ w' = w := by
      clear HR
      go_enter Tryz.func85, Tryz.ntmps85
      go_wp2
      go_ret
      exact ⟨rfl, rfl⟩
    exact HN.mono fun e w' ⟨h1, h2⟩ => ⟨none, 0, h1, fun h => absurd h (by omega), Up.none _, by rw [h2]; exact Below.refl _ _⟩
  | some ad =>
    clear H0
    go_enter Tryz.func85, Tryz.ntmps85
    go_wp2_with (at_builtin; refine wpList_append_own _ rfl _ _ 36 rfl w.heap.size 40 i0 (.agg #[.int .i64 0, .int .i64 0, .int .i64 0, .string ⟨#[]⟩]) 4 40 Tryz.underlying36 hI9 hz0 hz1 hz2 rfl (by decide) _ _ _ rfl (World.ownsRow_made w #[] 0 (Nat.le_refl _) (Nat.zero_le _) rfl) ad n c (rowL (valF4 vk vn vd vs) 4 n) rfl ?qc1 ?qc2 ?qc3 ?qc4 ?qc5 ?qc6 ?_)
    case qc1 => rw [rowL_len]
    case qc2 => exact fun j u hj => Lib.cell?_alloc_some _ (HR.out.news (by decide) j u hj)
    case qc3 => exact rowL_one (valF4_one vk vn vd vs)
    case qc4 => unfold maxLen; omega
    case qc5 => omega
    case qc6 => simp
    intro v' w1 hown hgrow hnil
    go_wp2
    go_ret
    have hown2 : w1.ownsRow w.heap.size 40 4 v' n (rowL (valF4 vk vn vd vs) 4 n) := by simpa using hown
    obtain ⟨P, cc, rfl, h1, h2⟩ := RowAt.own hown2
    exact ⟨P, cc, rfl, h2.vals, h1, ((Below.refl _ w).alloc (Nat.le_refl _) _).grown hgrow (by simp) (by intro k hk; simp [Value.ownBlock] at hk; omega)⟩
end Go.Proofs.YtogmbehomilalaaGreatDoor
end

/- A region whose order is open, by what each operation leaves in its slot; the last operation (a store) behind all others. -/
section
namespace Go.Proofs.YtogmbehomilalaaGreatDoor
open Go Go.RowKit Go.Deep Go.Shelf

section
variable {ops : Array Oper} {Q : Exit → Act → World → Prop}
theorem chk_dag {n1 : Nat} (hc : RW.chk ops n1 = true) : ∀ (i : Nat) (o : Oper), ops[i]? = some o → ∀ e : Edge, e ∈ o.after → e.on < i := fun i o ho e he => by
  unfold RW.chk at hc
  rw [Bool.and_eq_true, Bool.and_eq_true, List.all_eq_true, List.all_eq_true, List.all_eq_true] at hc
  have := hc.1.2 i (List.mem_range.2 (Array.getElem?_eq_some_iff.1 ho).1)
  rw [ho] at this
  simp only [Option.map_some, Option.getD_some, Array.all_eq_true_iff_forall_mem] at this
  simpa using this e he
theorem chk_late {n1 : Nat} (hsz : ops.size = n1 + 1) (hc : RW.chk ops n1 = true) {listed : Array Bool} (hcl : RW.CL ops listed) (hm : n1 ∈ Region.ready .any ops listed) : ∀ j, j < n1 → listed.getD j false = true := by
  unfold RW.chk at hc
  rw [Bool.and_eq_true, Bool.and_eq_true, List.all_eq_true, List.all_eq_true, List.all_eq_true] at hc
  obtain ⟨⟨c1, c2⟩, c3⟩ := hc
  intro j hj
  have key : ∀ m j, m + j = n1 → 1 ≤ m → listed.getD j false = true := by
    intro m
    induction m using Nat.strongRecOn with
    | _ m ih =>
      intro j hmj hm1
      have hk := c3 j (List.mem_range.2 (by omega))
      rw [List.any_eq_true] at hk
      obtain ⟨k, hk1, hk2⟩ := hk
      rw [Bool.and_eq_true, decide_eq_true_eq] at hk2
      obtain ⟨hk2, hk3⟩ := hk2
      have hk4 := List.mem_range.1 hk1
      cases ho : ops[k]? with
      | none => rw [ho] at hk3; cases hk3
      | some o =>
        rw [ho] at hk3
        by_cases e : k = n1
        · subst e; exact RW.ready_onS hm ho hk3
        · exact hcl.on ho hk3 (ih (n1 - k) (by omega) k (by omega) (by omega))
  exact key (n1 - j) j (by omega) (by omega)
theorem set_getD (listed : Array Bool) (i j : Nat) (hi : i < listed.size) : (listed.setIfInBounds i true).getD j false = if j = i then true else listed.getD j false := by
  rw [Array.getD_eq_getD_getElem?, Array.getD_eq_getD_getElem?, Array.getElem?_setIfInBounds]
  by_cases e : i = j
  · subst e; simp [hi]
  · rw [if_neg e, if_neg (fun x => e x.symm)]
theorem wp_region_TL {id : Nat} {a0 : Act} {w0 : World} {T : Nat → Value → World → Prop} {P : Program} {n1 : Nat} {ol : Oper} (hm : P.follows .mixedOrders = true) (hsz : ops.size = n1 + 1) (hol : ops[n1]? = some ol) (hgl : ol.guard = none) (hc : RW.chk ops n1 = true)
    (step : ∀ listed a w i, Held ops a0 w0 T listed a w → i ∈ Region.ready .any ops listed → i < n1 → wpOp P ops Q i (Held ops a0 w0 T (listed.setIfInBounds i true)) a w)
    (tail : ∀ listed a w, Held ops a0 w0 T listed a w → (∀ j, j < n1 → listed.getD j false = true) → ol.wp P a w (fun a' w' => Q .normal a' w') Q) : (Code.region id ops true).wp P Q a0 w0 := by
  have dag := chk_dag hc
  refine wp_region_any hm (wpAny_inv (fun listed a w => (Held ops a0 w0 T listed a w ∧ listed.getD n1 false = false ∧ RW.CL ops listed) ∨ (listed.size = ops.size ∧ (∀ j, j < ops.size → listed.getD j false = true) ∧ Q .normal a w)) ?_ ?_ _ _ _ _ ?_ ?_)
  · rintro listed a w i (⟨H, hl, hcl⟩ | ⟨hs, hall, _⟩) hi
    · have hlt := (mem_ready hi).1
      by_cases e : i = n1
      · subst e
        have hlate := chk_late hsz hc hcl hi
        refine wpOp_of hol (.inl hgl) ?_
        have ht := tail listed a w H hlate
        refine Oper.wp_mono ?_ ht
        · intro a' w' hq
          refine .inr ⟨by simpa using H.size, fun j hj => ?_, hq⟩
          rw [set_getD _ _ _ (by rw [H.size]; exact hlt)]
          by_cases e2 : j = i
          · rw [if_pos e2]
          · rw [if_neg e2]; exact hlate j (by omega)
      · refine wpOp_mono ?_ (step listed a w i H hi (by omega))
        intro a' w' H'
        refine .inl ⟨H', ?_, hcl.set hi⟩
        rw [set_getD _ _ _ (by rw [H.size]; exact hlt), if_neg (fun x => e x.symm)]
        exact hl
    · exfalso
      have h1 := (mem_ready hi).1
      have h2 := (mem_ready hi).2.1
      have h3 := hall i h1
      rw [Array.getD, dif_pos (by omega)] at h2 h3
      rw [h2] at h3
      cases h3
  · rintro listed a w (⟨H, hl, _⟩ | ⟨_, _, hq⟩) hr
    · have := all_listed H.size dag hr n1 (by omega)
      rw [hl] at this
      cases this
    · exact hq
  · unfold leftOf
    simp
  · have hf : ∀ j, (Array.replicate ops.size false).getD j false = false := by
      intro j
      rw [Array.getD_eq_getD_getElem?, Array.getElem?_replicate]
      split <;> rfl
    refine .inl ⟨⟨by simp, rfl, rfl, Below.drew (Below.refl _ _), fun _ _ => rfl, fun i o t _ _ hl => by rw [hf] at hl; cases hl⟩, hf n1, fun j oj _ hl => ?_⟩
    rw [hf] at hl; cases hl
end
theorem range_38 : List.range 38 = [0, 1, 2, 3, 4, 5, 6, 7, 8, 9, 10, 11, 12, 13, 14, 15, 16, 17, 18, 19, 20, 21, 22, 23, 24, 25, 26, 27, 28, 29, 30, 31, 32, 33, 34, 35, 36, 37] := rfl
theorem lit_38 (f : Nat → Value) : ((List.range 38).map f).toArray = #[f 0, f 1, f 2, f 3, f 4, f 5, f 6, f 7, f 8, f 9, f 10, f 11, f 12, f 13, f 14, f 15, f 16, f 17, f 18, f 19, f 20, f 21, f 22, f 23, f 24, f 25, f 26, f 27, f 28, f 29, f 30, f 31, f 32, f 33, f 34, f 35, f 36, f 37] := by rw [range_38]; rfl
theorem actlit_38 (a : Act) (h : a.tmps.size = 38) (hd : a.defers = []) : ∃ f : Nat → Value, (∀ t, a.tmps[t]?.getD undef = f t) ∧ a = ⟨#[f 0, f 1, f 2, f 3, f 4, f 5, f 6, f 7, f 8, f 9, f 10, f 11, f 12, f 13, f 14, f 15, f 16, f 17, f 18, f 19, f 20, f 21, f 22, f 23, f 24, f 25, f 26, f 27, f 28, f 29, f 30, f 31, f 32, f 33, f 34, f 35, f 36, f 37], []⟩ := by
  refine ⟨fun t => a.tmps[t]?.getD undef, fun t => rfl, ?_⟩
  obtain ⟨tm, df⟩ := a
  have h' : tm.size = 38 := h
  have hd' : df = [] := hd
  subst hd'
  have e : tm = ((List.range 38).map fun t => tm[t]?.getD undef).toArray := by
    apply Array.ext
    · simpa using h'
    · intro i h1 h2
      simp [h1]
  exact (congrArg (fun x => (⟨x, []⟩ : Act)) (e.trans (lit_38 _)))
end Go.Proofs.YtogmbehomilalaaGreatDoor
end

/- A region whose order is open, up to where the rest is a chain. -/
section
namespace Go.Proofs.YtogmbehomilalaaGreatDoor
open Go Go.RowKit Go.Deep Go.Shelf RW

section
variable {ops : Array Oper} {Q : Exit → Act → World → Prop} {P : Program}
theorem wpAny_head {n1 : Nat} (hn1 : n1 ≤ ops.size) (Inv : Array Bool → Act → World → Prop)
    (form : ∀ listed a w, Inv listed a w → listed.size = ops.size ∧ ∀ i, n1 ≤ i → listed.getD i false = false)
    (late : ∀ listed a w i, Inv listed a w → i ∈ Region.ready .any ops listed → n1 ≤ i → ∀ j, j < n1 → listed.getD j false = true)
    (dag : ∀ (i : Nat) (o : Oper), ops[i]? = some o → ∀ e : Edge, e ∈ o.after → e.on < i)
    (step : ∀ listed a w i, Inv listed a w → i ∈ Region.ready .any ops listed → i < n1 → wpOp P ops Q i (Inv (listed.setIfInBounds i true)) a w)
    (tail : ∀ fuel a w, Inv (firsts ops.size n1) a w → ops.size - n1 ≤ fuel → wpAny P .any ops Q fuel (firsts ops.size n1) a w) :
    ∀ (fuel : Nat) (listed : Array Bool) (a : Act) (w : World), leftOf listed ≤ fuel → Inv listed a w → wpAny P .any ops Q fuel listed a w := by
  intro fuel
  induction fuel with
  | zero =>
    intro listed a w hf hi
    obtain ⟨hs, hl⟩ := form listed a w hi
    by_cases hall : ∀ j, j < n1 → listed.getD j false = true
    · have e := eq_firsts hn1 hs hall hl
      subst e
      exact tail 0 a w hi (by have := leftOf_firsts ops.size n1 hn1; omega)
    · exfalso
      obtain ⟨j, hj⟩ := Classical.not_forall.1 hall
      obtain ⟨hj1, hj2⟩ := Classical.not_imp.1 hj
      have := leftOf_set listed j (by rw [Array.getD, dif_pos (by omega)] at hj2 ⊢; simpa using hj2)
      omega
  | succ fuel ih =>
    intro listed a w hf hi
    obtain ⟨hs, hl⟩ := form listed a w hi
    by_cases hall : ∀ j, j < n1 → listed.getD j false = true
    · have e := eq_firsts hn1 hs hall hl
      subst e
      exact tail (fuel + 1) a w hi (by have := leftOf_firsts ops.size n1 hn1; omega)
    · obtain ⟨j, hj⟩ := Classical.not_forall.1 hall
      obtain ⟨hj1, hj2⟩ := Classical.not_imp.1 hj
      have hj3 : listed.getD j false = false := by simpa using hj2
      refine ⟨fun hr => ?_, fun i hm => ?_⟩
      · obtain ⟨i, _, hi2⟩ := least_ready dag hs (by omega) hj3
        rw [hr] at hi2
        cases hi2
      · have hr := mem_ready hm
        have hin : i < n1 := by
          by_cases hin : i < n1
          · exact hin
          · exfalso
            have := late listed a w i hi hm (by omega) j hj1
            rw [hj3] at this
            cases this
        exact wpOp_mono (fun a' w' h' => ih _ a' w' (by have := leftOf_set listed i hr.2.1; omega) h') (step listed a w i hi hm hin)
/-- Behind n1, each operation waits for the one ahead of it. -/
def chain (ops : Array Oper) (n1 : Nat) : Bool := (List.range ops.size).all fun k => decide (k ≤ n1) || ((ops[k]?).map fun o => o.after.any fun e => e.on == k - 1 && Region.binds .any e).getD false
theorem chain_on {n1 k : Nat} {o : Oper} (hc : chain ops n1 = true) (hk : n1 < k) (ho : ops[k]? = some o) : (o.after.any fun e => e.on == k - 1 && Region.binds .any e) = true := by
  unfold chain at hc
  rw [List.all_eq_true] at hc
  have := hc k (List.mem_range.2 (Array.getElem?_eq_some_iff.1 ho).1)
  rw [ho, Bool.or_eq_true] at this
  rcases this with h | h
  · have := of_decide_eq_true h; omega
  · simpa using h
theorem firsts_set {n k : Nat} (h : k < ops.size) (_hn : n = ops.size) : (firsts ops.size k).setIfInBounds k true = firsts ops.size (k + 1) := by
  apply eq_firsts (by omega)
  · simp [firsts_size ops.size k (by omega)]
  · intro j hj
    rw [set_getD _ _ _ (by rw [firsts_size _ _ (by omega)]; exact h), firsts_getD _ _ _ (by omega)]
    by_cases e : j = k
    · rw [if_pos e]
    · rw [if_neg e]; exact decide_eq_true (by omega)
  · intro j hj
    rw [set_getD _ _ _ (by rw [firsts_size _ _ (by omega)]; exact h), firsts_getD _ _ _ (by omega), if_neg (by omega)]
    exact decide_eq_false (by omega)
theorem wpAny_tail {n1 : Nat} (hc : chain ops n1 = true) (dag : ∀ (i : Nat) (o : Oper), ops[i]? = some o → ∀ e : Edge, e ∈ o.after → e.on < i) :
    ∀ m k, k + m = ops.size → n1 ≤ k → ∀ fuel a w, m ≤ fuel → wpList P ops Q (ops.toList.drop k) a w → wpAny P .any ops Q fuel (firsts ops.size k) a w := by
  intro m
  induction m with
  | zero =>
    intro k hk hn fuel a w _ h
    obtain rfl : k = ops.size := by omega
    have hr : ∀ i, i ∉ Region.ready .any ops (firsts ops.size ops.size) := fun i hi => by
      have h1 := (mem_ready hi).1
      have h2 := (mem_ready hi).2.1
      have h3 := firsts_getD ops.size ops.size i (Nat.le_refl _)
      rw [Array.getD_eq_getD_getElem?] at h2 h3
      rw [decide_eq_true h1] at h3
      cases hx : (firsts ops.size ops.size)[i]? <;> rw [hx] at h2 h3 <;> simp_all
    have hr2 := List.eq_nil_iff_forall_not_mem.2 hr
    rw [← Array.length_toList, List.drop_length] at h
    cases fuel with
    | zero => exact ⟨hr2, h⟩
    | succ fuel => exact ⟨fun _ => h, fun i hi => absurd hi (hr i)⟩
  | succ m ih =>
    intro k hk hn fuel a w hf h
    obtain ⟨fu, rfl⟩ : ∃ fu, fuel = fu + 1 := ⟨fuel - 1, by omega⟩
    have hkl : k < ops.size := by omega
    have hun : (firsts ops.size k).getD k false = false := by rw [firsts_getD _ _ _ (by omega)]; exact decide_eq_false (by omega)
    refine ⟨fun hr => ?_, fun i hi => ?_⟩
    · obtain ⟨i, _, hi2⟩ := least_ready dag (firsts_size _ _ (by omega)) hkl hun
      rw [hr] at hi2
      cases hi2
    · have h1 := (mem_ready hi).1
      have h2 := (mem_ready hi).2.1
      have hik : k ≤ i := by
        have h3 := firsts_getD ops.size k i (by omega)
        by_cases hlt : i < k
        · rw [Array.getD_eq_getD_getElem?] at h2 h3
          rw [decide_eq_true hlt] at h3
          cases hx : (firsts ops.size k)[i]? <;> rw [hx] at h2 h3 <;> simp_all
        · omega
      have hik2 : i = k := by
        rcases Nat.lt_or_ge k i with hlt | hge
        · have h4 := ready_onS hi (Array.getElem?_eq_getElem h1) (chain_on hc (by omega) (Array.getElem?_eq_getElem h1))
          rw [firsts_getD _ _ _ (by omega)] at h4
          have := of_decide_eq_true h4
          omega
        · omega
      subst hik2
      have hd : ops.toList.drop i = ops[i] :: ops.toList.drop (i + 1) := by
        rw [List.drop_eq_getElem_cons (by simpa using hkl)]
        simp
      rw [hd] at h
      unfold wpOp
      rw [Array.getElem?_eq_getElem h1]
      unfold wpList at h
      rw [firsts_set hkl rfl]
      have key := ih (i + 1) (by omega) (by omega) fu
      simp only
      by_cases hw : Region.wanted ops[i] (yielded ops a.tmps) = true
      · rw [if_pos hw] at h ⊢
        exact h.imp (Oper.wp_mono fun a' w' h' => key a' w' (by omega) h') id
      · rw [if_neg hw] at h ⊢
        exact key _ _ (by omega) h
/-- The operations ahead of n1 in any order, by what each leaves in its slot; the others one behind the other. -/
theorem wp_region_TK {id : Nat} {a0 : Act} {w0 : World} {T : Nat → Value → World → Prop} {n1 : Nat} (hm : P.follows .mixedOrders = true) (hn1 : n1 ≤ ops.size) (hc : RW.chk ops n1 = true) (hch : chain ops n1 = true)
    (step : ∀ listed a w i, Held ops a0 w0 T listed a w → i ∈ Region.ready .any ops listed → i < n1 → wpOp P ops Q i (Held ops a0 w0 T (listed.setIfInBounds i true)) a w)
    (tail : ∀ listed a w, Held ops a0 w0 T listed a w → (∀ j, j < n1 → listed.getD j false = true) → wpList P ops Q (ops.toList.drop n1) a w) : (Code.region id ops true).wp P Q a0 w0 := by
  have dag := chk_dag hc
  have late1 : ∀ (listed : Array Bool), CL ops listed → n1 ∈ Region.ready .any ops listed ∨ listed.getD n1 false = true → ∀ j, j < n1 → listed.getD j false = true := by
    unfold RW.chk at hc
    rw [Bool.and_eq_true, Bool.and_eq_true, List.all_eq_true, List.all_eq_true, List.all_eq_true] at hc
    obtain ⟨⟨c1, c2⟩, c3⟩ := hc
    intro listed hcl hm j hj
    have key : ∀ m j, m + j = n1 → 1 ≤ m → listed.getD j false = true := by
      intro m
      induction m using Nat.strongRecOn with
      | _ m ih =>
        intro j hmj hm1
        have hk := c3 j (List.mem_range.2 (by omega))
        rw [List.any_eq_true] at hk
        obtain ⟨k, hk1, hk2⟩ := hk
        rw [Bool.and_eq_true, decide_eq_true_eq] at hk2
        obtain ⟨hk2, hk3⟩ := hk2
        have hk4 := List.mem_range.1 hk1
        cases ho : ops[k]? with
        | none => rw [ho] at hk3; cases hk3
        | some o =>
          rw [ho] at hk3
          by_cases e : k = n1
          · subst e
            rcases hm with hm | hm
            · exact ready_onS hm ho hk3
            · exact hcl.on ho hk3 hm
          · exact hcl.on ho hk3 (ih (n1 - k) (by omega) k (by omega) (by omega))
    exact key (n1 - j) j (by omega) (by omega)
  refine wp_region_any hm (wpAny_head hn1 (fun listed a w => Held ops a0 w0 T listed a w ∧ (∀ i, n1 ≤ i → listed.getD i false = false) ∧ CL ops listed) (fun listed a w h => ⟨h.1.size, h.2.1⟩) (fun listed a w i h hi hni j hj => ?_) dag (fun listed a w i h hi hlt => ?_) (fun fuel a w h hf => ?_) _ _ _ _ ?_ ?_)
  · rcases Nat.lt_or_ge n1 i with hlt | hge
    · exfalso
      have h1 := (mem_ready hi).1
      have h4 := ready_onS hi (Array.getElem?_eq_getElem h1) (chain_on hch hlt (Array.getElem?_eq_getElem h1))
      rw [h.2.1 (i - 1) (by omega)] at h4
      cases h4
    · obtain rfl : i = n1 := by omega
      exact late1 listed h.2.2 (.inl hi) j hj
  · refine wpOp_mono ?_ (step listed a w i h.1 hi hlt)
    intro a' w' H'
    refine ⟨H', fun j hj => ?_, h.2.2.set hi⟩
    rw [set_getD _ _ _ (by rw [h.1.size]; exact (mem_ready hi).1), if_neg (by omega)]
    exact h.2.1 j hj
  · refine wpAny_tail hch dag (ops.size - n1) n1 (by omega) (Nat.le_refl _) fuel a w hf (tail _ a w h.1 fun j hj => ?_)
    rw [firsts_getD _ _ _ hn1]
    exact decide_eq_true hj
  · unfold leftOf
    simp
  · have hf : ∀ j, (Array.replicate ops.size false).getD j false = false := by
      intro j
      rw [Array.getD_eq_getD_getElem?, Array.getElem?_replicate]
      split <;> rfl
    exact ⟨⟨by simp, rfl, rfl, Below.drew (Below.refl _ _), fun _ _ => rfl, fun i o t _ _ hl => by rw [hf] at hl; cases hl⟩, fun i _ => hf i, fun j oj _ hl => by rw [hf] at hl; cases hl⟩
end
end Go.Proofs.YtogmbehomilalaaGreatDoor
end

/- General facts of regions and worlds. -/
section
namespace Go.Proofs.YtogmbehomilalaaGreatDoor
open Go Go.RowKit Go.Deep

theorem bel_nw (W : World) (o : Obj) : Below W.heap.size W (W.alloc o) := (Below.refl _ _).alloc (Nat.le_refl _) _
theorem gr2 {w w1 w2 : World} {b : Nat} (h : w.grownBy w1 (some b)) (h2 : w1.grownBy w2 (some b)) : w.grownBy w2 (some b) :=
  ⟨h2.os.trans h.os, h2.tape.trans h.tape, h2.output.trans h.output, Nat.le_trans h.size h2.size, fun k hk hne => (h2.block k (Nat.lt_of_lt_of_le hk h.size) hne).trans (h.block k hk hne)⟩
theorem Below.by_ {w w' : World} (h : Below w.heap.size w w') : w.grownBy w' none := ⟨h.os, h.tape, h.output, h.size, fun k hk _ => h.block k hk⟩
section
variable {ops : Array Oper} {Q : Exit → Act → World → Prop} {K : Act → World → Prop} {a : Act} {w : World}
theorem Held.dl {a0 : Act} {W0 : World} {T : Nat → Value → World → Prop} {listed : Array Bool} (_H : Held ops a0 W0 T listed a w) {l : List (Option Nat)} (h : ops.toList.map (·.dst) = l) : ops.toList.map (·.dst) = l := h
set_option maxRecDepth 100000 in
theorem op_lsl {o : Oper} {d t b f : Nat} {v : Value} {ty : TypeId} (hty : ty = 35 ∨ ty = 36 ∨ ty = 22 ∨ ty = 23 ∨ ty = 24) (ho : o.op = .load ty (.tmp t)) (hd : o.dst = some d) (hs : slot a t = .pointer (some ⟨b, f, none⟩))
    (hc : w.cell? ⟨b, f, none⟩ = some v) (h : K (putSlot a d v) w) : o.wp Tryz.prog a w K Q := by
  obtain ⟨op, dst, ty', pos, after, guard⟩ := o
  dsimp only at ho hd
  subst ho hd
  have hs' : a.tmps[t]?.getD undef = .pointer (some ⟨b, f, none⟩) := hs
  unfold Oper.wp
  rcases hty with rfl | rfl | rfl | rfl | rfl <;> (go_simp; exact h)
end
end Go.Proofs.YtogmbehomilalaaGreatDoor
end

/- What the laws examine: the sizes of schemas. -/
section
namespace Go.Proofs.YtogmbehomilalaaGreatDoor
open Go Go.RowKit Go.Deep

set_option maxHeartbeats 1000000 in
theorem l_short (s : ByteArray) (hs : s.size ≤ 9223372036854775807) (w : World) : Calls Tryz.prog 19 #[.string s] w fun e w' => e = .returned (.bool (decide (s.size ≤ 40))) ∧ w' = w := by
  have e1 : decide (s.size ≤ 40) = decide ((s.size : Int) ≤ 40) := by
    by_cases h : s.size ≤ 40
    · rw [decide_eq_true h, decide_eq_true (by omega)]
    · rw [decide_eq_false h, decide_eq_false (by omega)]
  rw [e1]
  go_enter Tryz.func19, Tryz.ntmps19
  go_wp2
  go_ret
  exact ⟨rfl, rfl⟩

end Go.Proofs.YtogmbehomilalaaGreatDoor
end

/- What the laws examine: the sizes of schemas with attributes. -/
section
namespace Go.Proofs.YtogmbehomilalaaGreatDoor
open Go Go.RowKit Go.Deep

set_option maxRecDepth 100000 in
set_option maxHeartbeats 4000000 in
/-- schema of dimensions and attributes. -/
theorem l_schema3 (w : World) (A B : Option Addr) (n cap m c2 : Nat) (nm : Nat → ByteArray) (lo hi : Nat → Int) (an : Nat → ByteArray) (ty : Nat → Int) (hd : DimsAt w A n nm lo hi) (ha : AttrsAt w B m an ty) (hs : ∀ k, k < n → (nm k).size ≤ 9223372036854775807) (hs2 : ∀ k, k < m → (an k).size ≤ 9223372036854775807) :
    Calls Tryz.prog 5 #[.slice A n cap, .slice B m c2] w fun e w' => (e = .returned (.bool false) ∨ e = .returned (.bool true) ∧ n ≤ 10 ∧ m ≤ 10) ∧ Below w.heap.size w w' := by
  have HD := Lib.hid hd
  have HA := Lib.hid ha
  have HS := Lib.hid hs
  have HS2 := Lib.hid hs2
  have HL := Lib.hid l_short
  clear hd hs ha hs2
  go_enter Tryz.func5, Tryz.ntmps5
  by_cases h0 : (n : Int) > 10
  · go_wp2
    go_ret
    exact ⟨Or.inl rfl, Below.refl _ _⟩
  · by_cases h1 : (m : Int) > 10
    · go_wp2
      go_ret
      exact ⟨Or.inl rfl, Below.refl _ _⟩
    · go_wp2
      go_loopw [5] (fun i wr => ∃ k : Nat, k ≤ n ∧ i = .int .i64 k ∧ wr = w) (fun i _ => n - (intOf i).toNat)
      case atStart => exact ⟨0, Nat.zero_le _, rfl, rfl⟩
      case round =>
        obtain ⟨k, hk, rfl, hw⟩ := hrel
        have hw := hw.symm
        subst hw
        by_cases hlt : k < n
        · obtain ⟨bd, o, rfl, _, hc⟩ := HD.out (by omega)
          have c0 := (hc k hlt).1
          clear hc
          have HSk := Lib.hid (HL.out (nm k) (HS.out k hlt))
          generalize nm k = s at *
          by_cases h5 : s.size ≤ 40
          · rw [decide_eq_true h5] at HSk
            clear h5
            go_wp2_with fail
            refine (HSk.out _).mono ?_
            rintro e w1 ⟨rfl, rfl⟩
            go_wp2
            go_roundw
            case rel => exact ⟨k + 1, by omega, by go_num, by first | rfl | trivial⟩
            case measure => simp [intOf]; omega
          · rw [decide_eq_false h5] at HSk
            clear h5
            go_wp2_with fail
            refine (HSk.out _).mono ?_
            rintro e w1 ⟨rfl, rfl⟩
            go_wp2
            go_ret
            exact ⟨Or.inl rfl, Below.refl _ _⟩
        · obtain rfl : k = n := by omega
          go_wp2
          go_loopw [6] (fun i wr => ∃ k : Nat, k ≤ m ∧ i = .int .i64 k ∧ wr = w) (fun i _ => m - (intOf i).toNat)
          case atStart => exact ⟨0, Nat.zero_le _, rfl, rfl⟩
          case round =>
            obtain ⟨j, hj, rfl, hw⟩ := hrel
            have hw := hw.symm
            subst hw
            by_cases hlt2 : j < m
            · obtain ⟨bd, o, rfl, _, hc⟩ := HA.out (by omega)
              have c0 := (hc j hlt2).1
              clear hc
              have HSk := Lib.hid (HL.out (an j) (HS2.out j hlt2))
              generalize an j = s at *
              by_cases h5 : s.size ≤ 40
              · rw [decide_eq_true h5] at HSk
                clear h5
                go_wp2_with fail
                refine (HSk.out _).mono ?_
                rintro e w1 ⟨rfl, rfl⟩
                go_wp2
                go_roundw
                case rel => exact ⟨j + 1, by omega, by go_num, by first | rfl | trivial⟩
                case measure => simp [intOf]; omega
              · rw [decide_eq_false h5] at HSk
                clear h5
                go_wp2_with fail
                refine (HSk.out _).mono ?_
                rintro e w1 ⟨rfl, rfl⟩
                go_wp2
                go_ret
                exact ⟨Or.inl rfl, Below.refl _ _⟩
            · obtain rfl : j = m := by omega
              go_wp2
              go_ret
              exact ⟨Or.inr ⟨rfl, by omega, by omega⟩, Below.refl _ _⟩

end Go.Proofs.YtogmbehomilalaaGreatDoor
end

/- The library's Clone at slices of integers, dimensions, attributes and values. -/
import Derived.Test.YthmnmologmmeaaaGreatDoorZCln
import Derived.Deep.OwnRows
import Derived.Test.YthmnmologmmeaaaGreatDoorZTwo
import Derived.Test.YthmnmologmmeaaaGreatDoorZRegT
import Derived.Lib.AppendZeros

/- The library's Clone at slices of integers, dimensions, attributes and values. -/
section
namespace Go.Proofs.YthmnmologmmeaaaGreatDoor
open Go Go.RowKit Go.Deep Go.Shelf

theorem info_clI : (Tryz.prog.info? 3).map (fun i => (i.zero, i.size, i.bytes)) = some (some (.int .i64 0), 1, 8) := by kernel_rfl
set_option maxRecDepth 100000 in
set_option maxHeartbeats 2000000 in
theorem c_CloneI (w : World) (A : Option Addr) (n c : Nat) (f : Nat → Int) (h : IntsAt w A n f) (hn : n ≤ 1000000) :
    Calls Tryz.prog 104 #[.slice A n c] w fun e w' => ∃ P cc, e = .returned (.slice P n cc) ∧ IntsAt w' P n f ∧ Up w.heap.size P ∧ Below w.heap.size w w' := by
  have HR := Lib.hid h.row
  have H0 : Hid (A = none → n = 0) := fun e => by
    rcases Nat.eq_zero_or_pos n with h0 | h0
    · exact h0
    · obtain ⟨b, o, h1, _⟩ := h h0
      rw [e] at h1; cases h1
  clear h
  obtain ⟨i0, hI9, hz0, hz1, hz2⟩ := info_parts info_clI
  have q1 : ∀ (w : World) (a : Option Addr) (n c n' c' : Nat), (binOp .eql 35 (.slice a n c) (.slice none n' c')).run Tryz.prog w = .ok (.bool a.isNone) w := fun w a n c n' c' => Lib.run_eql_slice_nil w _ _ a n c n' c' Tryz.underlying35
  cases A with
  | none =>
    obtain rfl := H0.out rfl
    have HN : Calls Tryz.prog 104 #[.slice none 0 c] w fun e w' => e = .returned (.slice none 0 0) ∧ w' = w := by
      clear HR
      go_enter Tryz.func104, Tryz.ntmps104
      go_wp2
      go_ret
      exact ⟨rfl, rfl⟩
    exact HN.mono fun e w' ⟨h1, h2⟩ => ⟨none, 0, h1, fun h => absurd h (by omega), Up.none _, by rw [h2]; exact Below.refl _ _⟩
  | some ad =>
    clear H0
    go_enter Tryz.func104, Tryz.ntmps104
    go_wp2_with (at_builtin; refine wpList_append_own _ rfl _ _ 35 rfl w.heap.size 3 i0 (.int .i64 0) 1 8 Tryz.underlying35 hI9 hz0 hz1 hz2 rfl (by decide) _ _ _ rfl (World.ownsRow_made w #[] 0 (Nat.le_refl _) (Nat.zero_le _) rfl) ad n c (rowL (intF f) 1 n) rfl ?qc1 ?qc2 ?qc3 ?qc4 ?qc5 ?qc6 ?_)
    case qc1 => rw [rowL_len]
    case qc2 => exact fun j u hj => Lib.cell?_alloc_some _ (HR.out.news (by decide) j u hj)
    case qc3 => exact rowL_one (intF_one f)
    case qc4 => unfold maxLen; omega
    case qc5 => omega
    case qc6 => simp
    intro v' w1 hown hgrow hnil
    go_wp2
    go_ret
    have hown2 : w1.ownsRow w.heap.size 3 1 v' n (rowL (intF f) 1 n) := by simpa using hown
    obtain ⟨P, cc, rfl, h1, h2⟩ := RowAt.own hown2
    exact ⟨P, cc, rfl, h2.ints, h1, ((Below.refl _ w).alloc (Nat.le_refl _) _).grown hgrow (by simp) (by intro k hk; simp [Value.ownBlock] at hk; omega)⟩
theorem info_clD : (Tryz.prog.info? 43).map (fun i => (i.zero, i.size, i.bytes)) = some (some (.agg #[.string ⟨#[]⟩, .int .i64 0, .int .i64 0]), 3, 32) := by kernel_rfl
set_option maxRecDepth 100000 in
set_option maxHeartbeats 2000000 in
theorem c_CloneD (w : World) (A : Option Addr) (n c : Nat) (nm : Nat → ByteArray) (lo hi : Nat → Int) (h : DimsAt w A n nm lo hi) (hn : n ≤ 1000000) :
    Calls Tryz.prog 102 #[.slice A n c] w fun e w' => ∃ P cc, e = .returned (.slice P n cc) ∧ DimsAt w' P n nm lo hi ∧ Up w.heap.size P ∧ Below w.heap.size w w' := by
  have HR := Lib.hid h.row
  have H0 : Hid (A = none → n = 0) := fun e => by
    rcases Nat.eq_zero_or_pos n with h0 | h0
    · exact h0
    · obtain ⟨b, o, h1, _⟩ := h h0
      rw [e] at h1; cases h1
  clear h
  obtain ⟨i0, hI9, hz0, hz1, hz2⟩ := info_parts info_clD
  have q1 : ∀ (w : World) (a : Option Addr) (n c n' c' : Nat), (binOp .eql 22 (.slice a n c) (.slice none n' c')).run Tryz.prog w = .ok (.bool a.isNone) w := fun w a n c n' c' => Lib.run_eql_slice_nil w _ _ a n c n' c' Tryz.underlying22
  cases A with
  | none =>
    obtain rfl := H0.out rfl
    have HN : Calls Tryz.prog 102 #[.slice none 0 c] w fun e w' => e = .returned (.slice none 0 0) ∧ w' = w := by
      clear HR
      go_enter Tryz.func102, Tryz.ntmps102
      go_wp2
      go_ret
      exact ⟨rfl, rfl⟩
    exact HN.mono fun e w' ⟨h1, h2⟩ => ⟨none, 0, h1, fun h => absurd h (by omega), Up.none _, by rw [h2]; exact Below.refl _ _⟩
  | some ad =>
    clear H0
    go_enter Tryz.func102, Tryz.ntmps102
    go_wp2_with (at_builtin; refine wpList_append_own _ rfl _ _ 22 rfl w.heap.size 43 i0 (.agg #[.string ⟨#[]⟩, .int .i64 0, .int .i64 0]) 3 32 Tryz.underlying22 hI9 hz0 hz1 hz2 rfl (by decide) _ _ _ rfl (World.ownsRow_made w #[] 0 (Nat.le_refl _) (Nat.zero_le _) rfl) ad n c (rowL (dimF nm lo hi) 3 n) rfl ?qc1 ?qc2 ?qc3 ?qc4 ?qc5 ?qc6 ?_)
    case qc1 => rw [rowL_len]
    case qc2 => exact fun j u hj => Lib.cell?_alloc_some _ (HR.out.news (by decide) j u hj)
    case qc3 => exact rowL_one (dimF_one nm lo hi)
    case qc4 => unfold maxLen; omega
    case qc5 => omega
    case qc6 => simp
    intro v' w1 hown hgrow hnil
    go_wp2
    go_ret
    have hown2 : w1.ownsRow w.heap.size 43 3 v' n (rowL (dimF nm lo hi) 3 n) := by simpa using hown
    obtain ⟨P, cc, rfl, h1, h2⟩ := RowAt.own hown2
    exact ⟨P, cc, rfl, h2.dims, h1, ((Below.refl _ w).alloc (Nat.le_refl _) _).grown hgrow (by simp) (by intro k hk; simp [Value.ownBlock] at hk; omega)⟩
theorem info_clA : (Tryz.prog.info? 45).map (fun i => (i.zero, i.size, i.bytes)) = some (some (.agg #[.string ⟨#[]⟩, .int .i64 0]), 2, 24) := by kernel_rfl
set_option maxRecDepth 100000 in
set_option maxHeartbeats 2000000 in
theorem c_CloneA (w : World) (A : Option Addr) (n c : Nat) (an : Nat → ByteArray) (ty : Nat → Int) (h : AttrsAt w A n an ty) (hn : n ≤ 1000000) :
    Calls Tryz.prog 103 #[.slice A n c] w fun e w' => ∃ P cc, e = .returned (.slice P n cc) ∧ AttrsAt w' P n an ty ∧ Up w.heap.size P ∧ Below w.heap.size w w' := by
  have HR := Lib.hid h.row
  have H0 : Hid (A = none → n = 0) := fun e => by
    rcases Nat.eq_zero_or_pos n with h0 | h0
    · exact h0
    · obtain ⟨b, o, h1, _⟩ := h h0
      rw [e] at h1; cases h1
  clear h
  obtain ⟨i0, hI9, hz0, hz1, hz2⟩ := info_parts info_clA
  have q1 : ∀ (w : World) (a : Option Addr) (n c n' c' : Nat), (binOp .eql 23 (.slice a n c) (.slice none n' c')).run Tryz.prog w = .ok (.bool a.isNone) w := fun w a n c n' c' => Lib.run_eql_slice_nil w _ _ a n c n' c' Tryz.underlying23
  cases A with
  | none =>
    obtain rfl := H0.out rfl
    have HN : Calls Tryz.prog 103 #[.slice none 0 c] w fun e w' => e = .returned (.slice none 0 0) ∧ w' = w := by
      clear HR
      go_enter Tryz.func103, Tryz.ntmps103
      go_wp2
      go_ret
      exact ⟨rfl, rfl⟩
    exact HN.mono fun e w' ⟨h1, h2⟩ => ⟨none, 0, h1, fun h => absurd h (by omega), Up.none _, by rw [h2]; exact Below.refl _ _⟩
  | some ad =>
    clear H0
    go_enter Tryz.func103, Tryz.ntmps103
    go_wp2_with (at_builtin; refine wpList_append_own _ rfl _ _ 23 rfl w.heap.size 45 i0 (.agg #[.string ⟨#[]⟩, .int .i64 0]) 2 24 Tryz.underlying23 hI9 hz0 hz1 hz2 rfl (by decide) _ _ _ rfl (World.ownsRow_made w #[] 0 (Nat.le_refl _) (Nat.zero_le _) rfl) ad n c (rowL (attF an ty) 2 n) rfl ?qc1 ?qc2 ?qc3 ?qc4 ?qc5 ?qc6 ?_)
    case qc1 => rw [rowL_len]
    case qc2 => exact fun j u hj => Lib.cell?_alloc_some _ (HR.out.news (by decide) j u hj)
    case qc3 => exact rowL_one (attF_one an ty)
    case qc4 => unfold maxLen; omega
    case qc5 => omega
    case qc6 => simp
    intro v' w1 hown hgrow hnil
    go_wp2
    go_ret
    have hown2 : w1.ownsRow w.heap.size 45 2 v' n (rowL (attF an ty) 2 n) := by simpa using hown
    obtain ⟨P, cc, rfl, h1, h2⟩ := RowAt.own hown2
    exact ⟨P, cc, rfl, h2.attrs, h1, ((Below.refl _ w).alloc (Nat.le_refl _) _).grown hgrow (by simp) (by intro k hk; simp [Value.ownBlock] at hk; omega)⟩
theorem info_clV : (Tryz.prog.info? 40).map (fun i => (i.zero, i.size, i.bytes)) = some (some (.agg #[.int .i64 0, .int .i64 0, .int .i64 0, .string ⟨#[]⟩]), 4, 40) := by kernel_rfl
set_option maxRecDepth 100000 in
set_option maxHeartbeats 2000000 in
theorem c_CloneV (w : World) (A : Option Addr) (n c : Nat) (vk vn vd : Nat → Int) (vs : Nat → ByteArray) (h : ValsAt w A n vk vn vd vs) (hn : n ≤ 1000000) :
    Calls Tryz.prog 105 #[.slice A n c] w fun e w' => ∃ P cc, e = .returned (.slice P n cc) ∧ ValsAt w' P n vk vn vd vs ∧ Up w.heap.size P ∧ Below w.heap.size w w' := by
  have HR := Lib.hid h.row
  have H0 : Hid (A = none → n = 0) := fun e => by
    rcases Nat.eq_zero_or_pos n with h0 | h0
    · exact h0
    · obtain ⟨b, o, h1, _⟩ := h h0
      rw [e] at h1; cases h1
  clear h
  obtain ⟨i0, hI9, hz0, hz1, hz2⟩ := info_parts info_clV
  have q1 : ∀ (w : World) (a : Option Addr) (n c n' c' : Nat), (binOp .eql 36 (.slice a n c) (.slice none n' c')).run Tryz.prog w = .ok (.bool a.isNone) w := fun w a n c n' c' => Lib.run_eql_slice_nil w _ _ a n c n' c' Tryz.underlying36
  cases A with
  | none =>
    obtain rfl := H0.out rfl
    have HN : Calls Tryz.prog 105 #[.slice none 0 c] w fun e w' => e = .returned (.slice none 0 0) ∧ w' = w := by
      clear HR
      go_enter Tryz.func105, Tryz.ntmps105
      go_wp2
      go_ret
      exact ⟨rfl, rfl⟩
    exact HN.mono fun e w' ⟨h1, h2⟩ => ⟨none, 0, h1, fun h => absurd h (by omega), Up.none _, by rw [h2]; exact Below.refl _ _⟩
  | some ad =>
    clear H0
    go_enter Tryz.func105, Tryz.ntmps105
    go_wp2_with (at_builtin; refine wpList_append_own _ rfl _ _ 36 rfl w.heap.size 40 i0 (.agg #[.int .i64 0, .int .i64 0, .int .i64 0, .string ⟨#[]⟩]) 4 40 Tryz.underlying36 hI9 hz0 hz1 hz2 rfl (by decide) _ _ _ rfl (World.ownsRow_made w #[] 0 (Nat.le_refl _) (Nat.zero_le _) rfl) ad n c (rowL (valF4 vk vn vd vs) 4 n) rfl ?qc1 ?qc2 ?qc3 ?qc4 ?qc5 ?qc6 ?_)
    case qc1 => rw [rowL_len]
    case qc2 => exact fun j u hj => Lib.cell?_alloc_some _ (HR.out.news (by decide) j u hj)
    case qc3 => exact rowL_one (valF4_one vk vn vd vs)
    case qc4 => unfold maxLen; omega
    case qc5 => omega
    case qc6 => simp
    intro v' w1 hown hgrow hnil
    go_wp2
    go_ret
    have hown2 : w1.ownsRow w.heap.size 40 4 v' n (rowL (valF4 vk vn vd vs) 4 n) := by simpa using hown
    obtain ⟨P, cc, rfl, h1, h2⟩ := RowAt.own hown2
    exact ⟨P, cc, rfl, h2.vals, h1, ((Below.refl _ w).alloc (Nat.le_refl _) _).grown hgrow (by simp) (by intro k hk; simp [Value.ownBlock] at hk; omega)⟩
end Go.Proofs.YthmnmologmmeaaaGreatDoor
end

/- A list of integers appended to one of the walk's own; lists of lists that grow. -/
section
namespace Go.Proofs.YthmnmologmmeaaaGreatDoor
open Go Go.RowKit Go.Deep

theorem run_app_zero (w : World) (ty : TypeId) (ad : Addr) (n c : Nat) (hn : n ≤ c) : (Builtin.append_ #[35, 35] ty #[.slice (some ad) n c, .slice none 0 0]).run Tryz.prog w = .ok (.slice (some ad) n c) w := by
  obtain ⟨i, hi, _, _, _⟩ := info_parts info_int
  have ht : Tryz.prog.underlying 35 = some (.slice 3) := Tryz.underlying35
  have hu : Tryz.prog.underlying 3 = some (.int .i64) := Tryz.underlying3
  simp [Builtin.append_, run_underlying ht, sizeOf, typeInfo, hi, Builtin.lenOf, Builtin.firstCells, storeCells, hn]
/-- Two lists behind one another. -/
def catZ (n : Nat) (f g : Nat → Int) (j : Nat) : Int := if j < n then f j else g (j - n)
theorem rowL_intK {f : Nat → Int} {n k : Nat} (hk : k < n) : (rowL (intF f) 1 n)[k]? = some (.int .i64 (f k)) := by
  simp [rowL, hk, intF]
theorem IntsAt.congrK {w : World} {A : Option Addr} {n : Nat} {f g : Nat → Int} (h : IntsAt w A n f) (hfg : ∀ k, k < n → f k = g k) : IntsAt w A n g := fun hn => by
  obtain ⟨b, o, e, u, c⟩ := h hn
  exact ⟨b, o, e, u, fun k hk => by rw [← hfg k hk]; exact c k hk⟩
/-- What becomes of a list of the walk's own to which another one is appended. -/
theorem run_appK (w : World) (ty : TypeId) (B : Nat) (ad : Addr) (n c : Nat) (f g : Nat → Int) (hown : OwnI w B (.slice (some ad) n c) n f) (hc : n ≤ c) (A : Option Addr) (m d : Nat) (hA : m = 0 → A = none ∧ d = 0) (hi : IntsAt w A m g) (hn : n ≤ 1000000) (hm : m ≤ 1000000) (hB : B ≤ w.heap.size) :
    ∃ v' w', (Builtin.append_ #[35, 35] ty #[.slice (some ad) n c, .slice A m d]).run Tryz.prog w = .ok v' w' ∧ OwnI w' B v' (n + m) (catZ n f g) ∧ w.grownBy w' (some ad.block) ∧ (v'.ownBlock = some ad.block ∨ v'.ownBlock = some w.heap.size) := by
  by_cases h0 : m = 0
  · subst h0
    obtain ⟨rfl, rfl⟩ := hA rfl
    refine ⟨_, w, run_app_zero w ty ad n c hc, ?_, ⟨rfl, rfl, rfl, Nat.le_refl _, fun _ _ _ => rfl⟩, .inl rfl⟩
    exact hown.congr fun j hj => (if_pos (by omega)).symm
  · obtain ⟨i, hI9, hz0, hz1, hz2⟩ := info_parts info_clI
    obtain ⟨b', o, rfl, _, _⟩ := hi (by omega)
    have hnews := hi.row.news (by decide)
    obtain ⟨xs, h1, h2⟩ := hown
    obtain ⟨v', w', hr, g1, g2, _, g4⟩ := run_append_own_at (P := Tryz.prog) w B 35 ty 3 i (.int .i64 0) 1 8 Tryz.underlying35 hI9 hz0 hz1 hz2 rfl (by decide) _ n xs h1 ⟨b', o, none⟩ m d (rowL (intF g) 1 m) (rowL_len _ _ _) hnews (rowL_one (intF_one g)) (by unfold maxLen; omega) (by omega) hB
    refine ⟨v', w', hr, ⟨_, g1, fun k hk => ?_⟩, g2, g4⟩
    have hl : xs.length = n := by rw [h1.1, Nat.mul_one]
    unfold catZ
    by_cases e : k < n
    · rw [if_pos e, List.getElem?_append_left (by omega)]
      exact h2 k e
    · rw [if_neg e, List.getElem?_append_right (by omega), hl]
      exact rowL_intK (by omega)
/-- The slice v is the walk's own, from block B on, and holds n lists of integers, none of which lies in its block. -/
def OwnL (w : World) (B : Nat) (v : Value) (n : Nat) (ln : Nat → Nat) (f : Nat → Nat → Int) : Prop := ∃ xs, w.ownsRow B 35 1 v n xs ∧ ∀ k, k < n → ∃ P c, xs[k]? = some (.slice P (ln k) c) ∧ IntsAt w P (ln k) (f k) ∧ (ln k = 0 → P = none ∧ c = 0) ∧ ln k ≤ 1000000 ∧ ∀ a, P = some a → a.block < w.heap.size ∧ v.ownBlock ≠ some a.block
theorem OwnL.nil (w : World) (B : Nat) (ln : Nat → Nat) (f : Nat → Nat → Int) : OwnL w B (.slice none 0 0) 0 ln f := ⟨[], ⟨rfl, .inl ⟨rfl, rfl⟩⟩, fun k hk => absurd hk (by omega)⟩
theorem OwnL.sl {w : World} {B n : Nat} {v : Value} {ln : Nat → Nat} {f : Nat → Nat → Int} (h : OwnL w B v n ln f) : ∃ P c, v = .slice P n c := by
  obtain ⟨xs, ⟨hl, h1⟩, h2⟩ := h
  rcases h1 with ⟨rfl, rfl⟩ | ⟨g, cap, cur, rfl, _, hh, hcap, _, hs, ht⟩
  · exact ⟨none, 0, rfl⟩
  · exact ⟨_, _, rfl⟩
/-- The lists, one by one. -/
theorem OwnL.reads {w : World} {B n c : Nat} {A : Option Addr} {ln : Nat → Nat} {f : Nat → Nat → Int} (h : OwnL w B (.slice A n c) n ln f) (hn : 0 < n) : ∃ b, A = some ⟨b, 0, none⟩ ∧ B ≤ b ∧ b < w.heap.size ∧ ∀ k, k < n → ∃ P c, w.cell? ⟨b, k, none⟩ = some (.slice P (ln k) c) ∧ IntsAt w P (ln k) (f k) ∧ (ln k = 0 → P = none ∧ c = 0) ∧ ln k ≤ 1000000 ∧ ∀ a, P = some a → a.block < w.heap.size ∧ b ≠ a.block := by
  obtain ⟨xs, ⟨hl, h1⟩, h2⟩ := h
  rcases h1 with ⟨e, rfl⟩ | ⟨g, cap, cur, e, hB, hh, hcap, _, hs, ht⟩
  · injection e with _ e
    omega
  · injection e with e1 e2 e3
    subst e1 e3
    refine ⟨g, rfl, hB, (Array.getElem?_eq_some_iff.1 hh).1, fun k hk => ?_⟩
    obtain ⟨P, c9, e1, e2, e3, e4, e5⟩ := h2 k hk
    refine ⟨P, c9, ?_, e2, e3, e4, fun a ha => ⟨(e5 a ha).1, fun h9 => (e5 a ha).2 (by rw [h9]; rfl)⟩⟩
    rw [Nat.mul_one] at ht
    have h3 : cur.toList[k]? = some (.slice P (ln k) c9) := by
      rw [← List.getElem?_take_of_lt hk, ht]
      exact e1
    rw [Array.getElem?_toList] at h3
    simp [World.cell?, hh, h3]
theorem OwnL.lists {w : World} {B n c : Nat} {A : Option Addr} {ln : Nat → Nat} {f : Nat → Nat → Int} (h : OwnL w B (.slice A n c) n ln f) : ListsAt w A n ln f := fun hn => by
  obtain ⟨b, rfl, _, h1, h2⟩ := h.reads hn
  refine ⟨b, 0, rfl, h1, fun k hk => ?_⟩
  obtain ⟨P, c9, e1, e2, _, e4, _⟩ := h2 k hk
  exact ⟨P, c9, by rw [Nat.zero_add]; exact e1, e2, e4⟩
theorem OwnL.below {w w' : World} {B n : Nat} {v : Value} {ln : Nat → Nat} {f : Nat → Nat → Int} (h : OwnL w B v n ln f) (hb : Below w.heap.size w w') : OwnL w' B v n ln f := by
  obtain ⟨xs, h1, h2⟩ := h
  refine ⟨xs, ?_, fun k hk => ?_⟩
  · refine ⟨h1.1, ?_⟩
    rcases h1.2 with e | ⟨g, cap, cur, e, hB, hh, hr⟩
    · exact .inl e
    · exact .inr ⟨g, cap, cur, e, hB, (hb.block g (Array.getElem?_eq_some_iff.1 hh).1).trans hh, hr⟩
  · obtain ⟨P, c, e1, e2, e3, e4, e5⟩ := h2 k hk
    exact ⟨P, c, e1, e2.below hb, e3, e4, fun a ha => ⟨Nat.lt_of_lt_of_le (e5 a ha).1 hb.size, (e5 a ha).2⟩⟩
theorem OwnL.block {w : World} {B n : Nat} {v : Value} {ln : Nat → Nat} {f : Nat → Nat → Int} (h : OwnL w B v n ln f) {g : Nat} (hg : v.ownBlock = some g) : B ≤ g ∧ g < w.heap.size := by
  obtain ⟨xs, h1, _⟩ := h
  obtain ⟨a, cs, b⟩ := own_lt h1 g hg
  exact ⟨a, (Array.getElem?_eq_some_iff.1 b).1⟩
theorem OwnL.congr {w : World} {B n : Nat} {v : Value} {ln ln' : Nat → Nat} {f f' : Nat → Nat → Int} (h : OwnL w B v n ln f) (hl : ∀ k, k < n → ln k = ln' k) (hf : ∀ k, k < n → ∀ j, j < ln k → f k j = f' k j) : OwnL w B v n ln' f' := by
  obtain ⟨xs, h1, h2⟩ := h
  refine ⟨xs, h1, fun k hk => ?_⟩
  obtain ⟨P, c, e1, e2, e3, e4, e5⟩ := h2 k hk
  rw [← hl k hk]
  exact ⟨P, c, e1, e2.congrK (hf k hk), e3, e4, e5⟩
theorem info_intL : (Tryz.prog.info? 35).map (fun i => (i.zero, i.size, i.bytes)) = some (some (.slice none 0 0), 1, 24) := by kernel_rfl
def updNN (f : Nat → Nat) (k v j : Nat) : Nat := if j = k then v else f j
def updLL (f : Nat → Nat → Int) (k : Nat) (v : Nat → Int) (j : Nat) : Nat → Int := if j = k then v else f j
/-- One list more, behind a literal of one list. -/
theorem run_appL (w : World) (ty : TypeId) (B : Nat) (v : Value) (n : Nat) (ln : Nat → Nat) (f : Nat → Nat → Int) (hown : OwnL w B v n ln f) (b : Nat) (P : Option Addr) (m d : Nat) (g : Nat → Int) (hb : w.heap[b]? = some (.cells #[.slice P m d] 35 (0, 0))) (hi : IntsAt w P m g) (h0 : m = 0 → P = none ∧ d = 0) (hm : m ≤ 1000000) (hP : ∀ a, P = some a → a.block < w.heap.size ∧ v.ownBlock ≠ some a.block) (hn : n ≤ 1000000) (hB : B ≤ w.heap.size) :
    ∃ v' w', (Builtin.append_ #[60, 60] ty #[v, .slice (some ⟨b, 0, none⟩) 1 1]).run Tryz.prog w = .ok v' w' ∧ OwnL w' B v' (n + 1) (updNN ln n m) (updLL f n g) ∧ w.grownBy w' v.ownBlock ∧ (v'.ownBlock = v.ownBlock ∨ v'.ownBlock = some w.heap.size) := by
  obtain ⟨i, hI9, hz0, hz1, hz2⟩ := info_parts info_intL
  obtain ⟨xs, h1, h2⟩ := hown
  have hnews : ∀ j u, [Value.slice P m d][j]? = some u → w.cell? ((⟨b, 0, none⟩ : Addr).add j) = some u := by
    intro j u hj
    match j, hj with
    | 0, hj =>
      simp at hj
      subst hj
      simp [Addr.add, World.cell?, hb]
  obtain ⟨v', w', hr, g1, g2, _, g4⟩ := run_append_own_at (P := Tryz.prog) w B 60 ty 35 i (.slice none 0 0) 1 24 Tryz.underlying60 hI9 hz0 hz1 hz2 rfl (by decide) v n xs h1 ⟨b, 0, none⟩ 1 1 [.slice P m d] rfl hnews (fun u hu => by
    have h9 : u = .slice P m d := by simpa using hu
    subst h9; rfl) (by unfold maxLen; omega) (by omega) hB
  have far : ∀ Q : Option Addr, (∀ a, Q = some a → a.block < w.heap.size ∧ v.ownBlock ≠ some a.block) → ∀ a, Q = some a → a.block < w'.heap.size ∧ v'.ownBlock ≠ some a.block := fun Q hQ a ha => by
    obtain ⟨q1, q2⟩ := hQ a ha
    refine ⟨Nat.lt_of_lt_of_le q1 g2.size, fun h9 => ?_⟩
    rcases g4 with e | e
    · exact q2 (e ▸ h9)
    · rw [e] at h9
      injection h9 with h9
      omega
  have keep : ∀ (Q : Option Addr) (k : Nat) (h : Nat → Int), IntsAt w Q k h → (∀ a, Q = some a → a.block < w.heap.size ∧ v.ownBlock ≠ some a.block) → IntsAt w' Q k h := fun Q k h hQ hf hk => by
    obtain ⟨b9, o9, rfl, u1, u2⟩ := hQ hk
    obtain ⟨q1, q2⟩ := hf _ rfl
    refine ⟨b9, o9, rfl, Nat.lt_of_lt_of_le u1 g2.size, fun j hj => ?_⟩
    rw [cell_blk (g2.block b9 u1 (fun h9 => q2 h9.symm))]
    exact u2 j hj
  refine ⟨v', w', hr, ⟨_, g1, fun k hk => ?_⟩, g2, g4⟩
  have hl : xs.length = n := by rw [h1.1, Nat.mul_one]
  by_cases e : k = n
  · subst e
    have e1 : updNN ln k m k = m := if_pos rfl
    have e2 : updLL f k g k = g := if_pos rfl
    rw [e1, e2]
    refine ⟨P, d, ?_, keep _ _ _ hi hP, h0, hm, far _ hP⟩
    rw [List.getElem?_append_right (by omega), hl, Nat.sub_self]
    rfl
  · obtain ⟨P9, c9, e1, e2, e3, e4, e5⟩ := h2 k (by omega)
    have f1 : updNN ln n m k = ln k := if_neg e
    have f2 : updLL f n g k = f k := if_neg e
    rw [f1, f2]
    refine ⟨P9, c9, ?_, keep _ _ _ e2 e5, e3, e4, far _ e5⟩
    rw [List.getElem?_append_left (by omega)]
    exact e1
end Go.Proofs.YthmnmologmmeaaaGreatDoor
end

/- More operations of a region. -/
section
namespace Go.Proofs.YthmnmologmmeaaaGreatDoor
open Go Go.RowKit Go.Deep

section
variable {ops : Array Oper} {Q : Exit → Act → World → Prop} {K : Act → World → Prop} {a : Act} {w : World}
set_option maxRecDepth 100000 in
theorem op_adC {o : Oper} {d t t2 : Nat} {x y : Int} (ho : o.op = .binOp .add 3 (.tmp t) (.tmp t2) 3) (hd : o.dst = some d) (hs : slot a t = .int .i64 x) (hs2 : slot a t2 = .int .i64 y) (hx : -9223372036854775808 ≤ x + y ∧ x + y ≤ 9223372036854775807) (h : K (putSlot a d (.int .i64 (x + y))) w) : o.wp Tryz.prog a w K Q := by
  obtain ⟨op, dst, ty, pos, after, guard⟩ := o
  dsimp only at ho hd
  subst ho hd
  have hs' : a.tmps[t]?.getD undef = .int .i64 x := hs
  have hs2' : a.tmps[t2]?.getD undef = .int .i64 y := hs2
  have hw : IntKind.i64.wrap (x + y) = x + y := w64 (by omega) (by omega)
  unfold Oper.wp
  go_simp
  exact h
set_option maxRecDepth 100000 in
theorem op_s1C {o : Oper} {d t : Nat} {x : Int} (ho : o.op = .binOp .sub 3 (.tmp t) (.const (.int .i64 1)) 3) (hd : o.dst = some d) (hs : slot a t = .int .i64 x) (hx : -9223372036854775808 ≤ x - 1 ∧ x - 1 ≤ 9223372036854775807) (h : K (putSlot a d (.int .i64 (x - 1))) w) : o.wp Tryz.prog a w K Q := by
  obtain ⟨op, dst, ty, pos, after, guard⟩ := o
  dsimp only at ho hd
  subst ho hd
  have hs' : a.tmps[t]?.getD undef = .int .i64 x := hs
  have hw : IntKind.i64.wrap (x - 1) = x - 1 := w64 (by omega) (by omega)
  unfold Oper.wp
  go_simp
  exact h
set_option maxRecDepth 100000 in
theorem op_ldD {o : Oper} {d t b off : Nat} {s : ByteArray} {x y : Int} (ho : o.op = .load 43 (.tmp t)) (hd : o.dst = some d) (hs : slot a t = .pointer (some ⟨b, off, none⟩)) (hc : w.cell? ⟨b, off, none⟩ = some (.string s)) (hc1 : w.cell? ⟨b, off + 1, none⟩ = some (.int .i64 x)) (hc2 : w.cell? ⟨b, off + 2, none⟩ = some (.int .i64 y)) (h : K (putSlot a d (DimV s x y)) w) : o.wp Tryz.prog a w K Q := by
  obtain ⟨op, dst, ty, pos, after, guard⟩ := o
  dsimp only at ho hd
  subst ho hd
  have hs' : a.tmps[t]?.getD undef = .pointer (some ⟨b, off, none⟩) := hs
  unfold Oper.wp
  go_simp
  exact h
set_option maxRecDepth 100000 in
theorem op_mn {o : Oper} {d t t2 : Nat} {x y : Int} (ho : o.op = .call { callee := .builtin .min, args := #[.tmp t, .tmp t2], argTypes := #[3, 3] }) (hd : o.dst = some d) (hs : slot a t = .int .i64 x) (hs2 : slot a t2 = .int .i64 y) (h : K (putSlot a d (.int .i64 (min x y))) w) : o.wp Tryz.prog a w K Q := by
  obtain ⟨op, dst, ty, pos, after, guard⟩ := o
  dsimp only at ho hd
  subst ho hd
  have hs' : a.tmps[t]?.getD undef = .int .i64 x := hs
  have hs2' : a.tmps[t2]?.getD undef = .int .i64 y := hs2
  unfold Oper.wp
  go_simp
  exact h
set_option maxRecDepth 100000 in
theorem op_ixL {o : Oper} {d t i b off n c k : Nat} (ho : o.op = .indexAddr 60 (.tmp t) (.tmp i)) (hd : o.dst = some d) (hs : slot a t = .slice (some ⟨b, off, none⟩) n c) (hi : slot a i = .int .i64 (k : Int)) (hk : k < n) (h : K (putSlot a d (.pointer (some ⟨b, off + k, none⟩))) w) : o.wp Tryz.prog a w K Q := by
  obtain ⟨op, dst, ty, pos, after, guard⟩ := o
  dsimp only at ho hd
  subst ho hd
  have hs' : a.tmps[t]?.getD undef = .slice (some ⟨b, off, none⟩) n c := hs
  have hi' : a.tmps[i]?.getD undef = .int .i64 (k : Int) := hi
  have h0 : (0 : Int) ≤ (k : Int) := by omega
  have h1 : (k : Int) < (n : Int) := by omega
  unfold Oper.wp
  go_simp
  exact h
set_option maxRecDepth 100000 in
theorem op_bsL {o : Oper} {d t : Nat} {P : Option Addr} {n c : Nat} (ho : o.op = .buildSlice 60 1 #[(0, .tmp t)]) (hd : o.dst = some d) (hs : slot a t = .slice P n c) (h : K (putSlot a d (.slice (some ⟨w.heap.size, 0, none⟩) 1 1)) (w.alloc (.cells #[.slice P n c] 35))) : o.wp Tryz.prog a w K Q := by
  obtain ⟨op, dst, ty, pos, after, guard⟩ := o
  dsimp only at ho hd
  subst ho hd
  have hs' : a.tmps[t]?.getD undef = .slice P n c := hs
  unfold Oper.wp
  go_simp
  exact h
end
/-- A list of integers in a block from B on. -/
def LstK (f : Nat → Int) (n B : Nat) : Value → World → Prop := fun v W => ∃ P c, v = .slice P n c ∧ IntsAt W P n f ∧ ∀ a, P = some a → B ≤ a.block ∧ a.block < W.heap.size
theorem lstK_mono (f : Nat → Int) (n B : Nat) : Mono (LstK f n B) := by
  rintro v w w' ⟨P, c, h1, h2, h3⟩ hb
  exact ⟨P, c, h1, h2.below hb, fun a ha => ⟨(h3 a ha).1, Nat.lt_of_lt_of_le (h3 a ha).2 hb.size⟩⟩
/-- A literal of one such list. -/
def OneK (f : Nat → Int) (n B : Nat) : Value → World → Prop := fun v W => ∃ b P c, v = .slice (some ⟨b, 0, none⟩) 1 1 ∧ B ≤ b ∧ W.heap[b]? = some (.cells #[.slice P n c] 35 (0, 0)) ∧ IntsAt W P n f ∧ ∀ a, P = some a → B ≤ a.block ∧ a.block < W.heap.size
theorem oneK_mono (f : Nat → Int) (n B : Nat) : Mono (OneK f n B) := by
  rintro v w w' ⟨b, P, c, h1, h2, h3, h4, h5⟩ hb
  exact ⟨b, P, c, h1, h2, (hb.block b (Array.getElem?_eq_some_iff.1 h3).1).trans h3, h4.below hb, fun a ha => ⟨(h5 a ha).1, Nat.lt_of_lt_of_le (h5 a ha).2 hb.size⟩⟩
/-- A literal of one integer, and a list behind it. -/
theorem run_app1 {w : World} (ty : TypeId) {b : Nat} {x : Int} (hb : w.heap[b]? = some (.cells #[.int .i64 x] 3 (0, 0)))
    (A : Option Addr) (m c : Nat) (f : Nat → Int) (hi : IntsAt w A m f) (hm : m ≤ 1000000) (h0 : m = 0 → A = none ∧ c = 0) :
    ∃ P c' w', (Builtin.append_ #[35, 35] ty #[.slice (some ⟨b, 0, none⟩) 1 1, .slice A m c]).run Tryz.prog w = .ok (.slice P (m + 1) c') w' ∧ IntsAt w' P (m + 1) (catZ 1 (fun _ => x) f) ∧ (∀ a, P = some a → (a.block = b ∨ w.heap.size ≤ a.block) ∧ a.block < w'.heap.size) ∧ Below w.heap.size w w' := by
  have hbl : b < w.heap.size := (Array.getElem?_eq_some_iff.1 hb).1
  have own0 : OwnI w 0 (.slice (some ⟨b, 0, none⟩) 1 1) 1 (fun _ => x) := ⟨[.int .i64 x], ⟨by simp, .inr ⟨b, 1, #[.int .i64 x], rfl, Nat.zero_le _, hb, Nat.le_refl _, by unfold maxLen; omega, by simp, by simp⟩⟩, fun k hk => by
    obtain rfl : k = 0 := by omega
    rfl⟩
  obtain ⟨v', w', hr, h2, h3, h4⟩ := run_appK w ty 0 ⟨b, 0, none⟩ 1 1 (fun _ => x) f own0 (Nat.le_refl _) A m c h0 hi (by omega) hm (Nat.zero_le _)
  obtain ⟨P, c', hv, h5⟩ := h2.ints
  rw [Nat.add_comm 1 m] at hv h5
  subst hv
  have hblk : ∀ a, P = some a → (a.block = b ∨ w.heap.size ≤ a.block) ∧ a.block < w'.heap.size := fun a ha => by
    subst ha
    have e1 : (Value.slice (some a) (m + 1) c').ownBlock = some a.block := rfl
    rw [e1] at h4
    obtain ⟨_, u2⟩ := h2.block (g := a.block) rfl
    refine ⟨?_, u2⟩
    rcases h4 with e | e <;> injection e with e
    · exact .inl e
    · exact .inr (by omega)
  by_cases hm0 : m = 0
  · subst hm0
    obtain ⟨rfl, rfl⟩ := h0 rfl
    have hr2 := run_app_zero w ty ⟨b, 0, none⟩ 1 1 (Nat.le_refl _)
    rw [hr] at hr2
    injection hr2 with e1 e2
    subst e2
    exact ⟨P, c', _, hr, h5, hblk, Below.refl _ _⟩
  · obtain ⟨i, hI9, hz0, hz1, hz2⟩ := info_parts info_clI
    obtain ⟨b', o, rfl, _, _⟩ := hi (by omega)
    have hnews := hi.row.news (by decide)
    have hr2 := run_append_grow (P := Tryz.prog) w 35 ty 3 i (.int .i64 0) Tryz.underlying35 hI9 hz0 ⟨b, 0, none⟩ 1 1 [.int .i64 x] (by rw [hz1]; rfl) (by
      intro j u h
      match j, h with
      | 0, h =>
        simp at h
        subst h
        simp [Addr.add, World.cell?, hb]) ⟨b', o, none⟩ m c (rowL (intF f) 1 m) (by rw [hz1]; exact rowL_len _ _ _) hnews (by omega) (by omega) (growslice_fits (by omega) (by rw [hz2]; omega))
    rw [hr] at hr2
    injection hr2 with e1 e2
    refine ⟨P, c', w', hr, h5, hblk, ?_⟩
    rw [e2]
    exact (Below.drew (Below.refl _ _)).alloc (by simp) _
section
variable {ops : Array Oper} {Q : Exit → Act → World → Prop} {K : Act → World → Prop} {a : Act} {w : World}
theorem op_ap1 {o : Oper} {d s x : Nat} (ho : o.op = .call { callee := .builtin .append, args := #[.tmp s, .tmp x], argTypes := #[35, 35] }) (hd : o.dst = some d)
    {b : Nat} {z : Int} {B : Nat} (hb : w.heap[b]? = some (.cells #[.int .i64 z] 3 (0, 0))) (hB : B ≤ b) (hB2 : B ≤ w.heap.size) (hs : slot a s = .slice (some ⟨b, 0, none⟩) 1 1) {A : Option Addr} {m c : Nat} {f : Nat → Int} (hx : slot a x = .slice A m c) (hi : IntsAt w A m f) (hm : m ≤ 1000000) (h0 : m = 0 → A = none ∧ c = 0)
    (h : ∀ v' w', LstK (catZ 1 (fun _ => z) f) (m + 1) B v' w' → Below w.heap.size w w' → K (putSlot a d v') w') : o.wp Tryz.prog a w K Q := by
  obtain ⟨P, c', w', hr, u1, u2, u3⟩ := run_app1 (w := w) o.type hb A m c f hi hm h0
  refine Lib.wp_append_run w (.tmp s) (.tmp x) 35 35 ho _ _ (by rw [← hs]; simp [Act.eval, slot]) (by rw [← hx]; simp [Act.eval, slot]) _ w' hr ?_
  rw [hd]
  exact h _ w' ⟨P, c', rfl, u1, fun a ha => ⟨by rcases (u2 a ha).1 with e | e <;> omega, (u2 a ha).2⟩⟩ u3
end
/-- One list more, in the walk. -/
theorem wpList_appL {ops : Array Oper} {rest : List Oper} {o : Oper} {a : Act} {Q : Exit → Act → World → Prop} (hgd : o.guard = none) (s x : Operand)
    (ho : o.op = .call { callee := .builtin .append, args := #[s, x], argTypes := #[60, 60] })
    (w : World) (B : Nat) (v : Value) (n : Nat) (ln : Nat → Nat) (f : Nat → Nat → Int) (hs : a.eval s = v) (hown : OwnL w B v n ln f) (b : Nat) (hx : a.eval x = .slice (some ⟨b, 0, none⟩) 1 1) (P : Option Addr) (m d : Nat) (g : Nat → Int) (hb : w.heap[b]? = some (.cells #[.slice P m d] 35 (0, 0))) (hi : IntsAt w P m g) (h0 : m = 0 → P = none ∧ d = 0) (hm : m ≤ 1000000) (hP : ∀ a, P = some a → a.block < w.heap.size ∧ v.ownBlock ≠ some a.block) (hn : n ≤ 1000000) (hB : B ≤ w.heap.size)
    (h : ∀ v' w', OwnL w' B v' (n + 1) (updNN ln n m) (updLL f n g) → w.grownBy w' v.ownBlock → (v'.ownBlock = v.ownBlock ∨ v'.ownBlock = some w.heap.size) → wpList Tryz.prog ops Q rest (a.put o.dst v') w') : wpList Tryz.prog ops Q (o :: rest) a w := by
  obtain ⟨v', w', hr, h2, h3, h4⟩ := run_appL w o.type B v n ln f hown b P m d g hb hi h0 hm hP hn hB
  exact Lib.wpList_append_run w hgd s x _ _ ho v _ hs hx v' w' hr (h v' w' h2 h3 h4)
end Go.Proofs.YthmnmologmmeaaaGreatDoor
end

/- The library's Clone at slices of integers, dimensions, attributes and values. -/
import Derived.Test.YtoippldgoehpcaaGreatDoorZCln
import Derived.Deep.OwnRows
import Derived.Laws.AppendOwnNone

/- The library's Clone at slices of integers, dimensions, attributes and values. -/
section
namespace Go.Proofs.YtoippldgoehpcaaGreatDoor
open Go Go.RowKit Go.Deep Go.Shelf

theorem info_clI : (Tryz.prog.info? 3).map (fun i => (i.zero, i.size, i.bytes)) = some (some (.int .i64 0), 1, 8) := by kernel_rfl
set_option maxRecDepth 100000 in
set_option maxHeartbeats 2000000 in
theorem c_CloneI (w : World) (A : Option Addr) (n c : Nat) (f : Nat → Int) (h : IntsAt w A n f) (hn : n ≤ 1000000) :
    Calls Tryz.prog 97 #[.slice A n c] w fun e w' => ∃ P cc, e = .returned (.slice P n cc) ∧ IntsAt w' P n f ∧ Up w.heap.size P ∧ Below w.heap.size w w' := by
  have HR := Lib.hid h.row
  have H0 : Hid (A = none → n = 0) := fun e => by
    rcases Nat.eq_zero_or_pos n with h0 | h0
    · exact h0
    · obtain ⟨b, o, h1, _⟩ := h h0
      rw [e] at h1; cases h1
  clear h
  obtain ⟨i0, hI9, hz0, hz1, hz2⟩ := info_parts info_clI
  have q1 : ∀ (w : World) (a : Option Addr) (n c n' c' : Nat), (binOp .eql 38 (.slice a n c) (.slice none n' c')).run Tryz.prog w = .ok (.bool a.isNone) w := fun w a n c n' c' => Lib.run_eql_slice_nil w _ _ a n c n' c' Tryz.underlying38
  cases A with
  | none =>
    obtain rfl := H0.out rfl
    have HN : Calls Tryz.prog 97 #[.slice none 0 c] w fun e w' => e = .returned (.slice none 0 0) ∧ w' = w := by
      clear HR
      go_enter Tryz.func97, Tryz.ntmps97
      go_wp2
      go_ret
      exact ⟨rfl, rfl⟩
    exact HN.mono fun e w' ⟨h1, h2⟩ => ⟨none, 0, h1, fun h => absurd h (by omega), Up.none _, by rw [h2]; exact Below.refl _ _⟩
  | some ad =>
    clear H0
    go_enter Tryz.func97, Tryz.ntmps97
    go_wp2_with (at_builtin; refine wpList_append_own _ rfl _ _ 38 rfl w.heap.size 3 i0 (.int .i64 0) 1 8 Tryz.underlying38 hI9 hz0 hz1 hz2 rfl (by decide) _ _ _ rfl (World.ownsRow_made w #[] 0 (Nat.le_refl _) (Nat.zero_le _) rfl) ad n c (rowL (intF f) 1 n) rfl ?qc1 ?qc2 ?qc3 ?qc4 ?qc5 ?qc6 ?_)
    case qc1 => rw [rowL_len]
    case qc2 => exact fun j u hj => Lib.cell?_alloc_some _ (HR.out.news (by decide) j u hj)
    case qc3 => exact rowL_one (intF_one f)
    case qc4 => unfold maxLen; omega
    case qc5 => omega
    case qc6 => simp
    intro v' w1 hown hgrow hnil
    go_wp2
    go_ret
    have hown2 : w1.ownsRow w.heap.size 3 1 v' n (rowL (intF f) 1 n) := by simpa using hown
    obtain ⟨P, cc, rfl, h1, h2⟩ := RowAt.own hown2
    exact ⟨P, cc, rfl, h2.ints, h1, ((Below.refl _ w).alloc (Nat.le_refl _) _).grown hgrow (by simp) (by intro k hk; simp [Value.ownBlock] at hk; omega)⟩
theorem info_clD : (Tryz.prog.info? 46).map (fun i => (i.zero, i.size, i.bytes)) = some (some (.agg #[.string ⟨#[]⟩, .int .i64 0, .int .i64 0]), 3, 32) := by kernel_rfl
set_option maxRecDepth 100000 in
set_option maxHeartbeats 2000000 in
theorem c_CloneD (w : World) (A : Option Addr) (n c : Nat) (nm : Nat → ByteArray) (lo hi : Nat → Int) (h : DimsAt w A n nm lo hi) (hn : n ≤ 1000000) :
    Calls Tryz.prog 137 #[.slice A n c] w fun e w' => ∃ P cc, e = .returned (.slice P n cc) ∧ DimsAt w' P n nm lo hi ∧ Up w.heap.size P ∧ Below w.heap.size w w' := by
  have HR := Lib.hid h.row
  have H0 : Hid (A = none → n = 0) := fun e => by
    rcases Nat.eq_zero_or_pos n with h0 | h0
    · exact h0
    · obtain ⟨b, o, h1, _⟩ := h h0
      rw [e] at h1; cases h1
  clear h
  obtain ⟨i0, hI9, hz0, hz1, hz2⟩ := info_parts info_clD
  have q1 : ∀ (w : World) (a : Option Addr) (n c n' c' : Nat), (binOp .eql 22 (.slice a n c) (.slice none n' c')).run Tryz.prog w = .ok (.bool a.isNone) w := fun w a n c n' c' => Lib.run_eql_slice_nil w _ _ a n c n' c' Tryz.underlying22
  cases A with
  | none =>
    obtain rfl := H0.out rfl
    have HN : Calls Tryz.prog 137 #[.slice none 0 c] w fun e w' => e = .returned (.slice none 0 0) ∧ w' = w := by
      clear HR
      go_enter Tryz.func137, Tryz.ntmps137
      go_wp2
      go_ret
      exact ⟨rfl, rfl⟩
    exact HN.mono fun e w' ⟨h1, h2⟩ => ⟨none, 0, h1, fun h => absurd h (by omega), Up.none _, by rw [h2]; exact Below.refl _ _⟩
  | some ad =>
    clear H0
    go_enter Tryz.func137, Tryz.ntmps137
    go_wp2_with (at_builtin; refine wpList_append_own _ rfl _ _ 22 rfl w.heap.size 46 i0 (.agg #[.string ⟨#[]⟩, .int .i64 0, .int .i64 0]) 3 32 Tryz.underlying22 hI9 hz0 hz1 hz2 rfl (by decide) _ _ _ rfl (World.ownsRow_made w #[] 0 (Nat.le_refl _) (Nat.zero_le _) rfl) ad n c (rowL (dimF nm lo hi) 3 n) rfl ?qc1 ?qc2 ?qc3 ?qc4 ?qc5 ?qc6 ?_)
    case qc1 => rw [rowL_len]
    case qc2 => exact fun j u hj => Lib.cell?_alloc_some _ (HR.out.news (by decide) j u hj)
    case qc3 => exact rowL_one (dimF_one nm lo hi)
    case qc4 => unfold maxLen; omega
    case qc5 => omega
    case qc6 => simp
    intro v' w1 hown hgrow hnil
    go_wp2
    go_ret
    have hown2 : w1.ownsRow w.heap.size 46 3 v' n (rowL (dimF nm lo hi) 3 n) := by simpa using hown
    obtain ⟨P, cc, rfl, h1, h2⟩ := RowAt.own hown2
    exact ⟨P, cc, rfl, h2.dims, h1, ((Below.refl _ w).alloc (Nat.le_refl _) _).grown hgrow (by simp) (by intro k hk; simp [Value.ownBlock] at hk; omega)⟩
theorem info_clA : (Tryz.prog.info? 48).map (fun i => (i.zero, i.size, i.bytes)) = some (some (.agg #[.string ⟨#[]⟩, .int .i64 0]), 2, 24) := by kernel_rfl
set_option maxRecDepth 100000 in
set_option maxHeartbeats 2000000 in
theorem c_CloneA (w : World) (A : Option Addr) (n c : Nat) (an : Nat → ByteArray) (ty : Nat → Int) (h : AttrsAt w A n an ty) (hn : n ≤ 1000000) :
    Calls Tryz.prog 138 #[.slice A n c] w fun e w' => ∃ P cc, e = .returned (.slice P n cc) ∧ AttrsAt w' P n an ty ∧ Up w.heap.size P ∧ Below w.heap.size w w' := by
  have HR := Lib.hid h.row
  have H0 : Hid (A = none → n = 0) := fun e => by
    rcases Nat.eq_zero_or_pos n with h0 | h0
    · exact h0
    · obtain ⟨b, o, h1, _⟩ := h h0
      rw [e] at h1; cases h1
  clear h
  obtain ⟨i0, hI9, hz0, hz1, hz2⟩ := info_parts info_clA
  have q1 : ∀ (w : World) (a : Option Addr) (n c n' c' : Nat), (binOp .eql 23 (.slice a n c) (.slice none n' c')).run Tryz.prog w = .ok (.bool a.isNone) w := fun w a n c n' c' => Lib.run_eql_slice_nil w _ _ a n c n' c' Tryz.underlying23
  cases A with
  | none =>
    obtain rfl := H0.out rfl
    have HN : Calls Tryz.prog 138 #[.slice none 0 c] w fun e w' => e = .returned (.slice none 0 0) ∧ w' = w := by
      clear HR
      go_enter Tryz.func138, Tryz.ntmps138
      go_wp2
      go_ret
      exact ⟨rfl, rfl⟩
    exact HN.mono fun e w' ⟨h1, h2⟩ => ⟨none, 0, h1, fun h => absurd h (by omega), Up.none _, by rw [h2]; exact Below.refl _ _⟩
  | some ad =>
    clear H0
    go_enter Tryz.func138, Tryz.ntmps138
    go_wp2_with (at_builtin; refine wpList_append_own _ rfl _ _ 23 rfl w.heap.size 48 i0 (.agg #[.string ⟨#[]⟩, .int .i64 0]) 2 24 Tryz.underlying23 hI9 hz0 hz1 hz2 rfl (by decide) _ _ _ rfl (World.ownsRow_made w #[] 0 (Nat.le_refl _) (Nat.zero_le _) rfl) ad n c (rowL (attF an ty) 2 n) rfl ?qc1 ?qc2 ?qc3 ?qc4 ?qc5 ?qc6 ?_)
    case qc1 => rw [rowL_len]
    case qc2 => exact fun j u hj => Lib.cell?_alloc_some _ (HR.out.news (by decide) j u hj)
    case qc3 => exact rowL_one (attF_one an ty)
    case qc4 => unfold maxLen; omega
    case qc5 => omega
    case qc6 => simp
    intro v' w1 hown hgrow hnil
    go_wp2
    go_ret
    have hown2 : w1.ownsRow w.heap.size 48 2 v' n (rowL (attF an ty) 2 n) := by simpa using hown
    obtain ⟨P, cc, rfl, h1, h2⟩ := RowAt.own hown2
    exact ⟨P, cc, rfl, h2.attrs, h1, ((Below.refl _ w).alloc (Nat.le_refl _) _).grown hgrow (by simp) (by intro k hk; simp [Value.ownBlock] at hk; omega)⟩
theorem info_clV : (Tryz.prog.info? 43).map (fun i => (i.zero, i.size, i.bytes)) = some (some (.agg #[.int .i64 0, .int .i64 0, .int .i64 0, .string ⟨#[]⟩]), 4, 40) := by kernel_rfl
set_option maxRecDepth 100000 in
set_option maxHeartbeats 2000000 in
theorem c_CloneV (w : World) (A : Option Addr) (n c : Nat) (vk vn vd : Nat → Int) (vs : Nat → ByteArray) (h : ValsAt w A n vk vn vd vs) (hn : n ≤ 1000000) :
    Calls Tryz.prog 92 #[.slice A n c] w fun e w' => ∃ P cc, e = .returned (.slice P n cc) ∧ ValsAt w' P n vk vn vd vs ∧ Up w.heap.size P ∧ Below w.heap.size w w' := by
  have HR := Lib.hid h.row
  have H0 : Hid (A = none → n = 0) := fun e => by
    rcases Nat.eq_zero_or_pos n with h0 | h0
    · exact h0
    · obtain ⟨b, o, h1, _⟩ := h h0
      rw [e] at h1; cases h1
  clear h
  obtain ⟨i0, hI9, hz0, hz1, hz2⟩ := info_parts info_clV
  have q1 : ∀ (w : World) (a : Option Addr) (n c n' c' : Nat), (binOp .eql 39 (.slice a n c) (.slice none n' c')).run Tryz.prog w = .ok (.bool a.isNone) w := fun w a n c n' c' => Lib.run_eql_slice_nil w _ _ a n c n' c' Tryz.underlying39
  cases A with
  | none =>
    obtain rfl := H0.out rfl
    have HN : Calls Tryz.prog 92 #[.slice none 0 c] w fun e w' => e = .returned (.slice none 0 0) ∧ w' = w := by
      clear HR
      go_enter Tryz.func92, Tryz.ntmps92
      go_wp2
      go_ret
      exact ⟨rfl, rfl⟩
    exact HN.mono fun e w' ⟨h1, h2⟩ => ⟨none, 0, h1, fun h => absurd h (by omega), Up.none _, by rw [h2]; exact Below.refl _ _⟩
  | some ad =>
    clear H0
    go_enter Tryz.func92, Tryz.ntmps92
    go_wp2_with (at_builtin; refine wpList_append_own _ rfl _ _ 39 rfl w.heap.size 43 i0 (.agg #[.int .i64 0, .int .i64 0, .int .i64 0, .string ⟨#[]⟩]) 4 40 Tryz.underlying39 hI9 hz0 hz1 hz2 rfl (by decide) _ _ _ rfl (World.ownsRow_made w #[] 0 (Nat.le_refl _) (Nat.zero_le _) rfl) ad n c (rowL (valF4 vk vn vd vs) 4 n) rfl ?qc1 ?qc2 ?qc3 ?qc4 ?qc5 ?qc6 ?_)
    case qc1 => rw [rowL_len]
    case qc2 => exact fun j u hj => Lib.cell?_alloc_some _ (HR.out.news (by decide) j u hj)
    case qc3 => exact rowL_one (valF4_one vk vn vd vs)
    case qc4 => unfold maxLen; omega
    case qc5 => omega
    case qc6 => simp
    intro v' w1 hown hgrow hnil
    go_wp2
    go_ret
    have hown2 : w1.ownsRow w.heap.size 43 4 v' n (rowL (valF4 vk vn vd vs) 4 n) := by simpa using hown
    obtain ⟨P, cc, rfl, h1, h2⟩ := RowAt.own hown2
    exact ⟨P, cc, rfl, h2.vals, h1, ((Below.refl _ w).alloc (Nat.le_refl _) _).grown hgrow (by simp) (by intro k hk; simp [Value.ownBlock] at hk; omega)⟩
end Go.Proofs.YtoippldgoehpcaaGreatDoor
end

/- A whole slice appended, nil or not. -/
section
namespace Go.Proofs.YtoippldgoehpcaaGreatDoor
open Go Go.RowKit Go.Deep Go.Shelf

theorem run_app_none {P : Program} {w : World} (base : Nat) (t ty e : TypeId) (i : TypeInfo) (size : Nat) (ht : P.underlying t = some (.slice e)) (hi : P.info? e = some i)
    (v : Value) (n c : Nat) (xs : List Value) (hown : w.ownsRow base e size v n xs) :
    (Builtin.append_ #[t, t] ty #[v, .slice none 0 c]).run P w = .ok v w := by
  rcases hown.2 with ⟨rfl, rfl⟩ | ⟨g, cap, cur, rfl, _, _, hnc, _⟩
  · simp [Builtin.append_, run_underlying ht, sizeOf, typeInfo, hi, Builtin.lenOf, Builtin.firstCells]
  · simp [Builtin.append_, run_underlying ht, sizeOf, typeInfo, hi, Builtin.lenOf, Builtin.firstCells, hnc, storeCells]
theorem wpList_app_none {P : Program} {w : World} {ops : Array Oper} {rest : List Oper} {o : Oper} {a : Act} {Q : Exit → Act → World → Prop} (hgd : o.guard = none) (s x : Operand) (t : TypeId)
    (ho : o.op = .call { callee := .builtin .append, args := #[s, x], argTypes := #[t, t] })
    (base : Nat) (e : TypeId) (i : TypeInfo) (size : Nat) (ht : P.underlying t = some (.slice e)) (hi : P.info? e = some i)
    (v : Value) (n c : Nat) (xs : List Value) (hs : a.eval s = v) (hown : w.ownsRow base e size v n xs) (hx : a.eval x = .slice none 0 c)
    (h : wpList P ops Q rest (a.put o.dst v) w) : wpList P ops Q (o :: rest) a w := by
  refine wpList_plain hgd fun K hK => ?_
  have hrun := run_app_none (P := P) (w := w) base t o.type e i size ht hi v n c xs hown
  unfold Oper.wp
  simp [execOp, ho, resolve, invoke, builtin, hs, hx, hrun, Result.andThen]
  exact hK _ _ h
theorem rowL_nil (f : Nat → Nat → Value) (z : Nat) : rowL f z 0 = [] := by simp [rowL]
/-- append(v, x...), x a slice whose cells are known as a row. -/
theorem wpList_app_row {P : Program} {w : World} {ops : Array Oper} {rest : List Oper} {o : Oper} {a : Act} {Q : Exit → Act → World → Prop} (hgd : o.guard = none) (s x : Operand) (t : TypeId)
    (ho : o.op = .call { callee := .builtin .append, args := #[s, x], argTypes := #[t, t] })
    (base : Nat) (e : TypeId) (i : TypeInfo) (z : Value) (size bytes : Nat) (ht : P.underlying t = some (.slice e)) (hi : P.info? e = some i) (hz : i.zero = some z)
    (hsize : i.size = size) (hby : i.bytes = bytes) (hzs : z.cells.size = size) (hsz : 0 < size)
    (v : Value) (n : Nat) (xs : List Value) (hs : a.eval s = v) (hown : w.ownsRow base e size v n xs)
    (A : Option Addr) (m c : Nat) (f : Nat → Nat → Value) (hx : a.eval x = .slice A m c) (hrow : RowAt w A m size f) (h1 : ∀ k r, (f k r).oneCell' = true)
    (h63 : n + m ≤ maxLen) (hbytes : (n + m) * bytes ≤ 140737488355328) (hbase : base ≤ w.heap.size)
    (h : ∀ v' w', w'.ownsRow base e size v' (n + m) (xs ++ rowL f size m) → w.grownBy w' v.ownBlock → wpList P ops Q rest (a.put o.dst v') w') :
    wpList P ops Q (o :: rest) a w := by
  cases A with
  | none =>
    have hm : m = 0 := by
      rcases Nat.eq_zero_or_pos m with h0 | h0
      · exact h0
      · obtain ⟨b, o, h1, _⟩ := hrow h0
        cases h1
    subst hm
    refine wpList_app_none hgd s x t ho base e i size ht hi v n c xs hs hown hx (h v w ?_ ⟨rfl, rfl, rfl, Nat.le_refl _, fun _ _ _ => rfl⟩)
    rw [rowL_nil, List.append_nil]
    exact hown
  | some ad =>
    exact wpList_append_own_at w hgd s x t ho base e i z size bytes ht hi hz hsize hby hzs hsz v n xs hs hown ad m c (rowL f size m) hx (rowL_len _ _ _) (hrow.news hsz) (rowL_one h1) h63 hbytes hbase fun v' w' g1 g2 _ _ => h v' w' g1 g2
end Go.Proofs.YtoippldgoehpcaaGreatDoor
end

/- A cell's values by its coordinates: the reference. -/
section
namespace Go.Proofs.YtoippldgoehpcaaGreatDoor
open Go Go.RowKit Go.Deep Go.Shelf

theorem info_val : (Tryz.prog.info? 43).map (fun i => (i.zero, i.size, i.bytes)) = some (some (.agg #[.int .i64 0, .int .i64 0, .int .i64 0, .string ⟨#[]⟩]), 4, 40) := by kernel_rfl
/-- Is there such a cell? -/
noncomputable def getB (D : ArD) (m : Nat) (v : Nat → Int) : Bool := D.check == 0 && foundB D.N D.c m v
noncomputable def getL (D : ArD) (m : Nat) (v : Nat → Int) : Nat := if getB D m v = true then D.c.vl (placeN D.N D.c m v) else 0
/-- What Get returns. -/
def GetR (D : ArD) (m : Nat) (v : Nat → Int) (e : Ending) (w' : World) : Prop := ∃ P cc, e = .returned (.tuple #[.slice P (getL D m v) cc, .bool (getB D m v)]) ∧ ValsAt w' P (getL D m v) (D.c.vk (placeN D.N D.c m v)) (D.c.vn (placeN D.N D.c m v)) (D.c.vd (placeN D.N D.c m v)) (D.c.vs (placeN D.N D.c m v))
theorem vals_none (w : World) (a b c : Nat → Int) (d : Nat → ByteArray) : ValsAt w none 0 a b c d := fun h => absurd h (by omega)

theorem bel_new' (W : World) (o : Obj) : Below W.heap.size W (W.alloc o) := (Below.refl _ _).alloc (Nat.le_refl _) _
set_option maxRecDepth 100000 in
set_option maxHeartbeats 4000000 in
theorem ar_Get (w : World) (p : ArP) (D : ArD) (X : Option Addr) (m mc : Nat) (v : Nat → Int) (h : ArAt w p D) (ho : ArOk D) (hx : IntsAt w X m v) (hm : m ≤ 1000000) :
    Calls Tryz.prog 31 #[p.val D.n D.m D.N, .slice X m mc] w fun e w' => GetR D m v e w' ∧ Below w.heap.size w w' := by
  have KB := Lib.hid (arr_box w (.slice p.A D.n p.cap) (.slice p.B D.m p.bcap) (.slice p.C D.N p.ccap) 26)
  have HB : Hid (Below w.heap.size w (w.alloc (p.obj D.n D.m D.N))) := (Below.refl _ _).alloc (Nat.le_refl _) _
  have H1 : Hid (∀ W, Below w.heap.size w W → Calls Tryz.prog 18 #[p.val D.n D.m D.N] W fun e w' => e = .returned (.int .i64 D.check) ∧ Below W.heap.size W w') := fun W hW => ar_Check W p D (h.below hW) ho
  have H2 : Hid (∀ W, Below w.heap.size w W → Calls Tryz.prog 93 #[.slice p.C D.N p.ccap, .slice X m mc] W fun e w' => e = .returned (.int .i64 (if foundB D.N D.c m v = true then (placeN D.N D.c m v : Int) else -1)) ∧ Below W.heap.size W w') := fun W hW => r_Lookup W p.C X D.N p.ccap m mc D.c v (h.cells.below hW) (hx.below hW) ho.N1 hm
  have HC := Lib.hid h.cells
  have HO := Lib.hid ho.cS
  have hN := ho.N1
  have HF : Hid (foundB D.N D.c m v = true → placeN D.N D.c m v < D.N) := fun h => by
    unfold foundB at h
    rw [Bool.and_eq_true] at h
    exact of_decide_eq_true h.1
  have HG : Hid (getB D m v = (D.check == 0 && foundB D.N D.c m v)) := rfl
  have HL : Hid (getL D m v = if getB D m v = true then D.c.vl (placeN D.N D.c m v) else 0) := rfl
  unfold GetR
  generalize getL D m v = gl at *
  generalize getB D m v = gb at *
  clear h ho hx
  generalize D.check = ck at *
  generalize foundB D.N D.c m v = fb at *
  generalize placeN D.N D.c m v = i at *
  obtain ⟨i0, hI9, hz0, hz1, hz2⟩ := info_parts info_val
  go_enter Tryz.func31, Tryz.ntmps31
  go_wp2_with fail
  generalize w.alloc (p.obj D.n D.m D.N) = W0 at *
  obtain ⟨l0, l1, l2⟩ := KB.out W0 (Below.refl _ _)
  go_wp2_with fail
  refine (H1.out _ HB.out).mono ?_
  rintro e w1 ⟨rfl, hb1⟩
  have HB1 : Hid (Below w.heap.size w w1) := st HB.out hb1
  clear l0 l1 l2
  obtain ⟨l0, l1, l2⟩ := KB.out w1 hb1
  by_cases g1 : ck = 0
  · subst g1
    go_wp2_with fail
    refine (H2.out _ HB1.out).mono ?_
    rintro e w2 ⟨rfl, hb2⟩
    have HB2 : Hid (Below w.heap.size w w2) := st HB1.out hb2
    clear l0 l1 l2
    obtain ⟨l0, l1, l2⟩ := KB.out w2 (st hb1 hb2)
    cases fb
    · have hgb : gb = false := HG.out
      have hgl : gl = 0 := by rw [HL.out, hgb]; rfl
      subst hgb hgl
      go_wp2
      go_ret2
      exact ⟨⟨none, 0, rfl, vals_none _ _ _ _ _⟩, HB2.out⟩
    · have hgb : gb = true := HG.out
      have hgl : gl = D.c.vl i := by rw [HL.out, hgb]; rfl
      have hiN := HF.out rfl
      subst hgb
      obtain ⟨bc, oc, hce, hbc, hcc⟩ := (HC.out.below HB2.out) (by omega)
      obtain ⟨P, pc, Q, qc, x0, x1, _, x3, _⟩ := hcc i hiN
      have hvl := (HO.out i hiN).2.1
      clear HL
      rw [← hgl] at x1 x3 hvl
      clear hgl
      have HX3 := Lib.hid x3.row
      have h0 : (0 : Int) ≤ (i : Int) := by omega
      have h1 : (i : Int) < (D.N : Int) := by omega
      have h2 : ¬ (i : Int) < 0 := by omega
      rw [hce] at l2 KB
      have B3 := bel_new' w2 (.cells #[] 43)
      have B13 := st (st hb1 hb2) B3
      obtain ⟨-, -, m2⟩ := KB.out _ B13
      have x1' := (B3.cell (p := ⟨bc, oc + i * 2 + 1, none⟩) hbc).trans x1
      have HX4 := Lib.hid (HX3.out.below B3)
      have HB3 : Hid (Below w.heap.size w (w2.alloc (.cells #[] 43))) := st HB2.out B3
      clear hcc x3 HC HO x1 l0 l1 HX3 B13 B3
      go_wp2_with (at_builtin; refine wpList_app_row rfl _ _ 39 rfl w2.heap.size 43 i0 (.agg #[.int .i64 0, .int .i64 0, .int .i64 0, .string ⟨#[]⟩]) 4 40 Tryz.underlying39 hI9 hz0 hz1 hz2 rfl (by decide) _ 0 [] rfl (World.ownsRow_made w2 #[] 0 (Nat.le_refl _) (Nat.zero_le _) rfl) Q gl qc _ rfl HX4.out (valF4_one _ _ _ _) ?qc1 ?qc2 ?qc3 ?_)
      case qc1 => unfold maxLen; omega
      case qc2 => omega
      case qc3 => simp
      intro v' w4 hown hgrow
      go_wp2
      go_ret2
      obtain ⟨P', c', rfl, _, h9⟩ := RowAt.own hown
      exact ⟨⟨P', c', rfl, h9.vals⟩, HB3.out.grown hgrow (by simp; have := HB2.out.size; omega) (by intro k hk; simp [Value.ownBlock] at hk; have := HB2.out.size; omega)⟩
  · have g2 : (ck != 0) = true := by rw [bne_iff_ne]; exact g1
    have hgb : gb = false := by rw [HG.out, beq_eq_false_iff_ne.2 g1]; rfl
    have hgl : gl = 0 := by rw [HL.out, hgb]; rfl
    subst hgb hgl
    go_wp2
    go_ret2
    exact ⟨⟨none, 0, rfl, vals_none _ _ _ _ _⟩, HB1.out⟩
end Go.Proofs.YtoippldgoehpcaaGreatDoor
end

/- A cell's values by its coordinates: the program. -/
section
namespace Go.Proofs.YtoippldgoehpcaaGreatDoor
open Go Go.RowKit Go.Deep Go.Shelf

set_option maxRecDepth 100000 in
set_option maxHeartbeats 4000000 in
theorem c_getCmp (w : World) (P Q X : Option Addr) (n pc l qc m mc : Nat) (f v : Nat → Int) (h : IntsAt w P n f) (hx : IntsAt w X m v) (hn : n ≤ 1000000) (hm : m ≤ 1000000) :
    Calls Tryz.prog 91 #[CelV P n pc Q l qc, .slice X m mc] w fun e w' => e = .returned (.int .i64 (cmpS n m f v)) ∧ Below w.heap.size w w' := by
  have KB := Lib.hid (cel_box w (.slice P n pc) (.slice Q l qc) 41)
  have HB : Hid (Below w.heap.size w (w.alloc (.cells #[.slice P n pc, .slice Q l qc] 41))) := bel_new' _ _
  have HC := Lib.hid (fun W (hW : Below w.heap.size w W) => s_Compare W P X n pc m mc f v (h.below hW) (hx.below hW) hn hm)
  clear h hx
  generalize cmpS n m f v = z at *
  go_enter Tryz.func91, Tryz.ntmps91
  go_wp2_with fail
  generalize w.alloc (.cells #[.slice P n pc, .slice Q l qc] 41) = W0 at *
  obtain ⟨l0, l1⟩ := KB.out W0 (Below.refl _ _)
  go_wp2_with fail
  refine (HC.out _ HB.out).mono ?_
  rintro e w1 ⟨rfl, rfl⟩
  go_wp2
  go_ret
  exact ⟨rfl, HB.out⟩

set_option maxRecDepth 100000 in
set_option maxHeartbeats 4000000 in
theorem c_search (w : World) (C X : Option Addr) (N cc m mc : Nat) (c : CeD) (v : Nat → Int) (hc : CeAt w C N c) (hx : IntsAt w X m v) (hN : N ≤ 1000000) (hm : m ≤ 1000000) :
    Calls Tryz.prog 90 #[.slice C N cc, .slice X m mc, .func (.func 91) #[] #[]] w fun e w' => e = .returned (.tuple #[.int .i64 (placeN N c m v), .bool (foundB N c m v)]) ∧ Below w.heap.size w w' := by
  have HC := Lib.hid hc
  have HCm := Lib.hid (fun W P Q n pc l qc f (h : IntsAt W P n f) (h1 : Below w.heap.size w W) => c_getCmp W P Q X n pc l qc m mc f v h (hx.below h1))
  obtain ⟨R, hR⟩ : ∃ R, placeN N c m v = R := ⟨_, rfl⟩
  have HF : Hid (foundB N c m v = (decide (R < N) && cmpS (c.ln R) m (c.x R) v == 0)) := by show _ = _; rw [← hR]; rfl
  obtain ⟨fb, hfb⟩ : ∃ fb, foundB N c m v = fb := ⟨_, rfl⟩
  rw [hR, hfb]
  rw [hfb] at HF
  have HR : Hid (bis (lessB c m v) 0 N = R) := hR
  have hRN : R ≤ N := by rw [← hR]; exact place_le N c m v
  clear hc hx hR hfb
  go_enter Tryz.func90, Tryz.ntmps90
  go_wp2
  go_loopw [9, 10, 11] (fun l h _ wr => ∃ lo hi : Nat, lo ≤ hi ∧ hi ≤ N ∧ l = .int .i64 lo ∧ h = .int .i64 hi ∧ Hid (bis (lessB c m v) lo hi = R) ∧ Hid (Below w.heap.size w wr)) (fun l h _ _ => (intOf h).toNat - (intOf l).toNat)
  case atStart => exact ⟨0, N, Nat.zero_le _, Nat.le_refl _, rfl, rfl, HR.out, Below.refl _ _⟩
  case round =>
    obtain ⟨lo, hi, hlh, hhN, rfl, rfl, HB, HBw⟩ := hrel
    by_cases hlt : lo < hi
    · obtain ⟨bc, oc, rfl, hbc, hcc⟩ := (HC.out.below HBw.out) (by omega)
      obtain ⟨mid, hmid⟩ : ∃ mid, (lo + hi) / 2 = mid := ⟨_, rfl⟩
      obtain ⟨P, pc, Q, qc, x0, x1, x2, _, x4⟩ := hcc mid (by omega)
      clear hcc
      have hw1 : IntKind.i64.wrap ((lo : Int) + hi) = (lo : Int) + hi := w64 (by omega) (by omega)
      have hw0 : IntKind.u64.wrap ((lo : Int) + hi) = (lo : Int) + hi := by rw [IntKind.wrap_u64]; omega
      have hq : ((lo : Int) + hi) / 2 = mid := by omega
      have hw2 : IntKind.i64.wrap (mid : Int) = mid := w64 (by omega) (by omega)
      have hmN : (mid : Int) < (N : Int) := by omega
      have hm0 : (0 : Int) ≤ (mid : Int) := by omega
      have hm2 : mid < N := by omega
      have HCk : Hid (∀ W, Below wr.heap.size wr W → Calls Tryz.prog 91 #[CelV P (c.ln mid) pc Q (c.vl mid) qc, .slice X m mc] W fun e w' => e = .returned (.int .i64 (cmpS (c.ln mid) m (c.x mid) v)) ∧ Below W.heap.size W w') := fun W hW => HCm.out W P Q _ pc _ qc _ (x2.below hW) (st HBw.out hW) (by omega) hm
      have HY : Hid (cmpS (c.ln mid) m (c.x mid) v < 0 → bis (lessB c m v) (mid + 1) hi = R) := fun h => by rw [← HB.out, bis_yes hlt (by rw [hmid]; exact decide_eq_true h), hmid]
      have HNo : Hid (¬ cmpS (c.ln mid) m (c.x mid) v < 0 → bis (lessB c m v) lo mid = R) := fun h => by rw [← HB.out, bis_no hlt (by rw [hmid]; exact decide_eq_false h), hmid]
      generalize cmpS (c.ln mid) m (c.x mid) v = z at *
      generalize c.ln mid = L at *
      generalize c.vl mid = V at *
      go_wp2_with fail
      refine (HCk.out _ (Below.refl _ _)).mono ?_
      rintro e w1 ⟨rfl, hb1⟩
      have HB1 : Hid (Below w.heap.size w w1) := st HBw.out hb1
      by_cases hz : z < 0
      · have HY2 := Lib.hid (HY.out hz)
        go_wp2
        go_roundw
        case rel => exact ⟨mid + 1, hi, by omega, by omega, by go_num, rfl, HY2.out, HB1.out⟩
        case measure => simp [intOf]; omega
      · have HN2 := Lib.hid (HNo.out (by omega))
        go_wp2
        go_roundw
        case rel => exact ⟨lo, mid, by omega, by omega, rfl, rfl, HN2.out, HB1.out⟩
        case measure => simp [intOf]; omega
    · obtain rfl : lo = hi := by omega
      have hR2 : lo = R := by rw [← HB.out, bis_end hlt]
      subst hR2
      clear HB HR
      by_cases hlN : lo < N
      · obtain ⟨bc, oc, rfl, hbc, hcc⟩ := (HC.out.below HBw.out) (by omega)
        obtain ⟨P, pc, Q, qc, x0, x1, x2, _, x4⟩ := hcc lo hlN
        clear hcc
        have HCk : Hid (∀ W, Below wr.heap.size wr W → Calls Tryz.prog 91 #[CelV P (c.ln lo) pc Q (c.vl lo) qc, .slice X m mc] W fun e w' => e = .returned (.int .i64 (cmpS (c.ln lo) m (c.x lo) v)) ∧ Below W.heap.size W w') := fun W hW => HCm.out W P Q _ pc _ qc _ (x2.below hW) (st HBw.out hW) (by omega) hm
        rw [decide_eq_true hlN, Bool.true_and] at HF
        have hm0 : (0 : Int) ≤ (lo : Int) := by omega
        have hm1 : (lo : Int) < (N : Int) := by omega
        have hll : ¬ (lo : Int) < (lo : Int) := by omega
        clear x2 x4
        generalize cmpS (c.ln lo) m (c.x lo) v = z at *
        generalize c.ln lo = L at *
        generalize c.vl lo = V at *
        have HZ : Hid (fb = (z == 0)) := HF.out
        obtain ⟨zb, hzb⟩ : ∃ zb, (z == 0) = zb := ⟨_, rfl⟩
        rw [hzb] at HZ
        go_wp2_with fail
        refine (HCk.out _ (Below.refl _ _)).mono ?_
        rintro e w1 ⟨rfl, hb1⟩
        go_wp2
        go_ret2
        exact ⟨by rw [HZ.out, ← hzb]; rfl, st HBw.out hb1⟩
      · have hfb : fb = false := by rw [HF.out, decide_eq_false hlN]; rfl
        subst hfb
        have h9 : ¬ (lo : Int) < (N : Int) := by omega
        have hll : ¬ (lo : Int) < (lo : Int) := by omega
        go_wp2
        go_ret2
        exact ⟨rfl, HBw.out⟩
end Go.Proofs.YtoippldgoehpcaaGreatDoor
end

/- Get of the program. -/
section
namespace Go.Proofs.YtoippldgoehpcaaGreatDoor
open Go Go.RowKit Go.Deep Go.Shelf

set_option maxRecDepth 100000 in
set_option maxHeartbeats 4000000 in
theorem as_Get (w : World) (p : ArP) (D : ArD) (X : Option Addr) (m mc : Nat) (v : Nat → Int) (h : ArAt w p D) (ho : ArOk D) (hx : IntsAt w X m v) (hm : m ≤ 1000000) :
    Calls Tryz.prog 30 #[p.val D.n D.m D.N, .slice X m mc] w fun e w' => GetR D m v e w' ∧ Below w.heap.size w w' := by
  have KB := Lib.hid (arr_box w (.slice p.A D.n p.cap) (.slice p.B D.m p.bcap) (.slice p.C D.N p.ccap) 26)
  have HB : Hid (Below w.heap.size w (w.alloc (p.obj D.n D.m D.N))) := (Below.refl _ _).alloc (Nat.le_refl _) _
  have H1 : Hid (∀ W, Below w.heap.size w W → Calls Tryz.prog 17 #[p.val D.n D.m D.N] W fun e w' => e = .returned (.int .i64 D.check) ∧ Below W.heap.size W w') := fun W hW => as_Check W p D (h.below hW) ho
  have H2 : Hid (∀ W, Below w.heap.size w W → Calls Tryz.prog 90 #[.slice p.C D.N p.ccap, .slice X m mc, .func (.func 91) #[] #[]] W fun e w' => e = .returned (.tuple #[.int .i64 (placeN D.N D.c m v), .bool (foundB D.N D.c m v)]) ∧ Below W.heap.size W w') := fun W hW => c_search W p.C X D.N p.ccap m mc D.c v (h.cells.below hW) (hx.below hW) ho.N1 hm
  have HV := Lib.hid c_CloneV
  have HC := Lib.hid h.cells
  have HO := Lib.hid ho.cS
  have hN := ho.N1
  have HF : Hid (foundB D.N D.c m v = true → placeN D.N D.c m v < D.N) := fun h => by
    unfold foundB at h
    rw [Bool.and_eq_true] at h
    exact of_decide_eq_true h.1
  have HG : Hid (getB D m v = (D.check == 0 && foundB D.N D.c m v)) := rfl
  have HL : Hid (getL D m v = if getB D m v = true then D.c.vl (placeN D.N D.c m v) else 0) := rfl
  unfold GetR
  generalize getL D m v = gl at *
  generalize getB D m v = gb at *
  clear h ho hx
  generalize D.check = ck at *
  generalize foundB D.N D.c m v = fb at *
  generalize placeN D.N D.c m v = i at *
  go_enter Tryz.func30, Tryz.ntmps30
  go_wp2_with fail
  generalize w.alloc (p.obj D.n D.m D.N) = W0 at *
  obtain ⟨l0, l1, l2⟩ := KB.out W0 (Below.refl _ _)
  go_wp2_with fail
  refine (H1.out _ HB.out).mono ?_
  rintro e w1 ⟨rfl, hb1⟩
  have HB1 : Hid (Below w.heap.size w w1) := st HB.out hb1
  clear l0 l1 l2
  obtain ⟨l0, l1, l2⟩ := KB.out w1 hb1
  by_cases g1 : ck = 0
  · subst g1
    go_wp2_with fail
    refine (H2.out _ HB1.out).mono ?_
    rintro e w2 ⟨rfl, hb2⟩
    have HB2 : Hid (Below w.heap.size w w2) := st HB1.out hb2
    clear l0 l1 l2
    obtain ⟨l0, l1, l2⟩ := KB.out w2 (st hb1 hb2)
    cases fb
    · have hgb : gb = false := HG.out
      have hgl : gl = 0 := by rw [HL.out, hgb]; rfl
      subst hgb hgl
      go_wp2
      go_ret2
      exact ⟨⟨none, 0, rfl, vals_none _ _ _ _ _⟩, HB2.out⟩
    · have hgb : gb = true := HG.out
      have hgl : gl = D.c.vl i := by rw [HL.out, hgb]; rfl
      have hiN := HF.out rfl
      subst hgb
      obtain ⟨bc, oc, hce, hbc, hcc⟩ := (HC.out.below HB2.out) (by omega)
      obtain ⟨P, pc, Q, qc, x0, x1, _, x3, _⟩ := hcc i hiN
      have hvl := (HO.out i hiN).2.1
      clear HL
      rw [← hgl] at x1 x3 hvl
      clear hgl
      have HV1 := Lib.hid (HV.out w2 Q gl qc _ _ _ _ x3 (by omega))
      have h0 : (0 : Int) ≤ (i : Int) := by omega
      have h1 : (i : Int) < (D.N : Int) := by omega
      rw [hce] at l2
      clear hcc x3 HC HO HV
      go_wp2_with fail
      refine HV1.out.mono ?_
      rintro e w3 ⟨P', cc, rfl, h2, _, hb3⟩
      go_wp2
      go_ret2
      exact ⟨⟨P', cc, rfl, h2⟩, st HB2.out hb3⟩
  · have g2 : (ck != 0) = true := by rw [bne_iff_ne]; exact g1
    have hgb : gb = false := by rw [HG.out, beq_eq_false_iff_ne.2 g1]; rfl
    have hgl : gl = 0 := by rw [HL.out, hgb]; rfl
    subst hgb hgl
    go_wp2
    go_ret2
    exact ⟨⟨none, 0, rfl, vals_none _ _ _ _ _⟩, HB1.out⟩
end Go.Proofs.YtoippldgoehpcaaGreatDoor
end

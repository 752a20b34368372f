/- Lists of the walk's own outlast what is above them. -/
import Derived.Test.YtkckoanphciddaaGreatDoorZRfD
import Derived.Test.YtkckoanphciddaaGreatDoorZAppC
import Derived.Test.YtkckoanphciddaaGreatDoorZOpA
import Derived.Laws.AppendOwnNone
import Derived.Test.YtkckoanphciddaaGreatDoorZRgT
import Derived.Lib.AppendZeros

/- Lists of the walk's own outlast what is above them. -/
section
namespace Go.Proofs.YtkckoanphciddaaGreatDoor
open Go Go.RowKit Go.Deep

theorem OwnI.below {w w' : World} {B n : Nat} {v : Value} {f : Nat → Int} (h : OwnI w B v n f) (hb : Below w.heap.size w w') : OwnI w' B v n f := h.kept (Below.by_ hb) (by cases e : v.ownBlock with | none => exact .inl rfl | some g => exact .inr (by simp))
theorem InS2.below {W W' : World} {ob : Nat} {x1 x2 : Value} {k1 k2 : Nat} {f g : Nat → Int} (h : InS2 ob W x1 x2 k1 k2 f g) (hb : Below W.heap.size W W') : InS2 ob W' x1 x2 k1 k2 f g := ⟨(hb.block _ (Array.getElem?_eq_some_iff.1 h.1).1).trans h.1, h.2.1.below hb, h.2.2.1.below hb, h.2.2.2⟩
end Go.Proofs.YtkckoanphciddaaGreatDoor
end

/- A whole slice appended, nil or not. -/
section
namespace Go.Proofs.YtkckoanphciddaaGreatDoor
open Go Go.RowKit Go.Deep Go.Shelf

theorem run_app_none {P : Program} {w : World} (base : Nat) (t ty e : TypeId) (i : TypeInfo) (size : Nat) (ht : P.underlying t = some (.slice e)) (hi : P.info? e = some i)
    (v : Value) (n c : Nat) (xs : List Value) (hown : w.ownsRow base e size v n xs) :
    (Builtin.append_ #[t, t] ty #[v, .slice none 0 c]).run P w = .ok v w := by
  rcases hown.2 with ⟨rfl, rfl⟩ | ⟨g, cap, cur, rfl, _, _, hnc, _⟩
  · simp [Builtin.append_, run_underlying ht, sizeOf, typeInfo, hi, Builtin.lenOf, Builtin.firstCells]
  · simp [Builtin.append_, run_underlying ht, sizeOf, typeInfo, hi, Builtin.lenOf, Builtin.firstCells, hnc, storeCells]
theorem wpList_app_none {P : Program} {w : World} {ops : Array Oper} {rest : List Oper} {o : Oper} {a : Act} {Q : Exit → Act → World → Prop} (hgd : o.guard = none) (s x : Operand) (t : TypeId)
    (ho : o.op = .call { callee := .builtin .append, args := #[s, x], argTypes := #[t, t] })
    (base : Nat) (e : TypeId) (i : TypeInfo) (size : Nat) (ht : P.underlying t = some (.slice e)) (hi : P.info? e = some i)
    (v : Value) (n c : Nat) (xs : List Value) (hs : a.eval s = v) (hown : w.ownsRow base e size v n xs) (hx : a.eval x = .slice none 0 c)
    (h : wpList P ops Q rest (a.put o.dst v) w) : wpList P ops Q (o :: rest) a w := by
  refine wpList_plain hgd fun K hK => ?_
  have hrun := run_app_none (P := P) (w := w) base t o.type e i size ht hi v n c xs hown
  unfold Oper.wp
  simp [execOp, ho, resolve, invoke, builtin, hs, hx, hrun, Result.andThen]
  exact hK _ _ h
theorem rowL_nil (f : Nat → Nat → Value) (z : Nat) : rowL f z 0 = [] := by simp [rowL]
/-- append(v, x...), x a slice whose cells are known as a row. -/
theorem wpList_app_row {P : Program} {w : World} {ops : Array Oper} {rest : List Oper} {o : Oper} {a : Act} {Q : Exit → Act → World → Prop} (hgd : o.guard = none) (s x : Operand) (t : TypeId)
    (ho : o.op = .call { callee := .builtin .append, args := #[s, x], argTypes := #[t, t] })
    (base : Nat) (e : TypeId) (i : TypeInfo) (z : Value) (size bytes : Nat) (ht : P.underlying t = some (.slice e)) (hi : P.info? e = some i) (hz : i.zero = some z)
    (hsize : i.size = size) (hby : i.bytes = bytes) (hzs : z.cells.size = size) (hsz : 0 < size)
    (v : Value) (n : Nat) (xs : List Value) (hs : a.eval s = v) (hown : w.ownsRow base e size v n xs)
    (A : Option Addr) (m c : Nat) (f : Nat → Nat → Value) (hx : a.eval x = .slice A m c) (hrow : RowAt w A m size f) (h1 : ∀ k r, (f k r).oneCell' = true)
    (h63 : n + m ≤ maxLen) (hbytes : (n + m) * bytes ≤ 140737488355328) (hbase : base ≤ w.heap.size)
    (h : ∀ v' w', w'.ownsRow base e size v' (n + m) (xs ++ rowL f size m) → w.grownBy w' v.ownBlock → wpList P ops Q rest (a.put o.dst v') w') :
    wpList P ops Q (o :: rest) a w := by
  cases A with
  | none =>
    have hm : m = 0 := by
      rcases Nat.eq_zero_or_pos m with h0 | h0
      · exact h0
      · obtain ⟨b, o, h1, _⟩ := hrow h0
        cases h1
    subst hm
    refine wpList_app_none hgd s x t ho base e i size ht hi v n c xs hs hown hx (h v w ?_ ⟨rfl, rfl, rfl, Nat.le_refl _, fun _ _ _ => rfl⟩)
    rw [rowL_nil, List.append_nil]
    exact hown
  | some ad =>
    exact wpList_append_own_at w hgd s x t ho base e i z size bytes ht hi hz hsize hby hzs hsz v n xs hs hown ad m c (rowL f size m) hx (rowL_len _ _ _) (hrow.news hsz) (rowL_one h1) h63 hbytes hbase fun v' w' g1 g2 _ _ => h v' w' g1 g2
end Go.Proofs.YtkckoanphciddaaGreatDoor
end

/- Small facts of values and worlds. -/
section
namespace Go.Proofs.YtkckoanphciddaaGreatDoor
open Go Go.RowKit Go.Deep Go.Shelf

theorem info_val : (Tryz.prog.info? 40).map (fun i => (i.zero, i.size, i.bytes)) = some (some (.agg #[.int .i64 0, .int .i64 0, .int .i64 0, .string ⟨#[]⟩]), 4, 40) := by kernel_rfl
theorem vals_none (w : World) (a b c : Nat → Int) (d : Nat → ByteArray) : ValsAt w none 0 a b c d := fun h => absurd h (by omega)

theorem bel_new' (W : World) (o : Obj) : Below W.heap.size W (W.alloc o) := (Below.refl _ _).alloc (Nat.le_refl _) _
end Go.Proofs.YtkckoanphciddaaGreatDoor
end

/- The reference's copies. -/
section
namespace Go.Proofs.YtkckoanphciddaaGreatDoor
open Go Go.RowKit Go.Deep Go.Shelf

theorem info_cel' : (Tryz.prog.info? 38).map (·.size) = some 2 := by kernel_rfl
theorem run_app_new {P : Program} {w : World} (t ty e : TypeId) (i : TypeInfo) (z : Value) (size bytes : Nat) (ht : P.underlying t = some (.slice e)) (hi : P.info? e = some i) (hz : i.zero = some z)
    (hsize : i.size = size) (hby : i.bytes = bytes) (hzs : z.cells.size = size) (hsz : 0 < size) {b B : Nat} (hb : w.heap[b]? = some (.cells #[] e (0, 0))) (hB : B ≤ b)
    (A : Option Addr) (m c : Nat) (f : Nat → Nat → Value) (hrow : RowAt w A m size f) (h1 : ∀ k r, (f k r).oneCell' = true) (hm : m ≤ 1000000) (hb1 : bytes ≤ 1000) :
    ∃ P' c' w', (Builtin.append_ #[t, t] ty #[.slice (some ⟨b, 0, none⟩) 0 0, .slice A m c]).run P w = .ok (.slice P' m c') w' ∧ Up B P' ∧ RowAt w' P' m size f ∧ Below w.heap.size w w' := by
  have hlt : b < w.heap.size := (Array.getElem?_eq_some_iff.1 hb).1
  have hby2 : (0 + m) * bytes ≤ 140737488355328 := by
    have : m * bytes ≤ 1000000 * 1000 := Nat.mul_le_mul hm hb1
    rw [Nat.zero_add]
    omega
  have own : w.ownsRow B e size (.slice (some ⟨b, 0, none⟩) 0 0) 0 [] := ⟨by simp, .inr ⟨b, 0, #[], rfl, hB, hb, Nat.le_refl _, by unfold maxLen; omega, by simp, by simp⟩⟩
  have stay : Up B (some (⟨b, 0, none⟩ : Addr)) ∧ RowAt w (some ⟨b, 0, none⟩) 0 size f := ⟨fun a ha => by injection ha with ha; subst ha; exact ⟨hB, rfl, rfl⟩, fun h => absurd h (Nat.lt_irrefl 0)⟩
  cases A with
  | none =>
    have hm0 : m = 0 := by
      rcases Nat.eq_zero_or_pos m with h0 | h0
      · exact h0
      · obtain ⟨b', o, h1, _⟩ := hrow h0
        cases h1
    subst hm0
    exact ⟨_, _, _, run_app_none (P := P) (w := w) B t ty e i size ht hi _ 0 c [] own, stay.1, stay.2, Below.refl _ _⟩
  | some ad =>
    rcases Nat.eq_zero_or_pos m with rfl | hpos
    · have hr := run_append_room_cells (P := P) w t ty e i ht hi b 0 0 0 ad 0 c [] (by simp) (by intro j u h; simp at h) (by intro u h; cases h) (by omega) (by intro j h; exact absurd h (by simp)) (by intro j h; exact absurd h (by simp))
      exact ⟨_, _, _, hr, stay.1, stay.2, Below.refl _ _⟩
    · have hnews := hrow.news hsz
      obtain ⟨v', w', hr, h2, h3, h4⟩ := run_append_own (P := P) w B t ty e i z size bytes ht hi hz hsize hby hzs hsz _ 0 [] own ad m c (rowL f size m) (rowL_len _ _ _) hnews (rowL_one h1) (by unfold maxLen; omega) hby2 (by omega)
      subst hsize hby
      have hr2 := run_append_grow (P := P) w t ty e i z ht hi hz ⟨b, 0, none⟩ 0 0 [] (by simp) (by intro j u h; simp at h) ad m c (rowL f i.size m) (rowL_len _ _ _) hnews (by omega) (by omega) (growslice_fits (by omega) hby2)
      rw [hr] at hr2
      injection hr2 with e1 e2
      have hown2 : w'.ownsRow B e i.size v' m (rowL f i.size m) := by simpa using h2
      obtain ⟨P', c', rfl, u1, u2⟩ := RowAt.own hown2
      refine ⟨P', c', w', hr, u1, u2, ?_⟩
      rw [e2]
      exact (Below.drew (Below.refl _ _)).alloc (by simp) _
theorem wpList_app_new {P : Program} {w : World} {ops : Array Oper} {rest : List Oper} {o : Oper} {a : Act} {Q : Exit → Act → World → Prop} (hgd : o.guard = none) (s x : Operand) (t : TypeId)
    (ho : o.op = .call { callee := .builtin .append, args := #[s, x], argTypes := #[t, t] })
    (e : TypeId) (i : TypeInfo) (z : Value) (size bytes : Nat) (ht : P.underlying t = some (.slice e)) (hi : P.info? e = some i) (hz : i.zero = some z)
    (hsize : i.size = size) (hby : i.bytes = bytes) (hzs : z.cells.size = size) (hsz : 0 < size) (b B : Nat) (hb : w.heap[b]? = some (.cells #[] e (0, 0))) (hB : B ≤ b)
    (hs : a.eval s = .slice (some ⟨b, 0, none⟩) 0 0) (A : Option Addr) (m c : Nat) (f : Nat → Nat → Value) (hx : a.eval x = .slice A m c) (hrow : RowAt w A m size f) (h1 : ∀ k r, (f k r).oneCell' = true) (hm : m ≤ 1000000) (hb1 : bytes ≤ 1000)
    (h : ∀ P' c' w', Up B P' → RowAt w' P' m size f → Below w.heap.size w w' → wpList P ops Q rest (a.put o.dst (.slice P' m c')) w') : wpList P ops Q (o :: rest) a w := by
  obtain ⟨P', c', w', hr, u1, u2, u3⟩ := run_app_new (P := P) (w := w) t o.type e i z size bytes ht hi hz hsize hby hzs hsz hb hB A m c f hrow h1 hm hb1
  exact Lib.wpList_append_run w hgd s x t t ho _ _ hs hx _ w' hr (h P' c' w' u1 u2 u3)
section
variable {ops : Array Oper} {Q : Exit → Act → World → Prop} {K : Act → World → Prop} {a : Act} {w : World}
theorem op_apn {o : Oper} {d s x : Nat} {t e : TypeId} (ho : o.op = .call { callee := .builtin .append, args := #[.tmp s, .tmp x], argTypes := #[t, t] }) (hd : o.dst = some d)
    (i : TypeInfo) (z : Value) (size bytes : Nat) (ht : Tryz.prog.underlying t = some (.slice e)) (hi : Tryz.prog.info? e = some i) (hz : i.zero = some z)
    (hsize : i.size = size) (hby : i.bytes = bytes) (hzs : z.cells.size = size) (hsz : 0 < size) {b B : Nat} (hb : w.heap[b]? = some (.cells #[] e (0, 0))) (hB : B ≤ b)
    (hs : slot a s = .slice (some ⟨b, 0, none⟩) 0 0) {A : Option Addr} {m c : Nat} {f : Nat → Nat → Value} (hx : slot a x = .slice A m c) (hrow : RowAt w A m size f) (h1 : ∀ k r, (f k r).oneCell' = true) (hm : m ≤ 1000000) (hb1 : bytes ≤ 1000)
    (h : ∀ P' c' w', Up B P' → RowAt w' P' m size f → Below w.heap.size w w' → K (putSlot a d (.slice P' m c')) w') : o.wp Tryz.prog a w K Q := by
  obtain ⟨P', c', w', hr, u1, u2, u3⟩ := run_app_new (P := Tryz.prog) (w := w) t o.type e i z size bytes ht hi hz hsize hby hzs hsz hb hB A m c f hrow h1 hm hb1
  refine Lib.wp_append_run w (.tmp s) (.tmp x) t t ho _ _ (by rw [← hs]; simp [Act.eval, slot]) (by rw [← hx]; simp [Act.eval, slot]) _ w' hr ?_
  rw [hd]
  exact h P' c' w' u1 u2 u3
set_option maxRecDepth 100000 in
theorem op_bs0 {o : Oper} {d : Nat} {t e : TypeId} (ht : (t = 35 ∧ e = 3) ∨ (t = 36 ∧ e = 40) ∨ (t = 22 ∧ e = 43) ∨ (t = 23 ∧ e = 45)) (ho : o.op = .buildSlice t 0 #[]) (hd : o.dst = some d) (h : K (putSlot a d (.slice (some ⟨w.heap.size, 0, none⟩) 0 0)) (w.alloc (.cells #[] e))) : o.wp Tryz.prog a w K Q := by
  obtain ⟨op, dst, ty, pos, after, guard⟩ := o
  dsimp only at ho hd
  subst ho hd
  unfold Oper.wp
  rcases ht with ⟨rfl, rfl⟩ | ⟨rfl, rfl⟩ | ⟨rfl, rfl⟩ | ⟨rfl, rfl⟩ <;> (go_simp; exact h)
set_option maxRecDepth 100000 in
theorem op_fac {o : Oper} {d t b f : Nat} (hf : f < 2) (ho : o.op = .fieldAddr 38 (.tmp t) f) (hd : o.dst = some d) (hs : slot a t = .pointer (some ⟨b, 0, none⟩)) (h : K (putSlot a d (.pointer (some ⟨b, f, none⟩))) w) : o.wp Tryz.prog a w K Q := by
  obtain ⟨op, dst, ty, pos, after, guard⟩ := o
  dsimp only at ho hd
  subst ho hd
  have hs' : a.tmps[t]?.getD undef = .pointer (some ⟨b, 0, none⟩) := hs
  unfold Oper.wp
  rcases (by omega : f = 0 ∨ f = 1) with rfl | rfl <;> (go_simp; exact h)
set_option maxRecDepth 100000 in
theorem op_lsl {o : Oper} {d t b f : Nat} {v : Value} {ty : TypeId} (hty : ty = 35 ∨ ty = 36 ∨ ty = 22 ∨ ty = 23 ∨ ty = 24) (ho : o.op = .load ty (.tmp t)) (hd : o.dst = some d) (hs : slot a t = .pointer (some ⟨b, f, none⟩))
    (hc : w.cell? ⟨b, f, none⟩ = some v) (h : K (putSlot a d v) w) : o.wp Tryz.prog a w K Q := by
  obtain ⟨op, dst, ty', pos, after, guard⟩ := o
  dsimp only at ho hd
  subst ho hd
  have hs' : a.tmps[t]?.getD undef = .pointer (some ⟨b, f, none⟩) := hs
  unfold Oper.wp
  rcases hty with rfl | rfl | rfl | rfl | rfl <;> (go_simp; exact h)
theorem op_bdc {o : Oper} {d t1 t2 : Nat} {p q : Option Addr} {n c n' c' : Nat} (ho : o.op = .build 38 #[(0, .tmp t1), (1, .tmp t2)]) (hd : o.dst = some d) (h1 : slot a t1 = .slice p n c) (h2 : slot a t2 = .slice q n' c') (h : K (putSlot a d (.agg #[.slice p n c, .slice q n' c'])) w) : o.wp Tryz.prog a w K Q := by
  obtain ⟨op, dst, ty, pos, after, guard⟩ := o
  dsimp only at ho hd
  subst ho hd
  have h1' : a.tmps[t1]?.getD undef = .slice p n c := h1
  have h2' : a.tmps[t2]?.getD undef = .slice q n' c' := h2
  unfold Oper.wp
  go_simp
  exact h
theorem op_bda {o : Oper} {d t1 t2 : Nat} {p q : Option Addr} {n c n' c' : Nat} (ho : o.op = .build 29 #[(0, .tmp t1), (1, .tmp t2)]) (hd : o.dst = some d) (h1 : slot a t1 = .slice p n c) (h2 : slot a t2 = .slice q n' c') (h : K (putSlot a d (.agg #[.slice p n c, .slice q n' c', .slice none 0 0])) w) : o.wp Tryz.prog a w K Q := by
  obtain ⟨op, dst, ty, pos, after, guard⟩ := o
  dsimp only at ho hd
  subst ho hd
  have h1' : a.tmps[t1]?.getD undef = .slice p n c := h1
  have h2' : a.tmps[t2]?.getD undef = .slice q n' c' := h2
  unfold Oper.wp
  go_simp
  exact h
theorem two_gen {W : World} {r : Nat} {x y : Value} {ty : TypeId} (h : W.heap[r]? = some (.cells #[x, y] ty (0, 0))) : W.cell? ⟨r, 0, none⟩ = some x ∧ W.cell? ⟨r, 1, none⟩ = some y ∧ W.frozen? ⟨r, 0, none⟩ = false ∧ W.frozen? ⟨r, 1, none⟩ = false := by
  refine ⟨by simp [World.cell?, h], by simp [World.cell?, h], by simp [World.frozen?, h], by simp [World.frozen?, h]⟩
theorem two_sets {W : World} {r : Nat} {x y : Value} {ty : TypeId} (h : W.heap[r]? = some (.cells #[x, y] ty (0, 0))) (u v : Value) : ((W.setCell ⟨r, 0, none⟩ u).setCell ⟨r, 1, none⟩ v).heap[r]? = some (.cells #[u, v] ty (0, 0)) := by
  simp [World.setCell, Array.getElem?_modify, h]
theorem op_stc {o : Oper} {t s b : Nat} {p q : Option Addr} {n c n' c' : Nat} {x' y' : Value} (ho : o.op = .store 38 (.tmp t) (.tmp s)) (hd : o.dst = none) (hs : slot a t = .pointer (some ⟨b, 0, none⟩)) (hv : slot a s = .agg #[.slice p n c, .slice q n' c'])
    (hb : w.heap[b]? = some (.cells #[x', y'] 38 (0, 0))) (h : K a ((w.setCell ⟨b, 0, none⟩ (.slice p n c)).setCell ⟨b, 1, none⟩ (.slice q n' c'))) : o.wp Tryz.prog a w K Q := by
  obtain ⟨op, dst, ty, pos, after, guard⟩ := o
  dsimp only at ho hd
  subst ho hd
  have hs' : a.tmps[t]?.getD undef = .pointer (some ⟨b, 0, none⟩) := hs
  have hv' : a.tmps[s]?.getD undef = .agg #[.slice p n c, .slice q n' c'] := hv
  obtain ⟨r0, r1, f0, f1⟩ := two_gen hb
  unfold Oper.wp
  go_simp
  exact h
end
theorem ints_mono' {l : Nat} {x : Nat → Int} {B : Nat} : Mono (fun v W => ∃ P' c', v = .slice P' l c' ∧ IntsAt W P' l x ∧ Up B P') := by
  rintro v x y ⟨P, c, h1, h2, h3⟩ hb; exact ⟨P, c, h1, h2.below hb, h3⟩
theorem vals_mono' {l : Nat} {vk vn vd : Nat → Int} {vs : Nat → ByteArray} {B : Nat} : Mono (fun v W => ∃ P' c', v = .slice P' l c' ∧ ValsAt W P' l vk vn vd vs ∧ Up B P') := by
  rintro v x y ⟨P, c, h1, h2, h3⟩ hb; exact ⟨P, c, h1, h2.below hb, h3⟩
/-- An empty literal, in a block from B on. -/
def NewR (B : Nat) (e : TypeId) : Value → World → Prop := fun v W => ∃ b, v = .slice (some ⟨b, 0, none⟩) 0 0 ∧ B ≤ b ∧ W.heap[b]? = some (.cells #[] e (0, 0))
theorem newR_mono {B : Nat} {e : TypeId} : Mono (NewR B e) := by
  rintro v x y ⟨b, h1, h2, h3⟩ hb; exact ⟨b, h1, h2, (hb.block b (Array.getElem?_eq_some_iff.1 h3).1).trans h3⟩
set_option maxRecDepth 100000 in
set_option maxHeartbeats 4000000 in
theorem r_CopyCell (w : World) (P Q : Option Addr) (l pc v qc : Nat) (x vk vn vd : Nat → Int) (vs : Nat → ByteArray) (hp : IntsAt w P l x) (hq : ValsAt w Q v vk vn vd vs) (hl : l ≤ 1000000) (hv : v ≤ 1000000) :
    Calls Tryz.prog 54 #[.agg #[.slice P l pc, .slice Q v qc]] w fun e w' => ∃ P' c' Q' d', e = .returned (.agg #[.slice P' l c', .slice Q' v d']) ∧ IntsAt w' P' l x ∧ ValsAt w' Q' v vk vn vd vs ∧ Up w.heap.size P' ∧ Up w.heap.size Q' ∧ Below w.heap.size w w' := by
  have HP := Lib.hid hp.row
  have HQ := Lib.hid hq.row
  have HB : Hid (Below w.heap.size w (w.alloc (.cells #[.slice P l pc, .slice Q v qc] 38))) := (Below.refl _ _).alloc (Nat.le_refl _) _
  have KC := Lib.hid (cel_box w (.slice P l pc) (.slice Q v qc) 38)
  obtain ⟨i0, hI0, hiz0, hiz1, hiz2⟩ := info_parts info_int
  obtain ⟨i9, hI9, hzz0, hz1, hz2⟩ := info_parts info_val
  clear hp hq
  go_enter Tryz.func54, Tryz.ntmps54
  go_wp2_with fail
  rename_i K hK
  have hz0 : ((w.alloc (.cells #[.slice P l pc, .slice Q v qc] 38)).alloc (.cells #[.slice none 0 0, .slice none 0 0] 38)).heap.size = w.heap.size + 2 := by simp
  have HB0 : Hid (Below (w.alloc (.cells #[.slice P l pc, .slice Q v qc] 38)).heap.size (w.alloc (.cells #[.slice P l pc, .slice Q v qc] 38)) ((w.alloc (.cells #[.slice P l pc, .slice Q v qc] 38)).alloc (.cells #[.slice none 0 0, .slice none 0 0] 38))) := bel_nw _ _
  have HRes : Hid (((w.alloc (.cells #[.slice P l pc, .slice Q v qc] 38)).alloc (.cells #[.slice none 0 0, .slice none 0 0] 38)).heap[w.heap.size + 1]? = some (.cells #[.slice none 0 0, .slice none 0 0] 38 (0, 0))) := by
    have := heap_alloc_new (w.alloc (.cells #[.slice P l pc, .slice Q v qc] 38)) (.cells #[.slice none 0 0, .slice none 0 0] 38)
    rw [World.size_alloc] at this
    exact this
  generalize w.alloc (.cells #[.slice P l pc, .slice Q v qc] 38) = Wa at *
  generalize Wa.alloc (.cells #[.slice none 0 0, .slice none 0 0] 38) = W0 at *
  refine wp_region_TL (n1 := 9) (T := TL [NewR (w.heap.size + 2) 3, isW (.pointer (some ⟨w.heap.size, 0, none⟩)), isW (.slice P l pc), fun v' W => ∃ P' c', v' = .slice P' l c' ∧ IntsAt W P' l x ∧ Up (w.heap.size + 2) P', NewR (w.heap.size + 2) 40, isW (.pointer (some ⟨w.heap.size, 1, none⟩)), isW (.slice Q v qc), fun v' W => ∃ P' c', v' = .slice P' v c' ∧ ValsAt W P' v vk vn vd vs ∧ Up (w.heap.size + 2) P',
    fun u W => ∃ P' c' Q' d', u = .agg #[.slice P' l c', .slice Q' v d'] ∧ (IntsAt W P' l x ∧ Up (w.heap.size + 2) P') ∧ ValsAt W Q' v vk vn vd vs ∧ Up (w.heap.size + 2) Q']) (by kernel_rfl) rfl rfl rfl (by kernel_rfl) ?step ?tail
  case step =>
    intro listed a W i H hi9 hilt
    have dl := H.dl (l := [some 3, some 4, some 5, some 6, some 7, some 8, some 9, some 10, some 11, none]) rfl
    have ap := apart_of dl (by decide)
    have HBW : Hid (Below Wa.heap.size Wa W) := st HB0.out H.below
    have hBW1 : w.heap.size + 2 ≤ W.heap.size := by rw [← hz0]; exact H.below.size
    obtain ⟨m0, m1⟩ := KC.out W HBW.out
    have mono : ∀ p ∈ [NewR (w.heap.size + 2) 3, isW (.pointer (some ⟨w.heap.size, 0, none⟩)), isW (.slice P l pc), fun v' W => ∃ P' c', v' = .slice P' l c' ∧ IntsAt W P' l x ∧ Up (w.heap.size + 2) P', NewR (w.heap.size + 2) 40, isW (.pointer (some ⟨w.heap.size, 1, none⟩)), isW (.slice Q v qc), fun v' W => ∃ P' c', v' = .slice P' v c' ∧ ValsAt W P' v vk vn vd vs ∧ Up (w.heap.size + 2) P',
      fun u W => ∃ P' c' Q' d', u = .agg #[.slice P' l c', .slice Q' v d'] ∧ (IntsAt W P' l x ∧ Up (w.heap.size + 2) P') ∧ ValsAt W Q' v vk vn vd vs ∧ Up (w.heap.size + 2) Q'], Mono p := by
      intro p hp
      simp only [List.mem_cons, List.not_mem_nil, or_false] at hp
      rcases hp with rfl | rfl | rfl | rfl | rfl | rfl | rfl | rfl | rfl
      · exact newR_mono
      · exact isW_mono _
      · exact isW_mono _
      · exact ints_mono'
      · exact newR_mono
      · exact isW_mono _
      · exact isW_mono _
      · exact vals_mono'
      · rintro v' x y ⟨P', c', Q', d', h1, h2, h3, h4⟩ hb; exact ⟨P', c', Q', d', h1, ⟨h2.1.below hb, h2.2⟩, h3.below hb, h4⟩
    rcases (by omega : i = 0 ∨ i = 1 ∨ i = 2 ∨ i = 3 ∨ i = 4 ∨ i = 5 ∨ i = 6 ∨ i = 7 ∨ i = 8) with rfl | rfl | rfl | rfl | rfl | rfl | rfl | rfl | rfl
    · exact wpOp_of rfl (.inl rfl) (op_bs0 (.inl ⟨rfl, rfl⟩) rfl rfl (H.over mono ap rfl rfl (by simp) (bel_nw W _) ⟨_, rfl, hBW1, heap_alloc_new W _⟩))
    · exact wpOp_of rfl (.inl rfl) (op_fac (by decide) rfl rfl (H.old 1 (old_of' dl 1 (by decide))) (H.over mono ap rfl rfl (by simp) (Below.refl _ _) rfl))
    · exact wpOp_of rfl (.inl rfl) (op_lsl (.inl rfl) rfl rfl (H.got' hi9 (j := 1) (t := 4) rfl (by kernel_rfl) rfl rfl) m0 (H.over mono ap rfl rfl (by simp) (Below.refl _ _) rfl))
    · obtain ⟨b, e1, e2, e3⟩ := H.got' hi9 (j := 0) (t := 3) rfl (by kernel_rfl) rfl rfl
      refine wpOp_of rfl (.inl rfl) (op_apn rfl rfl i0 (.int .i64 0) 1 8 Tryz.underlying35 hI0 hiz0 hiz1 hiz2 rfl (by decide) e3 e2 e1 (H.got' hi9 (j := 2) (t := 5) rfl (by kernel_rfl) rfl rfl) (HP.out.below (st HB.out HBW.out)) (intF_one x) hl (by decide) ?_)
      intro P' c' w' u1 u2 u3
      exact H.over mono ap rfl rfl (by simp) u3 ⟨P', c', rfl, u2.ints, u1⟩
    · exact wpOp_of rfl (.inl rfl) (op_bs0 (.inr (.inl ⟨rfl, rfl⟩)) rfl rfl (H.over mono ap rfl rfl (by simp) (bel_nw W _) ⟨_, rfl, hBW1, heap_alloc_new W _⟩))
    · exact wpOp_of rfl (.inl rfl) (op_fac (by decide) rfl rfl (H.old 1 (old_of' dl 1 (by decide))) (H.over mono ap rfl rfl (by simp) (Below.refl _ _) rfl))
    · exact wpOp_of rfl (.inl rfl) (op_lsl (.inr (.inl rfl)) rfl rfl (H.got' hi9 (j := 5) (t := 8) rfl (by kernel_rfl) rfl rfl) m1 (H.over mono ap rfl rfl (by simp) (Below.refl _ _) rfl))
    · obtain ⟨b, e1, e2, e3⟩ := H.got' hi9 (j := 4) (t := 7) rfl (by kernel_rfl) rfl rfl
      refine wpOp_of rfl (.inl rfl) (op_apn rfl rfl i9 _ 4 40 Tryz.underlying36 hI9 hzz0 hz1 hz2 rfl (by decide) e3 e2 e1 (H.got' hi9 (j := 6) (t := 9) rfl (by kernel_rfl) rfl rfl) (HQ.out.below (st HB.out HBW.out)) (valF4_one _ _ _ _) hv (by decide) ?_)
      intro P' c' w' u1 u2 u3
      exact H.over mono ap rfl rfl (by simp) u3 ⟨P', c', rfl, u2.vals, u1⟩
    · obtain ⟨P', c', e1, d1, d2⟩ := H.got' hi9 (j := 3) (t := 6) rfl (by kernel_rfl) rfl rfl
      obtain ⟨Q', d', e2, d3, d4⟩ := H.got' hi9 (j := 7) (t := 10) rfl (by kernel_rfl) rfl rfl
      exact wpOp_of rfl (.inl rfl) (op_bdc rfl rfl e1 e2 (H.over mono ap rfl rfl (by simp) (Below.refl _ _) ⟨P', c', Q', d', rfl, ⟨d1, d2⟩, d3, d4⟩))
  case tail =>
    intro listed a W H hall
    obtain ⟨P', c', Q', d', e1, ⟨d1, d2⟩, d3, d4⟩ := H.got 8 _ 11 rfl rfl (hall 8 (by decide))
    have dl := H.dl (l := [some 3, some 4, some 5, some 6, some 7, some 8, some 9, some 10, some 11, none]) rfl
    have s2 := H.old 2 (old_of' dl 2 (by decide))
    have hres := (H.below.block _ (by rw [hz0]; omega)).trans HRes.out
    refine op_stc rfl rfl s2 e1 hres ?_
    have hdf : a.defers = [] := H.defers.trans rfl
    have HBW : Below Wa.heap.size Wa W := st HB0.out H.below
    refine hK _ _ ?_
    go_wp2
    refine bodyPost_ret (v := .agg #[.slice P' l c', .slice Q' v d']) (res_cell Tryz.results54 _ _ (w.heap.size + 1) 38 _ (0, 0) _ (by rw [Array.getD_eq_getD_getElem?]; exact s2) (two_sets hres _ _) Tryz.underlying38 rfl (by rw [info_cel']; rfl)) hdf ?_
    have gr : W.grownBy ((W.setCell ⟨w.heap.size + 1, 0, none⟩ (.slice P' l c')).setCell ⟨w.heap.size + 1, 1, none⟩ (.slice Q' v d')) (some (w.heap.size + 1)) := gr2 (grown_set _ _ _ _) (grown_set _ _ _ _)
    refine ⟨P', c', Q', ⟨d', rfl⟩, (d1.row.grown gr (d2.ne (by omega))).ints, (d3.row.grown gr (d4.ne (by omega))).vals, d2.mono (by omega), d4.mono (by omega), ?_⟩
    exact ((st HB.out HBW).setCell (p := ⟨w.heap.size + 1, 0, none⟩) (by show w.heap.size ≤ w.heap.size + 1; omega) _).setCell (p := ⟨w.heap.size + 1, 1, none⟩) (by show w.heap.size ≤ w.heap.size + 1; omega) _
theorem dims_mono' {n : Nat} {nm : Nat → ByteArray} {lo hi : Nat → Int} {B : Nat} : Mono (fun v W => ∃ P' c', v = .slice P' n c' ∧ DimsAt W P' n nm lo hi ∧ Up B P') := by
  rintro v x y ⟨P, c, h1, h2, h3⟩ hb; exact ⟨P, c, h1, h2.below hb, h3⟩
theorem attrs_mono' {m : Nat} {an : Nat → ByteArray} {ty : Nat → Int} {B : Nat} : Mono (fun v W => ∃ P' c', v = .slice P' m c' ∧ AttrsAt W P' m an ty ∧ Up B P') := by
  rintro v x y ⟨P, c, h1, h2, h3⟩ hb; exact ⟨P, c, h1, h2.below hb, h3⟩
theorem info_dim' : (Tryz.prog.info? 43).map (fun i => (i.zero, i.size, i.bytes)) = some (some (.agg #[.string ⟨#[]⟩, .int .i64 0, .int .i64 0]), 3, 32) := by kernel_rfl
theorem info_att' : (Tryz.prog.info? 45).map (fun i => (i.zero, i.size, i.bytes)) = some (some (.agg #[.string ⟨#[]⟩, .int .i64 0]), 2, 24) := by kernel_rfl
set_option maxRecDepth 100000 in
set_option maxHeartbeats 4000000 in
theorem r_Empty (w : World) (A B : Option Addr) (n cap m bcap : Nat) (nm : Nat → ByteArray) (lo hi : Nat → Int) (an : Nat → ByteArray) (ty : Nat → Int) (hd : DimsAt w A n nm lo hi) (ha : AttrsAt w B m an ty) (hn : n ≤ 1000000) (hm : m ≤ 1000000) :
    Calls Tryz.prog 53 #[.slice A n cap, .slice B m bcap] w fun e w' => ∃ P c' Q d', e = .returned (ArrV P n c' Q m d' none 0 0) ∧ DimsAt w' P n nm lo hi ∧ AttrsAt w' Q m an ty ∧ Up w.heap.size P ∧ Up w.heap.size Q ∧ Below w.heap.size w w' := by
  have HP := Lib.hid hd.row
  have HQ := Lib.hid ha.row
  obtain ⟨i0, hI0, hiz0, hiz1, hiz2⟩ := info_parts info_dim'
  obtain ⟨i9, hI9, hzz0, hzz1, hzz2⟩ := info_parts info_att'
  clear hd ha
  go_enter Tryz.func53, Tryz.ntmps53
  have HB : Hid (Below w.heap.size w ((w.alloc (.cells #[.slice none 0 0, .slice none 0 0, .slice none 0 0] 29)).alloc (.cells #[] 43))) := ((Below.refl _ _).alloc (Nat.le_refl _) _).alloc (by simp) _
  go_wp2_with (at_builtin; refine wpList_app_new rfl _ _ 22 rfl 43 i0 _ 3 32 Tryz.underlying22 hI0 hiz0 hiz1 hiz2 rfl (by decide) (w.heap.size + 1) (w.heap.size + 1) ?qa (Nat.le_refl _) rfl A n cap (dimF nm lo hi) rfl (HP.out.below HB.out) (dimF_one _ _ _) hn (by decide) ?_)
  case qa => simpa using heap_alloc_new (w.alloc (.cells #[.slice none 0 0, .slice none 0 0, .slice none 0 0] 29)) (.cells #[] 43)
  intro P1 c1 w1 u1 u2 u3
  have hz : ((w.alloc (.cells #[.slice none 0 0, .slice none 0 0, .slice none 0 0] 29)).alloc (.cells #[] 43)).heap.size = w.heap.size + 1 + 1 := by simp
  have hres : ((w.alloc (.cells #[.slice none 0 0, .slice none 0 0, .slice none 0 0] 29)).alloc (.cells #[] 43)).heap[w.heap.size]? = some (.cells #[.slice none 0 0, .slice none 0 0, .slice none 0 0] 29 (0, 0)) := ((bel_nw _ _).block _ (by simp)).trans (heap_alloc_new _ _)
  rw [← hz] at u3
  have HB1 : Hid (Below w.heap.size w w1) := st HB.out u3
  have hz1 : w.heap.size + 2 ≤ w1.heap.size := by have := u3.size; omega
  have HRes1 : Hid (w1.heap[w.heap.size]? = some (.cells #[.slice none 0 0, .slice none 0 0, .slice none 0 0] 29 (0, 0))) := (u3.block _ (by omega)).trans hres
  have HU1 := Lib.hid (And.intro u1 u2)
  generalize ((w.alloc (.cells #[.slice none 0 0, .slice none 0 0, .slice none 0 0] 29)).alloc (.cells #[] 43)) = W0 at *
  clear hres HB hz u1 u2 u3
  have HB2 : Hid (Below w1.heap.size w1 (w1.alloc (.cells #[] 45))) := bel_nw _ _
  have hz2 : (w1.alloc (.cells #[] 45)).heap.size = w1.heap.size + 1 := by simp
  go_wp2_with (at_builtin; refine wpList_app_new rfl _ _ 23 rfl 45 i9 _ 2 24 Tryz.underlying23 hI9 hzz0 hzz1 hzz2 rfl (by decide) w1.heap.size (w.heap.size + 1) ?qa (by omega) rfl B m bcap (attF an ty) rfl (HQ.out.below (st HB1.out HB2.out)) (attF_one _ _) hm (by decide) ?_)
  case qa => exact heap_alloc_new _ _
  intro P2 c2 w2 u4 u5 u6
  rw [← hz2] at u6
  have HB3 : Hid (Below w1.heap.size w1 w2) := st HB2.out u6
  have hres := (HB3.out.block _ (by omega)).trans HRes1.out
  obtain ⟨⟨y0, y1, y2⟩, z0, z1, z2⟩ := three_at hres
  go_wp2
  refine bodyPost_ret (v := ArrV P1 n c1 P2 m c2 none 0 0) (res_cell Tryz.results53 _ _ (w.heap.size) 29 _ (0, 0) _ rfl (three_set hres _ _ _) Tryz.underlying29 rfl (by rw [info_arr]; rfl)) rfl ?_
  have gr : w2.grownBy (((w2.setCell ⟨w.heap.size, 0, none⟩ (.slice P1 n c1)).setCell ⟨w.heap.size, 1, none⟩ (.slice P2 m c2)).setCell ⟨w.heap.size, 2, none⟩ (.slice none 0 0)) (some w.heap.size) := gr2 (gr2 (grown_set _ _ _ _) (grown_set _ _ _ _)) (grown_set _ _ _ _)
  refine ⟨P1, c1, P2, c2, rfl, ((HU1.out.2.below HB3.out).grown gr (HU1.out.1.ne (by omega))).dims, (u5.grown gr (u4.ne (by omega))).attrs, HU1.out.1.mono (by omega), u4.mono (by omega), ?_⟩
  exact (((st HB1.out HB3.out).setCell (p := ⟨w.heap.size, 0, none⟩) (Nat.le_refl _) _).setCell (p := ⟨w.heap.size, 1, none⟩) (Nat.le_refl _) _).setCell (p := ⟨w.heap.size, 2, none⟩) (Nat.le_refl _) _
end Go.Proofs.YtkckoanphciddaaGreatDoor
end

/- A region whose order is open, up to where the rest is a chain. -/
section
namespace Go.Proofs.YtkckoanphciddaaGreatDoor
open Go Go.RowKit Go.Deep Go.Shelf RW

section
variable {ops : Array Oper} {Q : Exit → Act → World → Prop} {P : Program}
theorem wpAny_head {n1 : Nat} (hn1 : n1 ≤ ops.size) (Inv : Array Bool → Act → World → Prop)
    (form : ∀ listed a w, Inv listed a w → listed.size = ops.size ∧ ∀ i, n1 ≤ i → listed.getD i false = false)
    (late : ∀ listed a w i, Inv listed a w → i ∈ Region.ready .any ops listed → n1 ≤ i → ∀ j, j < n1 → listed.getD j false = true)
    (dag : ∀ (i : Nat) (o : Oper), ops[i]? = some o → ∀ e : Edge, e ∈ o.after → e.on < i)
    (step : ∀ listed a w i, Inv listed a w → i ∈ Region.ready .any ops listed → i < n1 → wpOp P ops Q i (Inv (listed.setIfInBounds i true)) a w)
    (tail : ∀ fuel a w, Inv (firsts ops.size n1) a w → ops.size - n1 ≤ fuel → wpAny P .any ops Q fuel (firsts ops.size n1) a w) :
    ∀ (fuel : Nat) (listed : Array Bool) (a : Act) (w : World), leftOf listed ≤ fuel → Inv listed a w → wpAny P .any ops Q fuel listed a w := by
  intro fuel
  induction fuel with
  | zero =>
    intro listed a w hf hi
    obtain ⟨hs, hl⟩ := form listed a w hi
    by_cases hall : ∀ j, j < n1 → listed.getD j false = true
    · have e := eq_firsts hn1 hs hall hl
      subst e
      exact tail 0 a w hi (by have := leftOf_firsts ops.size n1 hn1; omega)
    · exfalso
      obtain ⟨j, hj⟩ := Classical.not_forall.1 hall
      obtain ⟨hj1, hj2⟩ := Classical.not_imp.1 hj
      have := leftOf_set listed j (by rw [Array.getD, dif_pos (by omega)] at hj2 ⊢; simpa using hj2)
      omega
  | succ fuel ih =>
    intro listed a w hf hi
    obtain ⟨hs, hl⟩ := form listed a w hi
    by_cases hall : ∀ j, j < n1 → listed.getD j false = true
    · have e := eq_firsts hn1 hs hall hl
      subst e
      exact tail (fuel + 1) a w hi (by have := leftOf_firsts ops.size n1 hn1; omega)
    · obtain ⟨j, hj⟩ := Classical.not_forall.1 hall
      obtain ⟨hj1, hj2⟩ := Classical.not_imp.1 hj
      have hj3 : listed.getD j false = false := by simpa using hj2
      refine ⟨fun hr => ?_, fun i hm => ?_⟩
      · obtain ⟨i, _, hi2⟩ := least_ready dag hs (by omega) hj3
        rw [hr] at hi2
        cases hi2
      · have hr := mem_ready hm
        have hin : i < n1 := by
          by_cases hin : i < n1
          · exact hin
          · exfalso
            have := late listed a w i hi hm (by omega) j hj1
            rw [hj3] at this
            cases this
        exact wpOp_mono (fun a' w' h' => ih _ a' w' (by have := leftOf_set listed i hr.2.1; omega) h') (step listed a w i hi hm hin)
/-- Behind n1, each operation waits for the one ahead of it. -/
def chain (ops : Array Oper) (n1 : Nat) : Bool := (List.range ops.size).all fun k => decide (k ≤ n1) || ((ops[k]?).map fun o => o.after.any fun e => e.on == k - 1 && Region.binds .any e).getD false
theorem chain_on {n1 k : Nat} {o : Oper} (hc : chain ops n1 = true) (hk : n1 < k) (ho : ops[k]? = some o) : (o.after.any fun e => e.on == k - 1 && Region.binds .any e) = true := by
  unfold chain at hc
  rw [List.all_eq_true] at hc
  have := hc k (List.mem_range.2 (Array.getElem?_eq_some_iff.1 ho).1)
  rw [ho, Bool.or_eq_true] at this
  rcases this with h | h
  · have := of_decide_eq_true h; omega
  · simpa using h
theorem firsts_set {n k : Nat} (h : k < ops.size) (_hn : n = ops.size) : (firsts ops.size k).setIfInBounds k true = firsts ops.size (k + 1) := by
  apply eq_firsts (by omega)
  · simp [firsts_size ops.size k (by omega)]
  · intro j hj
    rw [set_getD _ _ _ (by rw [firsts_size _ _ (by omega)]; exact h), firsts_getD _ _ _ (by omega)]
    by_cases e : j = k
    · rw [if_pos e]
    · rw [if_neg e]; exact decide_eq_true (by omega)
  · intro j hj
    rw [set_getD _ _ _ (by rw [firsts_size _ _ (by omega)]; exact h), firsts_getD _ _ _ (by omega), if_neg (by omega)]
    exact decide_eq_false (by omega)
theorem wpAny_tail {n1 : Nat} (hc : chain ops n1 = true) (dag : ∀ (i : Nat) (o : Oper), ops[i]? = some o → ∀ e : Edge, e ∈ o.after → e.on < i) :
    ∀ m k, k + m = ops.size → n1 ≤ k → ∀ fuel a w, m ≤ fuel → wpList P ops Q (ops.toList.drop k) a w → wpAny P .any ops Q fuel (firsts ops.size k) a w := by
  intro m
  induction m with
  | zero =>
    intro k hk hn fuel a w _ h
    obtain rfl : k = ops.size := by omega
    have hr : ∀ i, i ∉ Region.ready .any ops (firsts ops.size ops.size) := fun i hi => by
      have h1 := (mem_ready hi).1
      have h2 := (mem_ready hi).2.1
      have h3 := firsts_getD ops.size ops.size i (Nat.le_refl _)
      rw [Array.getD_eq_getD_getElem?] at h2 h3
      rw [decide_eq_true h1] at h3
      cases hx : (firsts ops.size ops.size)[i]? <;> rw [hx] at h2 h3 <;> simp_all
    have hr2 := List.eq_nil_iff_forall_not_mem.2 hr
    rw [← Array.length_toList, List.drop_length] at h
    cases fuel with
    | zero => exact ⟨hr2, h⟩
    | succ fuel => exact ⟨fun _ => h, fun i hi => absurd hi (hr i)⟩
  | succ m ih =>
    intro k hk hn fuel a w hf h
    obtain ⟨fu, rfl⟩ : ∃ fu, fuel = fu + 1 := ⟨fuel - 1, by omega⟩
    have hkl : k < ops.size := by omega
    have hun : (firsts ops.size k).getD k false = false := by rw [firsts_getD _ _ _ (by omega)]; exact decide_eq_false (by omega)
    refine ⟨fun hr => ?_, fun i hi => ?_⟩
    · obtain ⟨i, _, hi2⟩ := least_ready dag (firsts_size _ _ (by omega)) hkl hun
      rw [hr] at hi2
      cases hi2
    · have h1 := (mem_ready hi).1
      have h2 := (mem_ready hi).2.1
      have hik : k ≤ i := by
        have h3 := firsts_getD ops.size k i (by omega)
        by_cases hlt : i < k
        · rw [Array.getD_eq_getD_getElem?] at h2 h3
          rw [decide_eq_true hlt] at h3
          cases hx : (firsts ops.size k)[i]? <;> rw [hx] at h2 h3 <;> simp_all
        · omega
      have hik2 : i = k := by
        rcases Nat.lt_or_ge k i with hlt | hge
        · have h4 := ready_onS hi (Array.getElem?_eq_getElem h1) (chain_on hc (by omega) (Array.getElem?_eq_getElem h1))
          rw [firsts_getD _ _ _ (by omega)] at h4
          have := of_decide_eq_true h4
          omega
        · omega
      subst hik2
      have hd : ops.toList.drop i = ops[i] :: ops.toList.drop (i + 1) := by
        rw [List.drop_eq_getElem_cons (by simpa using hkl)]
        simp
      rw [hd] at h
      unfold wpOp
      rw [Array.getElem?_eq_getElem h1]
      unfold wpList at h
      rw [firsts_set hkl rfl]
      have key := ih (i + 1) (by omega) (by omega) fu
      simp only
      by_cases hw : Region.wanted ops[i] (yielded ops a.tmps) = true
      · rw [if_pos hw] at h ⊢
        exact h.imp (Oper.wp_mono fun a' w' h' => key a' w' (by omega) h') id
      · rw [if_neg hw] at h ⊢
        exact key _ _ (by omega) h
/-- The operations ahead of n1 in any order, by what each leaves in its slot; the others one behind the other. -/
theorem wp_region_TK {id : Nat} {a0 : Act} {w0 : World} {T : Nat → Value → World → Prop} {n1 : Nat} (hm : P.follows .mixedOrders = true) (hn1 : n1 ≤ ops.size) (hc : RW.chk ops n1 = true) (hch : chain ops n1 = true)
    (step : ∀ listed a w i, Held ops a0 w0 T listed a w → i ∈ Region.ready .any ops listed → i < n1 → wpOp P ops Q i (Held ops a0 w0 T (listed.setIfInBounds i true)) a w)
    (tail : ∀ listed a w, Held ops a0 w0 T listed a w → (∀ j, j < n1 → listed.getD j false = true) → wpList P ops Q (ops.toList.drop n1) a w) : (Code.region id ops true).wp P Q a0 w0 := by
  have dag := chk_dag hc
  have late1 : ∀ (listed : Array Bool), CL ops listed → n1 ∈ Region.ready .any ops listed ∨ listed.getD n1 false = true → ∀ j, j < n1 → listed.getD j false = true := by
    unfold RW.chk at hc
    rw [Bool.and_eq_true, Bool.and_eq_true, List.all_eq_true, List.all_eq_true, List.all_eq_true] at hc
    obtain ⟨⟨c1, c2⟩, c3⟩ := hc
    intro listed hcl hm j hj
    have key : ∀ m j, m + j = n1 → 1 ≤ m → listed.getD j false = true := by
      intro m
      induction m using Nat.strongRecOn with
      | _ m ih =>
        intro j hmj hm1
        have hk := c3 j (List.mem_range.2 (by omega))
        rw [List.any_eq_true] at hk
        obtain ⟨k, hk1, hk2⟩ := hk
        rw [Bool.and_eq_true, decide_eq_true_eq] at hk2
        obtain ⟨hk2, hk3⟩ := hk2
        have hk4 := List.mem_range.1 hk1
        cases ho : ops[k]? with
        | none => rw [ho] at hk3; cases hk3
        | some o =>
          rw [ho] at hk3
          by_cases e : k = n1
          · subst e
            rcases hm with hm | hm
            · exact ready_onS hm ho hk3
            · exact hcl.on ho hk3 hm
          · exact hcl.on ho hk3 (ih (n1 - k) (by omega) k (by omega) (by omega))
    exact key (n1 - j) j (by omega) (by omega)
  refine wp_region_any hm (wpAny_head hn1 (fun listed a w => Held ops a0 w0 T listed a w ∧ (∀ i, n1 ≤ i → listed.getD i false = false) ∧ CL ops listed) (fun listed a w h => ⟨h.1.size, h.2.1⟩) (fun listed a w i h hi hni j hj => ?_) dag (fun listed a w i h hi hlt => ?_) (fun fuel a w h hf => ?_) _ _ _ _ ?_ ?_)
  · rcases Nat.lt_or_ge n1 i with hlt | hge
    · exfalso
      have h1 := (mem_ready hi).1
      have h4 := ready_onS hi (Array.getElem?_eq_getElem h1) (chain_on hch hlt (Array.getElem?_eq_getElem h1))
      rw [h.2.1 (i - 1) (by omega)] at h4
      cases h4
    · obtain rfl : i = n1 := by omega
      exact late1 listed h.2.2 (.inl hi) j hj
  · refine wpOp_mono ?_ (step listed a w i h.1 hi hlt)
    intro a' w' H'
    refine ⟨H', fun j hj => ?_, h.2.2.set hi⟩
    rw [set_getD _ _ _ (by rw [h.1.size]; exact (mem_ready hi).1), if_neg (by omega)]
    exact h.2.1 j hj
  · refine wpAny_tail hch dag (ops.size - n1) n1 (by omega) (Nat.le_refl _) fuel a w hf (tail _ a w h.1 fun j hj => ?_)
    rw [firsts_getD _ _ _ hn1]
    exact decide_eq_true hj
  · unfold leftOf
    simp
  · have hf : ∀ j, (Array.replicate ops.size false).getD j false = false := by
      intro j
      rw [Array.getD_eq_getD_getElem?, Array.getElem?_replicate]
      split <;> rfl
    exact ⟨⟨by simp, rfl, rfl, Below.drew (Below.refl _ _), fun _ _ => rfl, fun i o t _ _ hl => by rw [hf] at hl; cases hl⟩, fun i _ => hf i, fun j oj _ hl => by rw [hf] at hl; cases hl⟩
end
end Go.Proofs.YtkckoanphciddaaGreatDoor
end

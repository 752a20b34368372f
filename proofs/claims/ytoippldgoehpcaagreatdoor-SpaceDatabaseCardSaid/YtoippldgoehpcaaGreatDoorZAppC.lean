/- The reference's copies. -/
import Derived.Test.YtoippldgoehpcaaGreatDoorZFndS
import Derived.Test.YtoippldgoehpcaaGreatDoorZGet
import Derived.Maps.AppendAt

/- The reference's copies. -/
section
namespace Go.Proofs.YtoippldgoehpcaaGreatDoor
open Go Go.RowKit Go.Deep Go.Shelf

theorem info_cel' : (Tryz.prog.info? 41).map (·.size) = some 2 := by kernel_rfl
theorem run_app_new {P : Program} {w : World} (t ty e : TypeId) (i : TypeInfo) (z : Value) (size bytes : Nat) (ht : P.underlying t = some (.slice e)) (hi : P.info? e = some i) (hz : i.zero = some z)
    (hsize : i.size = size) (hby : i.bytes = bytes) (hzs : z.cells.size = size) (hsz : 0 < size) {b B : Nat} (hb : w.heap[b]? = some (.cells #[] e (0, 0))) (hB : B ≤ b)
    (A : Option Addr) (m c : Nat) (f : Nat → Nat → Value) (hrow : RowAt w A m size f) (h1 : ∀ k r, (f k r).oneCell' = true) (hm : m ≤ 1000000) (hb1 : bytes ≤ 1000) :
    ∃ P' c' w', (Builtin.append_ #[t, t] ty #[.slice (some ⟨b, 0, none⟩) 0 0, .slice A m c]).run P w = .ok (.slice P' m c') w' ∧ Up B P' ∧ RowAt w' P' m size f ∧ Below w.heap.size w w' := by
  have hlt : b < w.heap.size := (Array.getElem?_eq_some_iff.1 hb).1
  have hby2 : (0 + m) * bytes ≤ 140737488355328 := by
    have : m * bytes ≤ 1000000 * 1000 := Nat.mul_le_mul hm hb1
    rw [Nat.zero_add]
    omega
  have own : w.ownsRow B e size (.slice (some ⟨b, 0, none⟩) 0 0) 0 [] := ⟨by simp, .inr ⟨b, 0, #[], rfl, hB, hb, Nat.le_refl _, by unfold maxLen; omega, by simp, by simp⟩⟩
  have stay : Up B (some (⟨b, 0, none⟩ : Addr)) ∧ RowAt w (some ⟨b, 0, none⟩) 0 size f := ⟨fun a ha => by injection ha with ha; subst ha; exact ⟨hB, rfl, rfl⟩, fun h => absurd h (Nat.lt_irrefl 0)⟩
  cases A with
  | none =>
    have hm0 : m = 0 := by
      rcases Nat.eq_zero_or_pos m with h0 | h0
      · exact h0
      · obtain ⟨b', o, h1, _⟩ := hrow h0
        cases h1
    subst hm0
    exact ⟨_, _, _, run_app_none (P := P) (w := w) B t ty e i size ht hi _ 0 c [] own, stay.1, stay.2, Below.refl _ _⟩
  | some ad =>
    rcases Nat.eq_zero_or_pos m with rfl | hpos
    · have hr := run_append_room_cells (P := P) w t ty e i ht hi b 0 0 0 ad 0 c [] (by simp) (by intro j u h; simp at h) (by intro u h; cases h) (by omega) (by intro j h; exact absurd h (by simp)) (by intro j h; exact absurd h (by simp))
      exact ⟨_, _, _, hr, stay.1, stay.2, Below.refl _ _⟩
    · have hnews := hrow.news hsz
      obtain ⟨v', w', hr, h2, h3, h4⟩ := run_append_own (P := P) w B t ty e i z size bytes ht hi hz hsize hby hzs hsz _ 0 [] own ad m c (rowL f size m) (rowL_len _ _ _) hnews (rowL_one h1) (by unfold maxLen; omega) hby2 (by omega)
      subst hsize hby
      have hr2 := run_append_grow (P := P) w t ty e i z ht hi hz ⟨b, 0, none⟩ 0 0 [] (by simp) (by intro j u h; simp at h) ad m c (rowL f i.size m) (rowL_len _ _ _) hnews (by omega) (by omega) (growslice_fits (by omega) hby2)
      rw [hr] at hr2
      injection hr2 with e1 e2
      have hown2 : w'.ownsRow B e i.size v' m (rowL f i.size m) := by simpa using h2
      obtain ⟨P', c', rfl, u1, u2⟩ := RowAt.own hown2
      refine ⟨P', c', w', hr, u1, u2, ?_⟩
      rw [e2]
      exact (Below.drew (Below.refl _ _)).alloc (by simp) _
theorem wpList_app_new {P : Program} {w : World} {ops : Array Oper} {rest : List Oper} {o : Oper} {a : Act} {Q : Exit → Act → World → Prop} (hgd : o.guard = none) (s x : Operand) (t : TypeId)
    (ho : o.op = .call { callee := .builtin .append, args := #[s, x], argTypes := #[t, t] })
    (e : TypeId) (i : TypeInfo) (z : Value) (size bytes : Nat) (ht : P.underlying t = some (.slice e)) (hi : P.info? e = some i) (hz : i.zero = some z)
    (hsize : i.size = size) (hby : i.bytes = bytes) (hzs : z.cells.size = size) (hsz : 0 < size) (b B : Nat) (hb : w.heap[b]? = some (.cells #[] e (0, 0))) (hB : B ≤ b)
    (hs : a.eval s = .slice (some ⟨b, 0, none⟩) 0 0) (A : Option Addr) (m c : Nat) (f : Nat → Nat → Value) (hx : a.eval x = .slice A m c) (hrow : RowAt w A m size f) (h1 : ∀ k r, (f k r).oneCell' = true) (hm : m ≤ 1000000) (hb1 : bytes ≤ 1000)
    (h : ∀ P' c' w', Up B P' → RowAt w' P' m size f → Below w.heap.size w w' → wpList P ops Q rest (a.put o.dst (.slice P' m c')) w') : wpList P ops Q (o :: rest) a w := by
  obtain ⟨P', c', w', hr, u1, u2, u3⟩ := run_app_new (P := P) (w := w) t o.type e i z size bytes ht hi hz hsize hby hzs hsz hb hB A m c f hrow h1 hm hb1
  exact Lib.wpList_append_run w hgd s x t t ho _ _ hs hx _ w' hr (h P' c' w' u1 u2 u3)
section
variable {ops : Array Oper} {Q : Exit → Act → World → Prop} {K : Act → World → Prop} {a : Act} {w : World}
theorem op_apn {o : Oper} {d s x : Nat} {t e : TypeId} (ho : o.op = .call { callee := .builtin .append, args := #[.tmp s, .tmp x], argTypes := #[t, t] }) (hd : o.dst = some d)
    (i : TypeInfo) (z : Value) (size bytes : Nat) (ht : Tryz.prog.underlying t = some (.slice e)) (hi : Tryz.prog.info? e = some i) (hz : i.zero = some z)
    (hsize : i.size = size) (hby : i.bytes = bytes) (hzs : z.cells.size = size) (hsz : 0 < size) {b B : Nat} (hb : w.heap[b]? = some (.cells #[] e (0, 0))) (hB : B ≤ b)
    (hs : slot a s = .slice (some ⟨b, 0, none⟩) 0 0) {A : Option Addr} {m c : Nat} {f : Nat → Nat → Value} (hx : slot a x = .slice A m c) (hrow : RowAt w A m size f) (h1 : ∀ k r, (f k r).oneCell' = true) (hm : m ≤ 1000000) (hb1 : bytes ≤ 1000)
    (h : ∀ P' c' w', Up B P' → RowAt w' P' m size f → Below w.heap.size w w' → K (putSlot a d (.slice P' m c')) w') : o.wp Tryz.prog a w K Q := by
  obtain ⟨P', c', w', hr, u1, u2, u3⟩ := run_app_new (P := Tryz.prog) (w := w) t o.type e i z size bytes ht hi hz hsize hby hzs hsz hb hB A m c f hrow h1 hm hb1
  refine Lib.wp_append_run w (.tmp s) (.tmp x) t t ho _ _ (by rw [← hs]; simp [Act.eval, slot]) (by rw [← hx]; simp [Act.eval, slot]) _ w' hr ?_
  rw [hd]
  exact h P' c' w' u1 u2 u3
set_option maxRecDepth 100000 in
theorem op_bs0 {o : Oper} {d : Nat} {t e : TypeId} (ht : (t = 38 ∧ e = 3) ∨ (t = 39 ∧ e = 43) ∨ (t = 22 ∧ e = 46) ∨ (t = 23 ∧ e = 48)) (ho : o.op = .buildSlice t 0 #[]) (hd : o.dst = some d) (h : K (putSlot a d (.slice (some ⟨w.heap.size, 0, none⟩) 0 0)) (w.alloc (.cells #[] e))) : o.wp Tryz.prog a w K Q := by
  obtain ⟨op, dst, ty, pos, after, guard⟩ := o
  dsimp only at ho hd
  subst ho hd
  unfold Oper.wp
  rcases ht with ⟨rfl, rfl⟩ | ⟨rfl, rfl⟩ | ⟨rfl, rfl⟩ | ⟨rfl, rfl⟩ <;> (go_simp; exact h)
set_option maxRecDepth 100000 in
theorem op_fac {o : Oper} {d t b f : Nat} (hf : f < 2) (ho : o.op = .fieldAddr 41 (.tmp t) f) (hd : o.dst = some d) (hs : slot a t = .pointer (some ⟨b, 0, none⟩)) (h : K (putSlot a d (.pointer (some ⟨b, f, none⟩))) w) : o.wp Tryz.prog a w K Q := by
  obtain ⟨op, dst, ty, pos, after, guard⟩ := o
  dsimp only at ho hd
  subst ho hd
  have hs' : a.tmps[t]?.getD undef = .pointer (some ⟨b, 0, none⟩) := hs
  unfold Oper.wp
  rcases (by omega : f = 0 ∨ f = 1) with rfl | rfl <;> (go_simp; exact h)
set_option maxRecDepth 100000 in
theorem op_lsl {o : Oper} {d t b f : Nat} {v : Value} {ty : TypeId} (hty : ty = 38 ∨ ty = 39 ∨ ty = 22 ∨ ty = 23 ∨ ty = 24) (ho : o.op = .load ty (.tmp t)) (hd : o.dst = some d) (hs : slot a t = .pointer (some ⟨b, f, none⟩))
    (hc : w.cell? ⟨b, f, none⟩ = some v) (h : K (putSlot a d v) w) : o.wp Tryz.prog a w K Q := by
  obtain ⟨op, dst, ty', pos, after, guard⟩ := o
  dsimp only at ho hd
  subst ho hd
  have hs' : a.tmps[t]?.getD undef = .pointer (some ⟨b, f, none⟩) := hs
  unfold Oper.wp
  rcases hty with rfl | rfl | rfl | rfl | rfl <;> (go_simp; exact h)
theorem op_bdc {o : Oper} {d t1 t2 : Nat} {p q : Option Addr} {n c n' c' : Nat} (ho : o.op = .build 41 #[(0, .tmp t1), (1, .tmp t2)]) (hd : o.dst = some d) (h1 : slot a t1 = .slice p n c) (h2 : slot a t2 = .slice q n' c') (h : K (putSlot a d (.agg #[.slice p n c, .slice q n' c'])) w) : o.wp Tryz.prog a w K Q := by
  obtain ⟨op, dst, ty, pos, after, guard⟩ := o
  dsimp only at ho hd
  subst ho hd
  have h1' : a.tmps[t1]?.getD undef = .slice p n c := h1
  have h2' : a.tmps[t2]?.getD undef = .slice q n' c' := h2
  unfold Oper.wp
  go_simp
  exact h
theorem op_bda {o : Oper} {d t1 t2 : Nat} {p q : Option Addr} {n c n' c' : Nat} (ho : o.op = .build 26 #[(0, .tmp t1), (1, .tmp t2)]) (hd : o.dst = some d) (h1 : slot a t1 = .slice p n c) (h2 : slot a t2 = .slice q n' c') (h : K (putSlot a d (.agg #[.slice p n c, .slice q n' c', .slice none 0 0])) w) : o.wp Tryz.prog a w K Q := by
  obtain ⟨op, dst, ty, pos, after, guard⟩ := o
  dsimp only at ho hd
  subst ho hd
  have h1' : a.tmps[t1]?.getD undef = .slice p n c := h1
  have h2' : a.tmps[t2]?.getD undef = .slice q n' c' := h2
  unfold Oper.wp
  go_simp
  exact h
theorem two_gen {W : World} {r : Nat} {x y : Value} {ty : TypeId} (h : W.heap[r]? = some (.cells #[x, y] ty (0, 0))) : W.cell? ⟨r, 0, none⟩ = some x ∧ W.cell? ⟨r, 1, none⟩ = some y ∧ W.frozen? ⟨r, 0, none⟩ = false ∧ W.frozen? ⟨r, 1, none⟩ = false := by
  refine ⟨by simp [World.cell?, h], by simp [World.cell?, h], by simp [World.frozen?, h], by simp [World.frozen?, h]⟩
theorem two_sets {W : World} {r : Nat} {x y : Value} {ty : TypeId} (h : W.heap[r]? = some (.cells #[x, y] ty (0, 0))) (u v : Value) : ((W.setCell ⟨r, 0, none⟩ u).setCell ⟨r, 1, none⟩ v).heap[r]? = some (.cells #[u, v] ty (0, 0)) := by
  simp [World.setCell, Array.getElem?_modify, h]
theorem op_stc {o : Oper} {t s b : Nat} {p q : Option Addr} {n c n' c' : Nat} {x' y' : Value} (ho : o.op = .store 41 (.tmp t) (.tmp s)) (hd : o.dst = none) (hs : slot a t = .pointer (some ⟨b, 0, none⟩)) (hv : slot a s = .agg #[.slice p n c, .slice q n' c'])
    (hb : w.heap[b]? = some (.cells #[x', y'] 41 (0, 0))) (h : K a ((w.setCell ⟨b, 0, none⟩ (.slice p n c)).setCell ⟨b, 1, none⟩ (.slice q n' c'))) : o.wp Tryz.prog a w K Q := by
  obtain ⟨op, dst, ty, pos, after, guard⟩ := o
  dsimp only at ho hd
  subst ho hd
  have hs' : a.tmps[t]?.getD undef = .pointer (some ⟨b, 0, none⟩) := hs
  have hv' : a.tmps[s]?.getD undef = .agg #[.slice p n c, .slice q n' c'] := hv
  obtain ⟨r0, r1, f0, f1⟩ := two_gen hb
  unfold Oper.wp
  go_simp
  exact h
end
theorem ints_mono' {l : Nat} {x : Nat → Int} {B : Nat} : Mono (fun v W => ∃ P' c', v = .slice P' l c' ∧ IntsAt W P' l x ∧ Up B P') := by
  rintro v x y ⟨P, c, h1, h2, h3⟩ hb; exact ⟨P, c, h1, h2.below hb, h3⟩
theorem vals_mono' {l : Nat} {vk vn vd : Nat → Int} {vs : Nat → ByteArray} {B : Nat} : Mono (fun v W => ∃ P' c', v = .slice P' l c' ∧ ValsAt W P' l vk vn vd vs ∧ Up B P') := by
  rintro v x y ⟨P, c, h1, h2, h3⟩ hb; exact ⟨P, c, h1, h2.below hb, h3⟩
/-- An empty literal, in a block from B on. -/
def NewR (B : Nat) (e : TypeId) : Value → World → Prop := fun v W => ∃ b, v = .slice (some ⟨b, 0, none⟩) 0 0 ∧ B ≤ b ∧ W.heap[b]? = some (.cells #[] e (0, 0))
theorem newR_mono {B : Nat} {e : TypeId} : Mono (NewR B e) := by
  rintro v x y ⟨b, h1, h2, h3⟩ hb; exact ⟨b, h1, h2, (hb.block b (Array.getElem?_eq_some_iff.1 h3).1).trans h3⟩
set_option maxRecDepth 100000 in
set_option maxHeartbeats 4000000 in
theorem r_CopyCell (w : World) (P Q : Option Addr) (l pc v qc : Nat) (x vk vn vd : Nat → Int) (vs : Nat → ByteArray) (hp : IntsAt w P l x) (hq : ValsAt w Q v vk vn vd vs) (hl : l ≤ 1000000) (hv : v ≤ 1000000) :
    Calls Tryz.prog 76 #[.agg #[.slice P l pc, .slice Q v qc]] w fun e w' => ∃ P' c' Q' d', e = .returned (.agg #[.slice P' l c', .slice Q' v d']) ∧ IntsAt w' P' l x ∧ ValsAt w' Q' v vk vn vd vs ∧ Up w.heap.size P' ∧ Up w.heap.size Q' ∧ Below w.heap.size w w' := by
  have HP := Lib.hid hp.row
  have HQ := Lib.hid hq.row
  have HB : Hid (Below w.heap.size w (w.alloc (.cells #[.slice P l pc, .slice Q v qc] 41))) := (Below.refl _ _).alloc (Nat.le_refl _) _
  have KC := Lib.hid (cel_box w (.slice P l pc) (.slice Q v qc) 41)
  obtain ⟨i0, hI0, hiz0, hiz1, hiz2⟩ := info_parts info_int
  obtain ⟨i9, hI9, hzz0, hz1, hz2⟩ := info_parts info_val
  clear hp hq
  go_enter Tryz.func76, Tryz.ntmps76
  go_wp2_with fail
  rename_i K hK
  have hz0 : ((w.alloc (.cells #[.slice P l pc, .slice Q v qc] 41)).alloc (.cells #[.slice none 0 0, .slice none 0 0] 41)).heap.size = w.heap.size + 2 := by simp
  have HB0 : Hid (Below (w.alloc (.cells #[.slice P l pc, .slice Q v qc] 41)).heap.size (w.alloc (.cells #[.slice P l pc, .slice Q v qc] 41)) ((w.alloc (.cells #[.slice P l pc, .slice Q v qc] 41)).alloc (.cells #[.slice none 0 0, .slice none 0 0] 41))) := bel_nw _ _
  have HRes : Hid (((w.alloc (.cells #[.slice P l pc, .slice Q v qc] 41)).alloc (.cells #[.slice none 0 0, .slice none 0 0] 41)).heap[w.heap.size + 1]? = some (.cells #[.slice none 0 0, .slice none 0 0] 41 (0, 0))) := by
    have := heap_alloc_new (w.alloc (.cells #[.slice P l pc, .slice Q v qc] 41)) (.cells #[.slice none 0 0, .slice none 0 0] 41)
    rw [World.size_alloc] at this
    exact this
  generalize w.alloc (.cells #[.slice P l pc, .slice Q v qc] 41) = Wa at *
  generalize Wa.alloc (.cells #[.slice none 0 0, .slice none 0 0] 41) = W0 at *
  refine wp_region_TL (n1 := 9) (T := TL [NewR (w.heap.size + 2) 3, isW (.pointer (some ⟨w.heap.size, 0, none⟩)), isW (.slice P l pc), fun v' W => ∃ P' c', v' = .slice P' l c' ∧ IntsAt W P' l x ∧ Up (w.heap.size + 2) P', NewR (w.heap.size + 2) 43, isW (.pointer (some ⟨w.heap.size, 1, none⟩)), isW (.slice Q v qc), fun v' W => ∃ P' c', v' = .slice P' v c' ∧ ValsAt W P' v vk vn vd vs ∧ Up (w.heap.size + 2) P',
    fun u W => ∃ P' c' Q' d', u = .agg #[.slice P' l c', .slice Q' v d'] ∧ (IntsAt W P' l x ∧ Up (w.heap.size + 2) P') ∧ ValsAt W Q' v vk vn vd vs ∧ Up (w.heap.size + 2) Q']) (by kernel_rfl) rfl rfl rfl (by kernel_rfl) ?step ?tail
  case step =>
    intro listed a W i H hi9 hilt
    have dl := H.dl (l := [some 3, some 4, some 5, some 6, some 7, some 8, some 9, some 10, some 11, none]) rfl
    have ap := apart_of dl (by decide)
    have HBW : Hid (Below Wa.heap.size Wa W) := st HB0.out H.below
    have hBW1 : w.heap.size + 2 ≤ W.heap.size := by rw [← hz0]; exact H.below.size
    obtain ⟨m0, m1⟩ := KC.out W HBW.out
    have mono : ∀ p ∈ [NewR (w.heap.size + 2) 3, isW (.pointer (some ⟨w.heap.size, 0, none⟩)), isW (.slice P l pc), fun v' W => ∃ P' c', v' = .slice P' l c' ∧ IntsAt W P' l x ∧ Up (w.heap.size + 2) P', NewR (w.heap.size + 2) 43, isW (.pointer (some ⟨w.heap.size, 1, none⟩)), isW (.slice Q v qc), fun v' W => ∃ P' c', v' = .slice P' v c' ∧ ValsAt W P' v vk vn vd vs ∧ Up (w.heap.size + 2) P',
      fun u W => ∃ P' c' Q' d', u = .agg #[.slice P' l c', .slice Q' v d'] ∧ (IntsAt W P' l x ∧ Up (w.heap.size + 2) P') ∧ ValsAt W Q' v vk vn vd vs ∧ Up (w.heap.size + 2) Q'], Mono p := by
      intro p hp
      simp only [List.mem_cons, List.not_mem_nil, or_false] at hp
      rcases hp with rfl | rfl | rfl | rfl | rfl | rfl | rfl | rfl | rfl
      · exact newR_mono
      · exact isW_mono _
      · exact isW_mono _
      · exact ints_mono'
      · exact newR_mono
      · exact isW_mono _
      · exact isW_mono _
      · exact vals_mono'
      · rintro v' x y ⟨P', c', Q', d', h1, h2, h3, h4⟩ hb; exact ⟨P', c', Q', d', h1, ⟨h2.1.below hb, h2.2⟩, h3.below hb, h4⟩
    rcases (by omega : i = 0 ∨ i = 1 ∨ i = 2 ∨ i = 3 ∨ i = 4 ∨ i = 5 ∨ i = 6 ∨ i = 7 ∨ i = 8) with rfl | rfl | rfl | rfl | rfl | rfl | rfl | rfl | rfl
    · exact wpOp_of rfl (.inl rfl) (op_bs0 (.inl ⟨rfl, rfl⟩) rfl rfl (H.over mono ap rfl rfl (by simp) (bel_nw W _) ⟨_, rfl, hBW1, heap_alloc_new W _⟩))
    · exact wpOp_of rfl (.inl rfl) (op_fac (by decide) rfl rfl (H.old 1 (old_of' dl 1 (by decide))) (H.over mono ap rfl rfl (by simp) (Below.refl _ _) rfl))
    · exact wpOp_of rfl (.inl rfl) (op_lsl (.inl rfl) rfl rfl (H.got' hi9 (j := 1) (t := 4) rfl (by kernel_rfl) rfl rfl) m0 (H.over mono ap rfl rfl (by simp) (Below.refl _ _) rfl))
    · obtain ⟨b, e1, e2, e3⟩ := H.got' hi9 (j := 0) (t := 3) rfl (by kernel_rfl) rfl rfl
      refine wpOp_of rfl (.inl rfl) (op_apn rfl rfl i0 (.int .i64 0) 1 8 Tryz.underlying38 hI0 hiz0 hiz1 hiz2 rfl (by decide) e3 e2 e1 (H.got' hi9 (j := 2) (t := 5) rfl (by kernel_rfl) rfl rfl) (HP.out.below (st HB.out HBW.out)) (intF_one x) hl (by decide) ?_)
      intro P' c' w' u1 u2 u3
      exact H.over mono ap rfl rfl (by simp) u3 ⟨P', c', rfl, u2.ints, u1⟩
    · exact wpOp_of rfl (.inl rfl) (op_bs0 (.inr (.inl ⟨rfl, rfl⟩)) rfl rfl (H.over mono ap rfl rfl (by simp) (bel_nw W _) ⟨_, rfl, hBW1, heap_alloc_new W _⟩))
    · exact wpOp_of rfl (.inl rfl) (op_fac (by decide) rfl rfl (H.old 1 (old_of' dl 1 (by decide))) (H.over mono ap rfl rfl (by simp) (Below.refl _ _) rfl))
    · exact wpOp_of rfl (.inl rfl) (op_lsl (.inr (.inl rfl)) rfl rfl (H.got' hi9 (j := 5) (t := 8) rfl (by kernel_rfl) rfl rfl) m1 (H.over mono ap rfl rfl (by simp) (Below.refl _ _) rfl))
    · obtain ⟨b, e1, e2, e3⟩ := H.got' hi9 (j := 4) (t := 7) rfl (by kernel_rfl) rfl rfl
      refine wpOp_of rfl (.inl rfl) (op_apn rfl rfl i9 _ 4 40 Tryz.underlying39 hI9 hzz0 hz1 hz2 rfl (by decide) e3 e2 e1 (H.got' hi9 (j := 6) (t := 9) rfl (by kernel_rfl) rfl rfl) (HQ.out.below (st HB.out HBW.out)) (valF4_one _ _ _ _) hv (by decide) ?_)
      intro P' c' w' u1 u2 u3
      exact H.over mono ap rfl rfl (by simp) u3 ⟨P', c', rfl, u2.vals, u1⟩
    · obtain ⟨P', c', e1, d1, d2⟩ := H.got' hi9 (j := 3) (t := 6) rfl (by kernel_rfl) rfl rfl
      obtain ⟨Q', d', e2, d3, d4⟩ := H.got' hi9 (j := 7) (t := 10) rfl (by kernel_rfl) rfl rfl
      exact wpOp_of rfl (.inl rfl) (op_bdc rfl rfl e1 e2 (H.over mono ap rfl rfl (by simp) (Below.refl _ _) ⟨P', c', Q', d', rfl, ⟨d1, d2⟩, d3, d4⟩))
  case tail =>
    intro listed a W H hall
    obtain ⟨P', c', Q', d', e1, ⟨d1, d2⟩, d3, d4⟩ := H.got 8 _ 11 rfl rfl (hall 8 (by decide))
    have dl := H.dl (l := [some 3, some 4, some 5, some 6, some 7, some 8, some 9, some 10, some 11, none]) rfl
    have s2 := H.old 2 (old_of' dl 2 (by decide))
    have hres := (H.below.block _ (by rw [hz0]; omega)).trans HRes.out
    refine op_stc rfl rfl s2 e1 hres ?_
    have hdf : a.defers = [] := H.defers.trans rfl
    have HBW : Below Wa.heap.size Wa W := st HB0.out H.below
    refine hK _ _ ?_
    go_wp2
    refine bodyPost_ret (v := .agg #[.slice P' l c', .slice Q' v d']) (res_cell Tryz.results76 _ _ (w.heap.size + 1) 41 _ (0, 0) _ (by rw [Array.getD_eq_getD_getElem?]; exact s2) (two_sets hres _ _) Tryz.underlying41 rfl (by rw [info_cel']; rfl)) hdf ?_
    have gr : W.grownBy ((W.setCell ⟨w.heap.size + 1, 0, none⟩ (.slice P' l c')).setCell ⟨w.heap.size + 1, 1, none⟩ (.slice Q' v d')) (some (w.heap.size + 1)) := gr2 (grown_set _ _ _ _) (grown_set _ _ _ _)
    refine ⟨P', c', Q', ⟨d', rfl⟩, (d1.row.grown gr (d2.ne (by omega))).ints, (d3.row.grown gr (d4.ne (by omega))).vals, d2.mono (by omega), d4.mono (by omega), ?_⟩
    exact ((st HB.out HBW).setCell (p := ⟨w.heap.size + 1, 0, none⟩) (by show w.heap.size ≤ w.heap.size + 1; omega) _).setCell (p := ⟨w.heap.size + 1, 1, none⟩) (by show w.heap.size ≤ w.heap.size + 1; omega) _
theorem dims_mono' {n : Nat} {nm : Nat → ByteArray} {lo hi : Nat → Int} {B : Nat} : Mono (fun v W => ∃ P' c', v = .slice P' n c' ∧ DimsAt W P' n nm lo hi ∧ Up B P') := by
  rintro v x y ⟨P, c, h1, h2, h3⟩ hb; exact ⟨P, c, h1, h2.below hb, h3⟩
theorem attrs_mono' {m : Nat} {an : Nat → ByteArray} {ty : Nat → Int} {B : Nat} : Mono (fun v W => ∃ P' c', v = .slice P' m c' ∧ AttrsAt W P' m an ty ∧ Up B P') := by
  rintro v x y ⟨P, c, h1, h2, h3⟩ hb; exact ⟨P, c, h1, h2.below hb, h3⟩
theorem info_dim' : (Tryz.prog.info? 46).map (fun i => (i.zero, i.size, i.bytes)) = some (some (.agg #[.string ⟨#[]⟩, .int .i64 0, .int .i64 0]), 3, 32) := by kernel_rfl
theorem info_att' : (Tryz.prog.info? 48).map (fun i => (i.zero, i.size, i.bytes)) = some (some (.agg #[.string ⟨#[]⟩, .int .i64 0]), 2, 24) := by kernel_rfl
set_option maxRecDepth 100000 in
set_option maxHeartbeats 4000000 in
theorem r_Empty (w : World) (A B : Option Addr) (n cap m bcap : Nat) (nm : Nat → ByteArray) (lo hi : Nat → Int) (an : Nat → ByteArray) (ty : Nat → Int) (hd : DimsAt w A n nm lo hi) (ha : AttrsAt w B m an ty) (hn : n ≤ 1000000) (hm : m ≤ 1000000) :
    Calls Tryz.prog 75 #[.slice A n cap, .slice B m bcap] w fun e w' => ∃ P c' Q d', e = .returned (ArrV P n c' Q m d' none 0 0) ∧ DimsAt w' P n nm lo hi ∧ AttrsAt w' Q m an ty ∧ Up w.heap.size P ∧ Up w.heap.size Q ∧ Below w.heap.size w w' := by
  have HP := Lib.hid hd.row
  have HQ := Lib.hid ha.row
  obtain ⟨i0, hI0, hiz0, hiz1, hiz2⟩ := info_parts info_dim'
  obtain ⟨i9, hI9, hzz0, hzz1, hzz2⟩ := info_parts info_att'
  clear hd ha
  go_enter Tryz.func75, Tryz.ntmps75
  have HB : Hid (Below w.heap.size w ((w.alloc (.cells #[.slice none 0 0, .slice none 0 0, .slice none 0 0] 26)).alloc (.cells #[] 46))) := ((Below.refl _ _).alloc (Nat.le_refl _) _).alloc (by simp) _
  go_wp2_with (at_builtin; refine wpList_app_new rfl _ _ 22 rfl 46 i0 _ 3 32 Tryz.underlying22 hI0 hiz0 hiz1 hiz2 rfl (by decide) (w.heap.size + 1) (w.heap.size + 1) ?qa (Nat.le_refl _) rfl A n cap (dimF nm lo hi) rfl (HP.out.below HB.out) (dimF_one _ _ _) hn (by decide) ?_)
  case qa => simpa using heap_alloc_new (w.alloc (.cells #[.slice none 0 0, .slice none 0 0, .slice none 0 0] 26)) (.cells #[] 46)
  intro P1 c1 w1 u1 u2 u3
  have hz : ((w.alloc (.cells #[.slice none 0 0, .slice none 0 0, .slice none 0 0] 26)).alloc (.cells #[] 46)).heap.size = w.heap.size + 1 + 1 := by simp
  have hres : ((w.alloc (.cells #[.slice none 0 0, .slice none 0 0, .slice none 0 0] 26)).alloc (.cells #[] 46)).heap[w.heap.size]? = some (.cells #[.slice none 0 0, .slice none 0 0, .slice none 0 0] 26 (0, 0)) := ((bel_nw _ _).block _ (by simp)).trans (heap_alloc_new _ _)
  rw [← hz] at u3
  have HB1 : Hid (Below w.heap.size w w1) := st HB.out u3
  have hz1 : w.heap.size + 2 ≤ w1.heap.size := by have := u3.size; omega
  have HRes1 : Hid (w1.heap[w.heap.size]? = some (.cells #[.slice none 0 0, .slice none 0 0, .slice none 0 0] 26 (0, 0))) := (u3.block _ (by omega)).trans hres
  have HU1 := Lib.hid (And.intro u1 u2)
  generalize ((w.alloc (.cells #[.slice none 0 0, .slice none 0 0, .slice none 0 0] 26)).alloc (.cells #[] 46)) = W0 at *
  clear hres HB hz u1 u2 u3
  have HB2 : Hid (Below w1.heap.size w1 (w1.alloc (.cells #[] 48))) := bel_nw _ _
  have hz2 : (w1.alloc (.cells #[] 48)).heap.size = w1.heap.size + 1 := by simp
  go_wp2_with (at_builtin; refine wpList_app_new rfl _ _ 23 rfl 48 i9 _ 2 24 Tryz.underlying23 hI9 hzz0 hzz1 hzz2 rfl (by decide) w1.heap.size (w.heap.size + 1) ?qa (by omega) rfl B m bcap (attF an ty) rfl (HQ.out.below (st HB1.out HB2.out)) (attF_one _ _) hm (by decide) ?_)
  case qa => exact heap_alloc_new _ _
  intro P2 c2 w2 u4 u5 u6
  rw [← hz2] at u6
  have HB3 : Hid (Below w1.heap.size w1 w2) := st HB2.out u6
  have hres := (HB3.out.block _ (by omega)).trans HRes1.out
  obtain ⟨⟨y0, y1, y2⟩, z0, z1, z2⟩ := three_at hres
  go_wp2
  refine bodyPost_ret (v := ArrV P1 n c1 P2 m c2 none 0 0) (res_cell Tryz.results75 _ _ (w.heap.size) 26 _ (0, 0) _ rfl (three_set hres _ _ _) Tryz.underlying26 rfl (by rw [info_arr]; rfl)) rfl ?_
  have gr : w2.grownBy (((w2.setCell ⟨w.heap.size, 0, none⟩ (.slice P1 n c1)).setCell ⟨w.heap.size, 1, none⟩ (.slice P2 m c2)).setCell ⟨w.heap.size, 2, none⟩ (.slice none 0 0)) (some w.heap.size) := gr2 (gr2 (grown_set _ _ _ _) (grown_set _ _ _ _)) (grown_set _ _ _ _)
  refine ⟨P1, c1, P2, c2, rfl, ((HU1.out.2.below HB3.out).grown gr (HU1.out.1.ne (by omega))).dims, (u5.grown gr (u4.ne (by omega))).attrs, HU1.out.1.mono (by omega), u4.mono (by omega), ?_⟩
  exact (((st HB1.out HB3.out).setCell (p := ⟨w.heap.size, 0, none⟩) (Nat.le_refl _) _).setCell (p := ⟨w.heap.size, 1, none⟩) (Nat.le_refl _) _).setCell (p := ⟨w.heap.size, 2, none⟩) (Nat.le_refl _) _
end Go.Proofs.YtoippldgoehpcaaGreatDoor
end

/- A list of cells that grows by append: where it lies. -/
section
namespace Go.Proofs.YtoippldgoehpcaaGreatDoor
open Go Go.RowKit Go.Deep

theorem RowAt.grownO {w w' : World} {A : Option Addr} {n z : Nat} {f : Nat → Nat → Value} {row : Option Nat} (h : RowAt w A n z f) (hg : w.grownBy w' row) (hA : 0 < n → ∀ a, A = some a → row ≠ some a.block) : RowAt w' A n z f := fun hn => by
  obtain ⟨b', o, rfl, h2, h3⟩ := h hn
  have hne := hA hn _ rfl
  have hb := hg.block b' h2 (fun e => hne e.symm)
  refine ⟨b', o, rfl, Nat.lt_of_lt_of_le h2 hg.size, fun k r hk hr => ?_⟩
  rw [cell_blk hb]
  exact h3 k r hk hr
theorem RowAt.lt {w : World} {A : Option Addr} {n z : Nat} {f : Nat → Nat → Value} (h : RowAt w A n z f) (hn : 0 < n) {a : Addr} (ha : A = some a) : a.block < w.heap.size := by
  obtain ⟨b', o, rfl, h2, _⟩ := h hn
  injection ha with ha
  subst ha
  exact h2
/-- The slice v is the walk's own, from block B on, and holds n cells; their lists lie elsewhere. -/
def OwnC (S : Option Addr → Prop) (w : World) (B : Nat) (v : Value) (n : Nat) (c : CeD) : Prop :=
  ∃ xs, w.ownsRow B 41 2 v n xs ∧ ∀ k, k < n → ∃ P pc Q qc, xs[k * 2]? = some (.slice P (c.ln k) pc) ∧ xs[k * 2 + 1]? = some (.slice Q (c.vl k) qc) ∧ IntsAt w P (c.ln k) (c.x k) ∧ ValsAt w Q (c.vl k) (c.vk k) (c.vn k) (c.vd k) (c.vs k) ∧ (S P ∧ S Q) ∧
    (0 < c.ln k → ∀ a, P = some a → v.ownBlock ≠ some a.block) ∧ (0 < c.vl k → ∀ a, Q = some a → v.ownBlock ≠ some a.block)
theorem OwnC.nil (S : Option Addr → Prop) (w : World) (B : Nat) (c : CeD) : OwnC S w B (.slice none 0 0) 0 c := ⟨[], ⟨rfl, .inl ⟨rfl, rfl⟩⟩, fun k hk => absurd hk (by omega)⟩
theorem Below.by_ {w w' : World} (h : Below w.heap.size w w') : w.grownBy w' none := ⟨h.os, h.tape, h.output, h.size, fun k hk _ => h.block k hk⟩
theorem OwnC.below {S : Option Addr → Prop} {w w' : World} {B n : Nat} {v : Value} {c : CeD} (h : OwnC S w B v n c) (hb : Below w.heap.size w w') : OwnC S w' B v n c := by
  obtain ⟨xs, h1, h2⟩ := h
  refine ⟨xs, h1.kept (Below.by_ hb) ?_, fun k hk => ?_⟩
  · cases e : v.ownBlock with
    | none => exact .inl rfl
    | some g => exact .inr (by simp)
  · obtain ⟨P, pc, Q, qc, a1, a2, a3, a4, a5⟩ := h2 k hk
    exact ⟨P, pc, Q, qc, a1, a2, a3.below hb, a4.below hb, a5⟩
theorem OwnC.set {S : Option Addr → Prop} {w w' : World} {B n b : Nat} {v : Value} {c : CeD} (h : OwnC S w B v n c) (hg : w.grownBy w' (some b)) (hB : b < B) (hS : ∀ P, S P → ∀ a, P = some a → a.block ≠ b) : OwnC S w' B v n c := by
  obtain ⟨xs, h1, h2⟩ := h
  refine ⟨xs, h1.kept hg ?_, fun k hk => ?_⟩
  · cases e : v.ownBlock with
    | none => exact .inl rfl
    | some g =>
      obtain ⟨hg1, _⟩ := own_lt h1 g e
      refine .inr fun e2 => ?_
      injection e2 with e2
      omega
  · obtain ⟨P, pc, Q, qc, a1, a2, a3, a4, a5⟩ := h2 k hk
    exact ⟨P, pc, Q, qc, a1, a2, (a3.row.grown hg (fun _ => hS P a5.1.1)).ints, (a4.row.grown hg (fun _ => hS Q a5.1.2)).vals, a5⟩
theorem OwnC.block {S : Option Addr → Prop} {w : World} {B n : Nat} {v : Value} {c : CeD} (h : OwnC S w B v n c) {g : Nat} (hg : v.ownBlock = some g) : B ≤ g ∧ g < w.heap.size := by
  obtain ⟨xs, h1, _⟩ := h
  obtain ⟨a, cs, b⟩ := own_lt h1 g hg
  exact ⟨a, (Array.getElem?_eq_some_iff.1 b).1⟩
theorem OwnC.row {S : Option Addr → Prop} {w : World} {B n : Nat} {v : Value} {c : CeD} (h : OwnC S w B v n c) : ∃ A cap, v = .slice A n cap ∧ (0 < n → ∃ b, A = some ⟨b, 0, none⟩ ∧ B ≤ b ∧ b < w.heap.size ∧ ∀ k, k < n → ∃ P pc Q qc, w.cell? ⟨b, k * 2, none⟩ = some (.slice P (c.ln k) pc) ∧ w.cell? ⟨b, k * 2 + 1, none⟩ = some (.slice Q (c.vl k) qc) ∧ IntsAt w P (c.ln k) (c.x k) ∧ ValsAt w Q (c.vl k) (c.vk k) (c.vn k) (c.vd k) (c.vs k) ∧ (S P ∧ S Q)) := by
  obtain ⟨xs, ⟨hl, h1⟩, h2⟩ := h
  rcases h1 with ⟨rfl, rfl⟩ | ⟨g, cap, cur, rfl, hBg, hh, hcap, _, hs, ht⟩
  · exact ⟨none, 0, rfl, fun h => absurd h (by omega)⟩
  · refine ⟨_, _, rfl, fun hn => ⟨g, rfl, hBg, (Array.getElem?_eq_some_iff.1 hh).1, fun k hk => ?_⟩⟩
    obtain ⟨P, pc, Q, qc, a1, a2, a3, a4, a5, _⟩ := h2 k hk
    have get : ∀ j u, j < n * 2 → xs[j]? = some u → w.cell? ⟨g, j, none⟩ = some u := fun j u hj hu => by
      have h3 : cur.toList[j]? = some u := by
        rw [← List.getElem?_take_of_lt hj, ht]
        exact hu
      rw [Array.getElem?_toList] at h3
      simp [World.cell?, hh, h3]
    exact ⟨P, pc, Q, qc, get _ _ (by omega) a1, get _ _ (by omega) a2, a3, a4, a5⟩
theorem OwnC.at {S : Option Addr → Prop} {w : World} {B n : Nat} {v : Value} {c : CeD} (h : OwnC S w B v n c) (ho : CeOk n c) : ∃ A cap, v = .slice A n cap ∧ CeAt w A n c := by
  obtain ⟨A, cap, h1, h2⟩ := h.row
  refine ⟨A, cap, h1, fun hn => ?_⟩
  obtain ⟨b, h3, h4, h5, h6⟩ := h2 hn
  refine ⟨b, 0, h3, h5, fun k hk => ?_⟩
  obtain ⟨P, pc, Q, qc, a1, a2, a3, a4, a5⟩ := h6 k hk
  exact ⟨P, pc, Q, qc, by rw [Nat.zero_add]; exact a1, by rw [Nat.zero_add]; exact a2, a3, a4, (ho k hk).1⟩
theorem OwnC.up {w : World} {B B' n : Nat} {v : Value} {c : CeD} (h : OwnC (Up B') w B v n c) (hB : B' ≤ B) (ho : CeOk n c) : ∃ A cap, v = .slice A n cap ∧ CeUp w B' A n c := by
  obtain ⟨A, cap, h1, h2⟩ := h.row
  refine ⟨A, cap, h1, fun hn => ?_⟩
  obtain ⟨b, h3, h4, h5, h6⟩ := h2 hn
  refine ⟨b, 0, h3, by omega, h5, fun k hk => ?_⟩
  obtain ⟨P, pc, Q, qc, a1, a2, a3, a4, a5⟩ := h6 k hk
  exact ⟨P, pc, Q, qc, by rw [Nat.zero_add]; exact a1, by rw [Nat.zero_add]; exact a2, a3, a4, (ho k hk).1, a5⟩
theorem info_cel2 : (Tryz.prog.info? 41).map (fun i => (i.zero, i.size, i.bytes)) = some (some (.agg #[.slice none 0 0, .slice none 0 0]), 2, 48) := by kernel_rfl
/-- One cell more, behind a literal of one cell: the list lies where it lay, or in a new block. -/
theorem wpList_appC {ops : Array Oper} {rest : List Oper} {o : Oper} {a : Act} {Q' : Exit → Act → World → Prop} (hgd : o.guard = none) (s x : Operand)
    (ho : o.op = .call { callee := .builtin .append, args := #[s, x], argTypes := #[24, 24] })
    (W : World) (S : Option Addr → Prop) (B : Nat) (v : Value) (n : Nat) (c : CeD) (hs : a.eval s = v) (b : Nat) (hx : a.eval x = .slice (some ⟨b, 0, none⟩) 1 1)
    (P Q : Option Addr) (pc qc : Nat) (hb : W.heap[b]? = some (.cells #[.slice P (c.ln n) pc, .slice Q (c.vl n) qc] 41 (0, 0)))
    (hi : IntsAt W P (c.ln n) (c.x n)) (hv : ValsAt W Q (c.vl n) (c.vk n) (c.vn n) (c.vd n) (c.vs n)) (hS : S P ∧ S Q)
    (hne : (0 < c.ln n → ∀ a, P = some a → v.ownBlock ≠ some a.block) ∧ (0 < c.vl n → ∀ a, Q = some a → v.ownBlock ≠ some a.block))
    (hown : OwnC S W B v n c) (hn : n ≤ 1000000) (hB : B ≤ W.heap.size)
    (h : ∀ v' w', OwnC S w' B v' (n + 1) c → W.grownBy w' v.ownBlock → (v'.ownBlock = v.ownBlock ∨ ∃ g, v'.ownBlock = some g ∧ W.heap.size ≤ g) → wpList Tryz.prog ops Q' rest (a.put o.dst v') w') : wpList Tryz.prog ops Q' (o :: rest) a W := by
  obtain ⟨xs, h1, h2⟩ := hown
  obtain ⟨i0, hi0, hz0, hz1, hz2⟩ := info_parts info_cel2
  have hlb : b < W.heap.size := (Array.getElem?_eq_some_iff.1 hb).1
  have hnew : ∀ j u, [Value.slice P (c.ln n) pc, Value.slice Q (c.vl n) qc][j]? = some u → W.cell? ((⟨b, 0, none⟩ : Addr).add j) = some u := by
    intro j u hu
    rcases j with _ | _ | j
    · have hu' : u = .slice P (c.ln n) pc := by simpa using hu.symm
      subst hu'
      simp [World.cell?, hb, Addr.add]
    · have hu' : u = .slice Q (c.vl n) qc := by simpa using hu.symm
      subst hu'
      simp [World.cell?, hb, Addr.add]
    · simp at hu
  refine wpList_append_own_at _ hgd s x 24 ho B 41 i0 (.agg #[.slice none 0 0, .slice none 0 0]) 2 48 Tryz.underlying24 hi0 hz0 hz1 hz2 rfl (by decide) v n xs hs h1 ⟨b, 0, none⟩ 1 1 [.slice P (c.ln n) pc, .slice Q (c.vl n) qc] hx rfl hnew
    (fun u hu => by
      simp only [List.mem_cons, List.not_mem_nil, or_false] at hu
      rcases hu with rfl | rfl <;> rfl) (by unfold maxLen; omega) (by omega) hB ?_
  intro v' w' g1 g2 _ g4
  have hl : xs.length = n * 2 := h1.1
  have apart : ∀ (A : Option Addr) (z m : Nat) (f : Nat → Nat → Value), RowAt W A m z f → (0 < m → ∀ a, A = some a → v.ownBlock ≠ some a.block) → 0 < m → ∀ a, A = some a → v'.ownBlock ≠ some a.block := by
    intro A z m f hr hp hm ad had
    rcases g4 with e | h9
    · rw [e]; exact hp hm ad had
    · have h8 := hr.lt hm had
      intro e
      rw [e] at h9
      injection h9 with h9
      omega
  refine h v' w' ⟨xs ++ [.slice P (c.ln n) pc, .slice Q (c.vl n) qc], g1, fun k hk => ?_⟩ g2 (g4.imp id fun h9 => ⟨_, h9, Nat.le_refl _⟩)
  by_cases e : k = n
  · subst e
    refine ⟨P, pc, Q, qc, ?_, ?_, (hi.row.grownO g2 hne.1).ints, (hv.row.grownO g2 hne.2).vals, hS, apart _ _ _ _ hi.row hne.1, apart _ _ _ _ hv.row hne.2⟩
    · rw [List.getElem?_append_right (by omega), hl, Nat.sub_self]; rfl
    · rw [List.getElem?_append_right (by omega), hl, show k * 2 + 1 - k * 2 = 1 by omega]; rfl
  · obtain ⟨P', pc', Q', qc', a1, a2, a3, a4, a5, a6, a7⟩ := h2 k (by omega)
    refine ⟨P', pc', Q', qc', ?_, ?_, (a3.row.grownO g2 a6).ints, (a4.row.grownO g2 a7).vals, a5, apart _ _ _ _ a3.row a6, apart _ _ _ _ a4.row a7⟩
    · rw [List.getElem?_append_left (by omega)]; exact a1
    · rw [List.getElem?_append_left (by omega)]; exact a2
end Go.Proofs.YtoippldgoehpcaaGreatDoor
end

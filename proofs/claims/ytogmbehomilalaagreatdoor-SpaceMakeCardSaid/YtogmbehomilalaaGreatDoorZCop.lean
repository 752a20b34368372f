/- An array in new memory. -/
import Derived.Test.YtogmbehomilalaaGreatDoorZLSa
import Derived.Test.YtogmbehomilalaaGreatDoorZArGa
import Derived.Test.YtogmbehomilalaaGreatDoorZSds
namespace Go.Proofs.YtogmbehomilalaaGreatDoor
open Go Go.RowKit Go.Deep

/-- Cells that lie in blocks from B on, and so do their lists. -/
def CeUp (w : World) (B : Nat) (C : Option Addr) (N : Nat) (c : CeD) : Prop :=
  0 < N → ∃ b o, C = some ⟨b, o, none⟩ ∧ B ≤ b ∧ b < w.heap.size ∧ ∀ k, k < N → ∃ P pc Q qc, w.cell? ⟨b, o + k * 2, none⟩ = some (.slice P (c.ln k) pc) ∧ w.cell? ⟨b, o + k * 2 + 1, none⟩ = some (.slice Q (c.vl k) qc) ∧ IntsAt w P (c.ln k) (c.x k) ∧ ValsAt w Q (c.vl k) (c.vk k) (c.vn k) (c.vd k) (c.vs k) ∧ c.ln k ≤ 1000 ∧ Up B P ∧ Up B Q
theorem CeUp.at {w : World} {B : Nat} {C : Option Addr} {N : Nat} {c : CeD} (h : CeUp w B C N c) : CeAt w C N c := fun hn => by
  obtain ⟨b, o, h1, _, h2, h3⟩ := h hn
  refine ⟨b, o, h1, h2, fun k hk => ?_⟩
  obtain ⟨P, pc, Q, qc, a1, a2, a3, a4, a5, _⟩ := h3 k hk
  exact ⟨P, pc, Q, qc, a1, a2, a3, a4, a5⟩
structure ArUp (w : World) (B : Nat) (p : ArP) (D : ArD) : Prop where
  dims : DimsAt w p.A D.n D.nm D.lo D.hi
  attrs : AttrsAt w p.B D.m D.an D.ty
  cells : CeUp w B p.C D.N D.c
  upA : Up B p.A
  upB : Up B p.B
theorem ArUp.at {w : World} {B : Nat} {p : ArP} {D : ArD} (h : ArUp w B p D) : ArAt w p D := ⟨h.dims, h.attrs, h.cells.at⟩

section
variable {ops : Array Oper} {Q : Exit → Act → World → Prop} {K : Act → World → Prop} {a : Act} {w : World}
theorem op_len {o : Oper} {d t n c : Nat} {A : Option Addr} (ho : o.op = .call { callee := .builtin .len, args := #[.tmp t], argTypes := #[24] }) (hd : o.dst = some d) (hs : slot a t = .slice A n c) (h : K (putSlot a d (.int .i64 n)) w) : o.wp Tryz.prog a w K Q := by
  obtain ⟨op, dst, ty, pos, after, guard⟩ := o
  dsimp only at ho hd
  subst ho hd
  have hs' : a.tmps[t]?.getD undef = .slice A n c := hs
  unfold Oper.wp
  go_simp
  exact h
theorem op_mk {o : Oper} {d t : Nat} {ty' : TypeId} {z v : Value} {w' : World} (ho : o.op = .makeSlice ty' (.tmp t) (.tmp t)) (hd : o.dst = some d) (hs : slot a t = z) (hm : (Instr.makeSlice ty' z z).run Tryz.prog w = .ok v w') (h : K (putSlot a d v) w') : o.wp Tryz.prog a w K Q := by
  obtain ⟨op, dst, ty, pos, after, guard⟩ := o
  dsimp only at ho hd
  subst ho hd
  have hs' : a.eval (.tmp t) = z := by rw [← hs]; simp [Act.eval, slot]
  unfold Oper.wp
  simp only [execOp, hs', Sem.run_bind, hm, Result.andThen_ok]
  go_simp
  exact h
theorem op_bd3 {o : Oper} {d t1 t2 t3 : Nat} {p q r : Option Addr} {n c n' c' n2 c2 : Nat} (ho : o.op = .build 29 #[(0, .tmp t1), (1, .tmp t2), (2, .tmp t3)]) (hd : o.dst = some d) (h1 : slot a t1 = .slice p n c) (h2 : slot a t2 = .slice q n' c') (h3 : slot a t3 = .slice r n2 c2) (h : K (putSlot a d (.agg #[.slice p n c, .slice q n' c', .slice r n2 c2])) w) : o.wp Tryz.prog a w K Q := by
  obtain ⟨op, dst, ty, pos, after, guard⟩ := o
  dsimp only at ho hd
  subst ho hd
  have h1' : a.tmps[t1]?.getD undef = .slice p n c := h1
  have h2' : a.tmps[t2]?.getD undef = .slice q n' c' := h2
  have h3' : a.tmps[t3]?.getD undef = .slice r n2 c2 := h3
  unfold Oper.wp
  go_simp
  exact h
theorem op_al3 {o : Oper} {d : Nat} (ho : o.op = .alloc 29) (hd : o.dst = some d) (h : K (putSlot a d (.pointer (some ⟨w.heap.size, 0, none⟩))) (w.alloc (.cells #[.slice none 0 0, .slice none 0 0, .slice none 0 0] 29))) : o.wp Tryz.prog a w K Q := by
  obtain ⟨op, dst, ty, pos, after, guard⟩ := o
  dsimp only at ho hd
  subst ho hd
  unfold Oper.wp
  go_simp
  exact h
theorem three_at {W : World} {r : Nat} {x y z : Value} {ty : TypeId} (h : W.heap[r]? = some (.cells #[x, y, z] ty (0, 0))) : (W.cell? ⟨r, 0, none⟩ = some x ∧ W.cell? ⟨r, 1, none⟩ = some y ∧ W.cell? ⟨r, 2, none⟩ = some z) ∧ W.frozen? ⟨r, 0, none⟩ = false ∧ W.frozen? ⟨r, 1, none⟩ = false ∧ W.frozen? ⟨r, 2, none⟩ = false := by
  refine ⟨⟨by simp [World.cell?, h], by simp [World.cell?, h], by simp [World.cell?, h]⟩, by simp [World.frozen?, h], by simp [World.frozen?, h], by simp [World.frozen?, h]⟩
theorem three_set {W : World} {r : Nat} {x y z : Value} {ty : TypeId} (h : W.heap[r]? = some (.cells #[x, y, z] ty (0, 0))) (u v t : Value) : (((W.setCell ⟨r, 0, none⟩ u).setCell ⟨r, 1, none⟩ v).setCell ⟨r, 2, none⟩ t).heap[r]? = some (.cells #[u, v, t] ty (0, 0)) := by
  simp [World.setCell, Array.getElem?_modify, h]
theorem op_st3 {o : Oper} {t s b : Nat} {p q r : Option Addr} {n c n' c' n2 c2 : Nat} {x' y' z' : Value} (ho : o.op = .store 29 (.tmp t) (.tmp s)) (hd : o.dst = none) (hs : slot a t = .pointer (some ⟨b, 0, none⟩)) (hv : slot a s = .agg #[.slice p n c, .slice q n' c', .slice r n2 c2])
    (hb : w.heap[b]? = some (.cells #[x', y', z'] 29 (0, 0))) (h : K a (((w.setCell ⟨b, 0, none⟩ (.slice p n c)).setCell ⟨b, 1, none⟩ (.slice q n' c')).setCell ⟨b, 2, none⟩ (.slice r n2 c2))) : o.wp Tryz.prog a w K Q := by
  obtain ⟨op, dst, ty, pos, after, guard⟩ := o
  dsimp only at ho hd
  subst ho hd
  have hs' : a.tmps[t]?.getD undef = .pointer (some ⟨b, 0, none⟩) := hs
  have hv' : a.tmps[s]?.getD undef = .agg #[.slice p n c, .slice q n' c', .slice r n2 c2] := hv
  obtain ⟨⟨r0, r1, r2⟩, f0, f1, f2⟩ := three_at hb
  unfold Oper.wp
  go_simp
  exact h
end
theorem info_cel : (Tryz.prog.info? 38).map (fun i => (i.zero, i.size, i.bytes)) = some (some (.agg #[.slice none 0 0, .slice none 0 0]), 2, 48) := by kernel_rfl
theorem run_make_cel (N : Nat) (hN : N ≤ 1000000) (W : World) : (Instr.makeSlice 24 (.int .i64 (N : Int)) (.int .i64 (N : Int))).run Tryz.prog W = .ok (.slice (some ⟨W.heap.size, 0, none⟩) N N) (W.alloc (.cells (madeCells #[.slice none 0 0, .slice none 0 0] (N * 2)) 38)) := by
  obtain ⟨i, hi, hzz⟩ := Option.map_eq_some_iff.1 info_cel
  simp only [Prod.mk.injEq] at hzz
  obtain ⟨hz, hs, hb⟩ := hzz
  have hr := run_make (P := Tryz.prog) W 24 38 i _ Tryz.underlying24 hi hz .i64 .i64 N N (by omega) (Int.le_refl _) (by rw [hb]; omega) (by omega)
  simp only [Int.toNat_natCast, hs] at hr
  exact hr
theorem made_cel {w : World} {b N : Nat} (h : w.heap[b]? = some (.cells (madeCells #[.slice none 0 0, .slice none 0 0] (N * 2)) 38)) : w.rowIs b 38 (N * 2) (fun _ => .slice none 0 0) :=
  ⟨_, h, size_madeCells _ _, fun i hi => by
    rcases (by omega : i % 2 = 0 ∨ i % 2 = 1) with e | e <;> simp [madeCells, hi, e]⟩
theorem RowAt.grown {w w' : World} {A : Option Addr} {n z b : Nat} {f : Nat → Nat → Value} (h : RowAt w A n z f) (hg : w.grownBy w' (some b)) (hA : 0 < n → ∀ a, A = some a → a.block ≠ b) : RowAt w' A n z f := fun hn => by
  obtain ⟨b', o, rfl, h2, h3⟩ := h hn
  have hne := hA hn _ rfl
  have hb := hg.block b' h2 (fun e => by injection e with e; exact hne (by show b' = b; omega))
  refine ⟨b', o, rfl, Nat.lt_of_lt_of_le h2 hg.size, fun k r hk hr => ?_⟩
  rw [cell_blk hb]
  exact h3 k r hk hr
theorem Up.ne {B b n : Nat} {A : Option Addr} (h : Up B A) (hb : b < B) : 0 < n → ∀ a, A = some a → a.block ≠ b := fun _ a ha e => by
  have := (h a ha).1
  omega
theorem row_ne {W : World} {A : Option Addr} {n z b : Nat} {f : Nat → Nat → Value} {x y u : Value} {ty : TypeId} (h : RowAt W A n z f) (hz : 0 < z) (hb : W.heap[b]? = some (.cells #[x, y, u] ty (0, 0))) (hx : f 0 0 ≠ x ∧ f 0 0 ≠ y ∧ f 0 0 ≠ u) : 0 < n → ∀ a, A = some a → a.block ≠ b := fun hn a ha e => by
  obtain ⟨b', o, rfl, _, h3⟩ := h hn
  injection ha with ha
  subst ha
  have h4 := h3 0 0 hn hz
  have e' : b' = b := e
  rw [e', Nat.zero_mul, Nat.add_zero] at h4
  rcases o with _ | _ | _ | o
  · exact hx.1 (by simpa [World.cell?, hb] using h4.symm)
  · exact hx.2.1 (by simpa [World.cell?, hb] using h4.symm)
  · exact hx.2.2 (by simpa [World.cell?, hb] using h4.symm)
  · simp [World.cell?, hb] at h4
theorem row_off {W : World} {A : Option Addr} {n z b : Nat} {f : Nat → Nat → Value} {cs : Array Value} {ty : TypeId} (h : RowAt W A n z f) (hz : 0 < z) (hb : W.heap[b]? = some (.cells cs ty (0, 0))) (hx : ∀ (i : Nat) (v : Value), cs[i]? = some v → v ≠ f 0 0) : 0 < n → ∀ a, A = some a → a.block ≠ b := fun hn a ha e => by
  obtain ⟨b', o, rfl, _, h3⟩ := h hn
  injection ha with ha
  subst ha
  have h4 := h3 0 0 hn hz
  have e' : b' = b := e
  rw [e', Nat.zero_mul, Nat.add_zero] at h4
  exact hx o _ (by simpa [World.cell?, hb] using h4) rfl
theorem made_nil {N i : Nat} {v : Value} (h : (madeCells #[.slice none 0 0, .slice none 0 0] (N * 2))[i]? = some v) : v = .slice none 0 0 := by
  obtain ⟨h1, h2⟩ := Array.getElem?_eq_some_iff.1 h
  rcases (by omega : i % 2 = 0 ∨ i % 2 = 1) with e | e <;> simp [madeCells, e] at h2 <;> exact h2.symm
/-- The first k cells of the row at b are made. -/
def CopAt (b N : Nat) (c : CeD) (k : Nat) (W : World) : Prop := ∃ g, W.rowIs b 38 (N * 2) g ∧ ∀ j, j < k → ∃ P pc Q qc, g (j * 2) = .slice P (c.ln j) pc ∧ g (j * 2 + 1) = .slice Q (c.vl j) qc ∧ IntsAt W P (c.ln j) (c.x j) ∧ ValsAt W Q (c.vl j) (c.vk j) (c.vn j) (c.vd j) (c.vs j) ∧ Up (b + 1) P ∧ Up (b + 1) Q
theorem CopAt.below {b N k : Nat} {c : CeD} {W W' : World} (h : CopAt b N c k W) (hb : Below W.heap.size W W') : CopAt b N c k W' := by
  obtain ⟨g, h1, h2⟩ := h
  refine ⟨g, h1.of_block (hb.block b h1.lt), fun j hj => ?_⟩
  obtain ⟨P, pc, Q, qc, a1, a2, a3, a4, a5⟩ := h2 j hj
  exact ⟨P, pc, Q, qc, a1, a2, a3.below hb, a4.below hb, a5⟩
theorem CopAt.next {b N k : Nat} {c : CeD} {W : World} (h : CopAt b N c k W) {P Q : Option Addr} {pc qc : Nat} (h1 : IntsAt W P (c.ln k) (c.x k)) (h2 : ValsAt W Q (c.vl k) (c.vk k) (c.vn k) (c.vd k) (c.vs k)) (u1 : Up (b + 1) P) (u2 : Up (b + 1) Q) :
    CopAt b N c (k + 1) ((W.setCell ⟨b, k * 2, none⟩ (.slice P (c.ln k) pc)).setCell ⟨b, k * 2 + 1, none⟩ (.slice Q (c.vl k) qc)) := by
  obtain ⟨g, g1, g2⟩ := h
  have gr : W.grownBy ((W.setCell ⟨b, k * 2, none⟩ (.slice P (c.ln k) pc)).setCell ⟨b, k * 2 + 1, none⟩ (.slice Q (c.vl k) qc)) (some b) := gr2 (grown_set _ _ _ _) (grown_set _ _ _ _)
  refine ⟨_, (g1.set (k * 2) _).set (k * 2 + 1) _, fun j hj => ?_⟩
  by_cases e : j = k
  · subst e
    refine ⟨P, pc, Q, qc, ?_, ?_, (h1.row.grown gr (u1.ne (Nat.lt_succ_self b))).ints, (h2.row.grown gr (u2.ne (Nat.lt_succ_self b))).vals, u1, u2⟩
    · show (if j * 2 = j * 2 + 1 then _ else if j * 2 = j * 2 then _ else _) = _
      rw [if_neg (by omega), if_pos rfl]
    · show (if j * 2 + 1 = j * 2 + 1 then _ else _) = _
      rw [if_pos rfl]
  · obtain ⟨P', pc', Q', qc', a1, a2, a3, a4, a5, a6⟩ := g2 j (by omega)
    refine ⟨P', pc', Q', qc', ?_, ?_, (a3.row.grown gr (a5.ne (Nat.lt_succ_self b))).ints, (a4.row.grown gr (a6.ne (Nat.lt_succ_self b))).vals, a5, a6⟩
    · show (if j * 2 = k * 2 + 1 then _ else if j * 2 = k * 2 then _ else g (j * 2)) = _
      rw [if_neg (by omega), if_neg (by omega)]; exact a1
    · show (if j * 2 + 1 = k * 2 + 1 then _ else if j * 2 + 1 = k * 2 then _ else g (j * 2 + 1)) = _
      rw [if_neg (by omega), if_neg (by omega)]; exact a2
theorem CeUp.grown {W W' : World} {B b N : Nat} {C : Option Addr} {c : CeD} (h : CeUp W B C N c) (hg : W.grownBy W' (some b)) (hb : b < B) : CeUp W' B C N c := fun hN => by
  obtain ⟨d, o, h1, h2, h3, h4⟩ := h hN
  have hbl := hg.block d h3 (fun e => by injection e with e; omega)
  refine ⟨d, o, h1, h2, Nat.lt_of_lt_of_le h3 hg.size, fun k hk => ?_⟩
  obtain ⟨P, pc, Q, qc, a1, a2, a3, a4, a5, a6, a7⟩ := h4 k hk
  exact ⟨P, pc, Q, qc, by rw [cell_blk hbl]; exact a1, by rw [cell_blk hbl]; exact a2, (a3.row.grown hg (a6.ne hb)).ints, (a4.row.grown hg (a7.ne hb)).vals, a5, a6, a7⟩
theorem CeUp.mono {W : World} {B B' N : Nat} {C : Option Addr} {c : CeD} (h : CeUp W B C N c) (hb : B' ≤ B) : CeUp W B' C N c := fun hN => by
  obtain ⟨d, o, h1, h2, h3, h4⟩ := h hN
  refine ⟨d, o, h1, by omega, h3, fun k hk => ?_⟩
  obtain ⟨P, pc, Q, qc, a1, a2, a3, a4, a5, a6, a7⟩ := h4 k hk
  exact ⟨P, pc, Q, qc, a1, a2, a3, a4, a5, a6.mono hb, a7.mono hb⟩
theorem CopAt.done {b N B : Nat} {c : CeD} {W : World} (h : CopAt b N c N W) (hB : B ≤ b) (ho : CeOk N c) : CeUp W B (some ⟨b, 0, none⟩) N c := fun hN => by
  obtain ⟨g, g1, g2⟩ := h
  refine ⟨b, 0, rfl, hB, g1.lt, fun k hk => ?_⟩
  obtain ⟨P, pc, Q, qc, a1, a2, a3, a4, a5, a6⟩ := g2 k hk
  refine ⟨P, pc, Q, qc, ?_, ?_, a3, a4, (ho k hk).1, a5.mono (by omega), a6.mono (by omega)⟩
  · rw [Nat.zero_add, g1.cell (by omega), a1]
  · rw [Nat.zero_add, g1.cell (by omega), a2]
set_option maxRecDepth 100000 in
set_option maxHeartbeats 4000000 in
theorem s_copied (w : World) (A B C : Option Addr) (n cap m bcap N ccap : Nat) (nm : Nat → ByteArray) (lo hi : Nat → Int) (an : Nat → ByteArray) (ty : Nat → Int) (c : CeD) (hd : DimsAt w A n nm lo hi) (ha : AttrsAt w B m an ty) (hc : CeAt w C N c) (hn : n ≤ 1000) (hm : m ≤ 1000) (hN : N ≤ 1000000) (ho : CeOk N c) :
    Calls Tryz.prog 41 #[.slice A n cap, .slice B m bcap, .slice C N ccap] w fun e w' => ∃ p : ArP, e = .returned (p.val n m N) ∧ ArUp w' w.heap.size p ⟨n, nm, lo, hi, m, an, ty, N, c⟩ ∧ Below w.heap.size w w' := by
  have HD : Hid (∀ W, Below w.heap.size w W → Calls Tryz.prog 82 #[.slice A n cap] W fun e w' => ∃ P cc, e = .returned (.slice P n cc) ∧ DimsAt w' P n nm lo hi ∧ Up W.heap.size P ∧ Below W.heap.size W w') := fun W hW => c_CloneD W A n cap nm lo hi (hd.below hW) (by omega)
  have HA : Hid (∀ W, Below w.heap.size w W → Calls Tryz.prog 83 #[.slice B m bcap] W fun e w' => ∃ P cc, e = .returned (.slice P m cc) ∧ AttrsAt w' P m an ty ∧ Up W.heap.size P ∧ Below W.heap.size W w') := fun W hW => c_CloneA W B m bcap an ty (ha.below hW) (by omega)
  have HC := Lib.hid hc
  have HO := Lib.hid ho
  have HI := Lib.hid c_CloneI
  have HV := Lib.hid c_CloneV
  clear hd ha hc ho
  go_enter Tryz.func41, Tryz.ntmps41
  have B0 : Below w.heap.size w (w.alloc (.cells #[.slice none 0 0, .slice none 0 0, .slice none 0 0] 29)) := (Below.refl _ _).alloc (Nat.le_refl _) _
  have hmk := run_make_cel N hN
  go_wp2_with fail
  generalize hW0 : w.alloc (.cells #[.slice none 0 0, .slice none 0 0, .slice none 0 0] 29) = W0 at *
  have HRes : Hid (W0.heap[w.heap.size]? = some (.cells #[.slice none 0 0, .slice none 0 0, .slice none 0 0] 29 (0, 0))) := by rw [← hW0]; exact heap_alloc_new _ _
  have hz0 : W0.heap.size = w.heap.size + 1 := by rw [← hW0]; simp
  rename_i K hK
  have HB0 := Lib.hid B0
  clear B0
  obtain ⟨B9, hB9⟩ : ∃ B9, w.heap.size = B9 := ⟨_, rfl⟩
  have HB9 := Lib.hid hB9
  refine wp_region_TL (n1 := 9) (T := TL [isW (.slice A n cap), fun v W => ∃ P cc, v = .slice P n cc ∧ DimsAt W P n nm lo hi ∧ Up (w.heap.size + 1) P, isW (.slice B m bcap), fun v W => ∃ P cc, v = .slice P m cc ∧ AttrsAt W P m an ty ∧ Up (w.heap.size + 1) P, isW (.slice C N ccap), isW (.int .i64 N),
    fun v W => ∃ b, v = .slice (some ⟨b, 0, none⟩) N N ∧ w.heap.size + 1 ≤ b ∧ W.heap[b]? = some (.cells (madeCells #[.slice none 0 0, .slice none 0 0] (N * 2)) 38 (0, 0)),
    fun v W => ∃ P cc Q qc b, v = .agg #[.slice P n cc, .slice Q m qc, .slice (some ⟨b, 0, none⟩) N N] ∧ (DimsAt W P n nm lo hi ∧ Up (w.heap.size + 1) P) ∧ (AttrsAt W Q m an ty ∧ Up (w.heap.size + 1) Q) ∧ w.heap.size + 1 ≤ b ∧ W.heap[b]? = some (.cells (madeCells #[.slice none 0 0, .slice none 0 0] (N * 2)) 38 (0, 0)),
    fun v W => ∃ b, v = .pointer (some ⟨b, 0, none⟩) ∧ w.heap.size + 1 ≤ b ∧ W.heap[b]? = some (.cells #[.slice none 0 0, .slice none 0 0, .slice none 0 0] 29 (0, 0))]) (by kernel_rfl) rfl rfl rfl (by kernel_rfl) ?step ?tail
  case step =>
    intro listed a W i H hi9 hilt
    have dl := H.dl (l := [some 10, some 11, some 12, some 13, some 14, some 15, some 16, some 17, some 7, none]) rfl
    have ap := apart_of dl (by decide)
    have HBW : Hid (Below w.heap.size w W) := st HB0.out H.below
    have hBW := HBW.out.size
    have hBW1 : w.heap.size + 1 ≤ W.heap.size := by rw [← hz0]; exact H.below.size
    have mono : ∀ p ∈ [isW (.slice A n cap), fun v W => ∃ P cc, v = .slice P n cc ∧ DimsAt W P n nm lo hi ∧ Up (w.heap.size + 1) P, isW (.slice B m bcap), fun v W => ∃ P cc, v = .slice P m cc ∧ AttrsAt W P m an ty ∧ Up (w.heap.size + 1) P, isW (.slice C N ccap), isW (.int .i64 N),
      fun v W => ∃ b, v = .slice (some ⟨b, 0, none⟩) N N ∧ w.heap.size + 1 ≤ b ∧ W.heap[b]? = some (.cells (madeCells #[.slice none 0 0, .slice none 0 0] (N * 2)) 38 (0, 0)),
      fun v W => ∃ P cc Q qc b, v = .agg #[.slice P n cc, .slice Q m qc, .slice (some ⟨b, 0, none⟩) N N] ∧ (DimsAt W P n nm lo hi ∧ Up (w.heap.size + 1) P) ∧ (AttrsAt W Q m an ty ∧ Up (w.heap.size + 1) Q) ∧ w.heap.size + 1 ≤ b ∧ W.heap[b]? = some (.cells (madeCells #[.slice none 0 0, .slice none 0 0] (N * 2)) 38 (0, 0)),
      fun v W => ∃ b, v = .pointer (some ⟨b, 0, none⟩) ∧ w.heap.size + 1 ≤ b ∧ W.heap[b]? = some (.cells #[.slice none 0 0, .slice none 0 0, .slice none 0 0] 29 (0, 0))], Mono p := by
      intro p hp
      simp only [List.mem_cons, List.not_mem_nil, or_false] at hp
      rcases hp with rfl | rfl | rfl | rfl | rfl | rfl | rfl | rfl | rfl
      · exact isW_mono _
      · rintro v x y ⟨P, cc, h1, h2, h3⟩ hb; exact ⟨P, cc, h1, h2.below hb, h3⟩
      · exact isW_mono _
      · rintro v x y ⟨P, cc, h1, h2, h3⟩ hb; exact ⟨P, cc, h1, h2.below hb, h3⟩
      · exact isW_mono _
      · exact isW_mono _
      · rintro v x y ⟨b, h1, h2, h3⟩ hb; exact ⟨b, h1, h2, (hb.block b (Array.getElem?_eq_some_iff.1 h3).1).trans h3⟩
      · rintro v x y ⟨P, cc, Q, qc, b, h1, h2, h3, h4, h5⟩ hb; exact ⟨P, cc, Q, qc, b, h1, ⟨h2.1.below hb, h2.2⟩, ⟨h3.1.below hb, h3.2⟩, h4, (hb.block b (Array.getElem?_eq_some_iff.1 h5).1).trans h5⟩
      · rintro v x y ⟨b, h1, h2, h3⟩ hb; exact ⟨b, h1, h2, (hb.block b (Array.getElem?_eq_some_iff.1 h3).1).trans h3⟩
    rcases (by omega : i = 0 ∨ i = 1 ∨ i = 2 ∨ i = 3 ∨ i = 4 ∨ i = 5 ∨ i = 6 ∨ i = 7 ∨ i = 8) with rfl | rfl | rfl | rfl | rfl | rfl | rfl | rfl | rfl
    · exact wpOp_of rfl (.inl rfl) (op_mv rfl rfl (H.over mono ap rfl rfl (by simp) (Below.refl _ _) (H.old 0 (old_of' dl 0 (by decide)))))
    · refine wpOp_of rfl (.inl rfl) (op_T1 rfl rfl (H.got' hi9 (j := 0) (t := 10) rfl (by kernel_rfl) rfl rfl) (enters_of Tryz.func82 (by kernel_rfl) rfl) ((HD.out W HBW.out).mono ?_))
      rintro e w1 ⟨P, cc, rfl, h1, h2, h3⟩
      exact ⟨_, rfl, H.over mono ap rfl rfl (by simp) h3 ⟨P, cc, rfl, h1, h2.mono hBW1⟩⟩
    · exact wpOp_of rfl (.inl rfl) (op_mv rfl rfl (H.over mono ap rfl rfl (by simp) (Below.refl _ _) (H.old 1 (old_of' dl 1 (by decide)))))
    · refine wpOp_of rfl (.inl rfl) (op_T1 rfl rfl (H.got' hi9 (j := 2) (t := 12) rfl (by kernel_rfl) rfl rfl) (enters_of Tryz.func83 (by kernel_rfl) rfl) ((HA.out W HBW.out).mono ?_))
      rintro e w1 ⟨P, cc, rfl, h1, h2, h3⟩
      exact ⟨_, rfl, H.over mono ap rfl rfl (by simp) h3 ⟨P, cc, rfl, h1, h2.mono hBW1⟩⟩
    · exact wpOp_of rfl (.inl rfl) (op_mv rfl rfl (H.over mono ap rfl rfl (by simp) (Below.refl _ _) (H.old 2 (old_of' dl 2 (by decide)))))
    · exact wpOp_of rfl (.inl rfl) (op_len rfl rfl (H.got' hi9 (j := 4) (t := 14) rfl (by kernel_rfl) rfl rfl) (H.over mono ap rfl rfl (by simp) (Below.refl _ _) rfl))
    · exact wpOp_of rfl (.inl rfl) (op_mk rfl rfl (H.got' hi9 (j := 5) (t := 15) rfl (by kernel_rfl) rfl rfl) (hmk W) (H.over mono ap rfl rfl (by simp) (bel_nw W _) ⟨_, rfl, hBW1, heap_alloc_new W _⟩))
    · obtain ⟨P, cc, e1, d1⟩ := H.got' hi9 (j := 1) (t := 11) rfl (by kernel_rfl) rfl rfl
      obtain ⟨Q, qc, e2, d2⟩ := H.got' hi9 (j := 3) (t := 13) rfl (by kernel_rfl) rfl rfl
      obtain ⟨b, e3, d3⟩ := H.got' hi9 (j := 6) (t := 16) rfl (by kernel_rfl) rfl rfl
      exact wpOp_of rfl (.inl rfl) (op_bd3 rfl rfl e1 e2 e3 (H.over mono ap rfl rfl (by simp) (Below.refl _ _) ⟨P, cc, Q, qc, b, rfl, d1, d2, d3⟩))
    · exact wpOp_of rfl (.inl rfl) (op_al3 rfl rfl (H.over mono ap rfl rfl (by simp) (bel_nw W _) ⟨_, rfl, hBW1, heap_alloc_new W _⟩))
  case tail =>
    intro listed a W H hall
    obtain ⟨P, cc, Q, qc, b, e1, d1, d2, d3, d4⟩ := H.got 7 _ 17 rfl rfl (hall 7 (by decide))
    obtain ⟨bb, e2, d5, d6⟩ := H.got 8 _ 7 rfl rfl (hall 8 (by decide))
    refine op_st3 rfl rfl e2 e1 d6 ?_
    have dl := H.dl (l := [some 10, some 11, some 12, some 13, some 14, some 15, some 16, some 17, some 7, none]) rfl
    have s0 := H.old 0 (old_of' dl 0 (by decide))
    have s1 := H.old 1 (old_of' dl 1 (by decide))
    have s2 := H.old 2 (old_of' dl 2 (by decide))
    have s6 := H.old 6 (old_of' dl 6 (by decide))
    obtain ⟨f, hf, rfl⟩ := actlit_38 a (H.frame.trans (by simp)) (H.defers.trans rfl)
    have q0 : f 0 = .slice A n cap := (hf 0).symm.trans s0
    have q1 : f 1 = .slice B m bcap := (hf 1).symm.trans s1
    have q2 : f 2 = .slice C N ccap := (hf 2).symm.trans s2
    have q6 : f 6 = .pointer (some ⟨w.heap.size, 0, none⟩) := (hf 6).symm.trans s6
    have q7 : f 7 = .pointer (some ⟨bb, 0, none⟩) := (hf 7).symm.trans e2
    rw [q0, q1, q2, q6, q7]
    have HBw : Hid (Below w.heap.size w W) := st HB0.out H.below
    have HB0b := H.below
    clear dl s0 s1 s2 s6 q0 q1 q2 q6 q7 e1 e2 hf hall H
    refine hK _ _ ?_
    clear hK
    have hbne : b ≠ bb := fun e => by rw [e, d6] at d4; simp at d4
    have d6' : (((W.setCell ⟨bb, 0, none⟩ (.slice P n cc)).setCell ⟨bb, 1, none⟩ (.slice Q m qc)).setCell ⟨bb, 2, none⟩ (.slice (some ⟨b, 0, none⟩) N N)).heap[bb]? = some (.cells #[.slice P n cc, .slice Q m qc, .slice (some ⟨b, 0, none⟩) N N] 29 (0, 0)) := three_set d6 _ _ _
    have HBw2 : Hid (Below w.heap.size w (((W.setCell ⟨bb, 0, none⟩ (.slice P n cc)).setCell ⟨bb, 1, none⟩ (.slice Q m qc)).setCell ⟨bb, 2, none⟩ (.slice (some ⟨b, 0, none⟩) N N))) := ((HBw.out.setCell (p := ⟨bb, 0, none⟩) (by show w.heap.size ≤ bb; omega) _).setCell (p := ⟨bb, 1, none⟩) (by show w.heap.size ≤ bb; omega) _).setCell (p := ⟨bb, 2, none⟩) (by show w.heap.size ≤ bb; omega) _
    have hr0 : CopAt b N c 0 (((W.setCell ⟨bb, 0, none⟩ (.slice P n cc)).setCell ⟨bb, 1, none⟩ (.slice Q m qc)).setCell ⟨bb, 2, none⟩ (.slice (some ⟨b, 0, none⟩) N N)) := ⟨_, (((made_cel d4).setOther (a := ⟨bb, 0, none⟩) hbne _).setOther (a := ⟨bb, 1, none⟩) hbne _).setOther (a := ⟨bb, 2, none⟩) hbne _, fun j hj => absurd hj (by omega)⟩
    have gr : W.grownBy (((W.setCell ⟨bb, 0, none⟩ (.slice P n cc)).setCell ⟨bb, 1, none⟩ (.slice Q m qc)).setCell ⟨bb, 2, none⟩ (.slice (some ⟨b, 0, none⟩) N N)) (some bb) := gr2 (gr2 (grown_set _ _ _ _) (grown_set _ _ _ _)) (grown_set _ _ _ _)
    have HD1 : Hid (DimsAt (((W.setCell ⟨bb, 0, none⟩ (.slice P n cc)).setCell ⟨bb, 1, none⟩ (.slice Q m qc)).setCell ⟨bb, 2, none⟩ (.slice (some ⟨b, 0, none⟩) N N)) P n nm lo hi) := (d1.1.row.grown gr (row_ne d1.1.row (by decide) d6 ⟨by simp [dimF], by simp [dimF], by simp [dimF]⟩)).dims
    have HA1 : Hid (AttrsAt (((W.setCell ⟨bb, 0, none⟩ (.slice P n cc)).setCell ⟨bb, 1, none⟩ (.slice Q m qc)).setCell ⟨bb, 2, none⟩ (.slice (some ⟨b, 0, none⟩) N N)) Q m an ty) := (d2.1.row.grown gr (row_ne d2.1.row (by decide) d6 ⟨by simp [attF], by simp [attF], by simp [attF]⟩)).attrs
    have HRs : Hid ((((W.setCell ⟨bb, 0, none⟩ (.slice P n cc)).setCell ⟨bb, 1, none⟩ (.slice Q m qc)).setCell ⟨bb, 2, none⟩ (.slice (some ⟨b, 0, none⟩) N N)).heap[w.heap.size]? = some (.cells #[.slice none 0 0, .slice none 0 0, .slice none 0 0] 29 (0, 0))) := (gr.block _ (by have := HB0b.size; omega) (fun e => by injection e with e; omega)).trans ((HB0b.block _ (by omega)).trans HRes.out)
    have HPb : Hid ((0 < n → ∀ a, P = some a → a.block ≠ b) ∧ (0 < m → ∀ a, Q = some a → a.block ≠ b)) := ⟨row_off d1.1.row (by decide) d4 fun i v h => by rw [made_nil h]; simp [dimF], row_off d2.1.row (by decide) d4 fun i v h => by rw [made_nil h]; simp [attF]⟩
    have HUp := Lib.hid (And.intro d1.2 d2.2)
    clear d1 d2 d4 d6 gr HBw HB9 hmk
    generalize ((W.setCell ⟨bb, 0, none⟩ (.slice P n cc)).setCell ⟨bb, 1, none⟩ (.slice Q m qc)).setCell ⟨bb, 2, none⟩ (.slice (some ⟨b, 0, none⟩) N N) = W1 at *
    have HR0 := Lib.hid hr0
    have HX1 := Lib.hid d6'
    clear hr0 d6' hB9
    go_wp2_with fail
    go_loopw [8, 9, 20] (fun _ _ i wr => ∃ k : Nat, k ≤ N ∧ i = .int .i64 k ∧ Hid (CopAt b N c k wr) ∧ Hid (wr.heap[bb]? = some (.cells #[.slice P n cc, .slice Q m qc, .slice (some ⟨b, 0, none⟩) N N] 29 (0, 0))) ∧ Hid (wr.heap[w.heap.size]? = some (.cells #[.slice none 0 0, .slice none 0 0, .slice none 0 0] 29 (0, 0))) ∧ Hid (DimsAt wr P n nm lo hi) ∧ Hid (AttrsAt wr Q m an ty) ∧ Hid (Below w.heap.size w wr)) (fun _ _ i _ => N - (intOf i).toNat)
    case atStart => exact ⟨0, Nat.zero_le _, rfl, HR0.out, HX1.out, HRs.out, HD1.out, HA1.out, HBw2.out⟩
    case round =>
      obtain ⟨k, hk, rfl, HR, HX, HRe, HDr, HAr, HBr⟩ := hrel
      by_cases hlt : k < N
      · obtain ⟨bc, oc, rfl, hbc, hcc⟩ := (HC.out.below HBr.out) (by omega)
        obtain ⟨P0, pc, Q0, qc0, x0, x1, x2, x3, x4⟩ := hcc k hlt
        clear hcc
        obtain ⟨g, g1, g2⟩ := HR.out
        have hbw := g1.lt
        have HI1 : Hid (∀ W, Below wr.heap.size wr W → Calls Tryz.prog 84 #[.slice P0 (c.ln k) pc] W fun e w' => ∃ P cc, e = .returned (.slice P (c.ln k) cc) ∧ IntsAt w' P (c.ln k) (c.x k) ∧ Up W.heap.size P ∧ Below W.heap.size W w') := fun W hW => HI.out W P0 _ pc _ (x2.below hW) (by omega)
        have HV1 : Hid (∀ W, Below wr.heap.size wr W → Calls Tryz.prog 85 #[.slice Q0 (c.vl k) qc0] W fun e w' => ∃ P cc, e = .returned (.slice P (c.vl k) cc) ∧ ValsAt w' P (c.vl k) (c.vk k) (c.vn k) (c.vd k) (c.vs k) ∧ Up W.heap.size P ∧ Below W.heap.size W w') := fun W hW => HV.out W Q0 _ qc0 _ _ _ _ (x3.below hW) (by have := (HO.out k hlt).2.1; omega)
        have Bb : Below wr.heap.size wr (wr.alloc (.cells #[.slice P0 (c.ln k) pc, .slice Q0 (c.vl k) qc0] 38)) := bel_nw _ _
        have KC := Lib.hid (cel_box wr (.slice P0 (c.ln k) pc) (.slice Q0 (c.vl k) qc0) 38)
        have HRow : Hid (∀ W, Below wr.heap.size wr W → W.rowIs b 38 (N * 2) g ∧ CopAt b N c k W) := fun W hW => ⟨g1.of_block (hW.block b hbw), HR.out.below hW⟩
        have HBo : Hid (∀ W, Below wr.heap.size wr W → (W.cell? ⟨bb, 0, none⟩ = some (.slice P n cc) ∧ W.cell? ⟨bb, 1, none⟩ = some (.slice Q m qc) ∧ W.cell? ⟨bb, 2, none⟩ = some (.slice (some ⟨b, 0, none⟩) N N))) := fun W hW => (three_at ((hW.block bb (Array.getElem?_eq_some_iff.1 HX.out).1).trans HX.out)).1
        clear x2 x3 g1 g2
        go_wp2_with fail
        generalize hwb : wr.alloc (.cells #[.slice P0 (c.ln k) pc, .slice Q0 (c.vl k) qc0] 38) = wb at *
        have B0d : Below wb.heap.size wb wb.drew := Below.drew (Below.refl _ _)
        have HBc : Hid (∀ W, Below wb.heap.size wb W → (W.cell? ⟨wr.heap.size, 0, none⟩ = some (.slice P0 (c.ln k) pc) ∧ W.cell? ⟨wr.heap.size, 1, none⟩ = some (.slice Q0 (c.vl k) qc0)) ∧ W.cell? ⟨bb, 2, none⟩ = some (.slice (some ⟨b, 0, none⟩) N N)) := fun W hW => ⟨KC.out W hW, (HBo.out W (st Bb hW)).2.2⟩
        have HKS : Hid (∀ W u v, Below wb.heap.size wb W → (((W.setCell ⟨b, k * 2, none⟩ u).setCell ⟨b, k * 2 + 1, none⟩ v).cell? ⟨wr.heap.size, 0, none⟩ = some (.slice P0 (c.ln k) pc) ∧ ((W.setCell ⟨b, k * 2, none⟩ u).setCell ⟨b, k * 2 + 1, none⟩ v).cell? ⟨wr.heap.size, 1, none⟩ = some (.slice Q0 (c.vl k) qc0)) ∧ ((W.setCell ⟨b, k * 2, none⟩ u).setCell ⟨b, k * 2 + 1, none⟩ v).cell? ⟨bb, 2, none⟩ = some (.slice (some ⟨b, 0, none⟩) N N)) := fun W u v hW => by
          have hs := fun b' (hb : b' ≠ b) => (blk_setCell_other (W.setCell ⟨b, k * 2, none⟩ u) ⟨b, k * 2 + 1, none⟩ v b' hb).trans (blk_setCell_other W ⟨b, k * 2, none⟩ u b' hb)
          rw [cell_blk (hs _ (show wr.heap.size ≠ b by omega)), cell_blk (hs _ (show wr.heap.size ≠ b by omega)), cell_blk (hs bb (fun e => hbne e.symm))]
          exact HBc.out W hW
        clear hwb x0 x1
        have hk0 : (0 : Int) ≤ (k : Int) := by omega
        have hkN : (k : Int) < (N : Int) := by omega
        have hKe := HRow
        generalize hL1 : c.ln k = L1 at *
        generalize hV1 : c.vl k = V1 at *
        have HLV : Hid (c.ln k = L1 ∧ c.vl k = V1) := ⟨hL1, hV1⟩
        clear hL1 hV1 hKe
        go_region_held3 (fun W => (W.cell? ⟨wr.heap.size, 0, none⟩ = some (.slice P0 L1 pc) ∧ W.cell? ⟨wr.heap.size, 1, none⟩ = some (.slice Q0 V1 qc0)) ∧ W.cell? ⟨bb, 2, none⟩ = some (.slice (some ⟨b, 0, none⟩) N N))
          (first | exact HBc.out _ B2 | exact HBc.out _ B1 | exact HBc.out _ B0d | exact HBc.out _ (Below.refl _ _) | exact HKS.out _ _ _ B2)
          (first
            | (go_at_call 84; refine (HI1.out _ (st Bb B0d)).mono ?_; rintro e1 w2 ⟨P2, c2, rfl, i2, u2, hb2⟩; have B1 : Below wb.heap.size wb w2 := st B0d hb2)
            | (go_at_call 85; refine (HV1.out _ (st Bb B1)).mono ?_; rintro e2 w3 ⟨P3, c3, rfl, i3, u3, hb3⟩; have B2 : Below wb.heap.size wb w3 := st B1 hb3; obtain ⟨f1, f2⟩ := HRow.out w3 (st Bb B2); have y0 := f1.cell (i := k * 2) (by omega); have y1 := f1.cell (i := k * 2 + 1) (by omega); have z0 := f1.frozen (k * 2); have z1 := f1.frozen (k * 2 + 1)))
        all_goals
          have hn3 := f2.next (P := P2) (Q := P3) (pc := c2) (qc := c3) (by rw [HLV.out.1]; exact i2.below hb3) (by rw [HLV.out.2]; exact i3) (u2.mono (by have := (st Bb B0d).size; omega)) (u3.mono (by have := (st Bb B1).size; omega))
          rw [HLV.out.1, HLV.out.2] at hn3
          have gr : w3.grownBy ((w3.setCell ⟨b, k * 2, none⟩ (.slice P2 L1 c2)).setCell ⟨b, k * 2 + 1, none⟩ (.slice P3 V1 c3)) (some b) := gr2 (grown_set _ _ _ _) (grown_set _ _ _ _)
          have B3 := st Bb B2
          have hX3 : w3.heap[bb]? = _ := (B3.block bb (Array.getElem?_eq_some_iff.1 HX.out).1).trans HX.out
          have hR3 : w3.heap[w.heap.size]? = _ := (B3.block _ (Array.getElem?_eq_some_iff.1 HRe.out).1).trans HRe.out
          have HX4 := Lib.hid ((gr.block bb (Array.getElem?_eq_some_iff.1 hX3).1 (fun e => by injection e with e; exact hbne e.symm)).trans hX3)
          have HR4 := Lib.hid ((gr.block _ (Array.getElem?_eq_some_iff.1 hR3).1 (fun e => by injection e with e; omega)).trans hR3)
          have HD4 := Lib.hid ((HDr.out.below B3).row.grown gr HPb.out.1).dims
          have HA4 := Lib.hid ((HAr.out.below B3).row.grown gr HPb.out.2).attrs
          have HB4 := Lib.hid (((st HBr.out B3).setCell (p := ⟨b, k * 2, none⟩) (by show w.heap.size ≤ b; omega) (.slice P2 L1 c2)).setCell (p := ⟨b, k * 2 + 1, none⟩) (by show w.heap.size ≤ b; omega) (.slice P3 V1 c3))
          have HN4 := Lib.hid hn3
          clear hn3 gr hX3 hR3
          go_wp2
          go_roundw
          case rel => exact ⟨k + 1, by omega, by go_num, HN4.out, HX4.out, HR4.out, HD4.out, HA4.out, HB4.out⟩
          case measure => simp [intOf]; omega
      · obtain rfl : k = N := by omega
        obtain ⟨⟨y0, y1, y2⟩, -⟩ := three_at HX.out
        obtain ⟨⟨r0, r1, r2⟩, z0, z1, z2⟩ := three_at HRe.out
        go_wp2
        refine bodyPost_ret (v := ArrV P n cc Q m qc (some ⟨b, 0, none⟩) k k) (res_cell Tryz.results41 _ _ (w.heap.size) 29 _ (0, 0) _ rfl (three_set HRe.out _ _ _) Tryz.underlying29 rfl (by rw [info_arr]; rfl)) rfl ?_
        have gr : wr.grownBy (((wr.setCell ⟨w.heap.size, 0, none⟩ (.slice P n cc)).setCell ⟨w.heap.size, 1, none⟩ (.slice Q m qc)).setCell ⟨w.heap.size, 2, none⟩ (.slice (some ⟨b, 0, none⟩) k k)) (some w.heap.size) := gr2 (gr2 (grown_set _ _ _ _) (grown_set _ _ _ _)) (grown_set _ _ _ _)
        refine ⟨⟨P, cc, Q, qc, some ⟨b, 0, none⟩, k⟩, rfl, ⟨(HDr.out.row.grown gr (HUp.out.1.ne (by omega))).dims, (HAr.out.row.grown gr (HUp.out.2.ne (by omega))).attrs, ((HR.out.done (B := w.heap.size + 1) (by omega) HO.out).grown gr (by omega)).mono (by omega), HUp.out.1.mono (by omega), HUp.out.2.mono (by omega)⟩, ?_⟩
        exact ((HBr.out.setCell (p := ⟨w.heap.size, 0, none⟩) (Nat.le_refl _) _).setCell (p := ⟨w.heap.size, 1, none⟩) (Nat.le_refl _) _).setCell (p := ⟨w.heap.size, 2, none⟩) (Nat.le_refl _) _
end Go.Proofs.YtogmbehomilalaaGreatDoor

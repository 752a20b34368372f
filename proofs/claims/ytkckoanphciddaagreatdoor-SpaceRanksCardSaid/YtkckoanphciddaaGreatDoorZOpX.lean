/- The reference's copy of an array. -/
import Derived.Test.YtkckoanphciddaaGreatDoorZRgK
import Derived.Test.YtkckoanphciddaaGreatDoorZBxA
import Derived.Test.YtkckoanphciddaaGreatDoorZAppC
import Derived.Test.YtkckoanphciddaaGreatDoorZRfD

/- The reference's copy of an array. -/
section
namespace Go.Proofs.YtkckoanphciddaaGreatDoor
open Go Go.RowKit Go.Deep Go.Shelf

section
variable {ops : Array Oper} {Q : Exit → Act → World → Prop} {K : Act → World → Prop} {a : Act} {w : World}
set_option maxRecDepth 100000 in
theorem op_fA {o : Oper} {d t b f : Nat} (hf : f < 3) (ho : o.op = .fieldAddr 29 (.tmp t) f) (hd : o.dst = some d) (hs : slot a t = .pointer (some ⟨b, 0, none⟩)) (h : K (putSlot a d (.pointer (some ⟨b, f, none⟩))) w) : o.wp Tryz.prog a w K Q := by
  obtain ⟨op, dst, ty, pos, after, guard⟩ := o
  dsimp only at ho hd
  subst ho hd
  have hs' : a.tmps[t]?.getD undef = .pointer (some ⟨b, 0, none⟩) := hs
  unfold Oper.wp
  rcases (by omega : f = 0 ∨ f = 1 ∨ f = 2) with rfl | rfl | rfl <;> (go_simp; exact h)
theorem op_ix {o : Oper} {d t i b off n c k : Nat} (ho : o.op = .indexAddr 24 (.tmp t) (.tmp i)) (hd : o.dst = some d) (hs : slot a t = .slice (some ⟨b, off, none⟩) n c) (hi : slot a i = .int .i64 (k : Int)) (hk : k < n) (h : K (putSlot a d (.pointer (some ⟨b, off + k * 2, none⟩))) w) : o.wp Tryz.prog a w K Q := by
  obtain ⟨op, dst, ty, pos, after, guard⟩ := o
  dsimp only at ho hd
  subst ho hd
  have hs' : a.tmps[t]?.getD undef = .slice (some ⟨b, off, none⟩) n c := hs
  have hi' : a.tmps[i]?.getD undef = .int .i64 (k : Int) := hi
  have h0 : (0 : Int) ≤ (k : Int) := by omega
  have h1 : (k : Int) < (n : Int) := by omega
  unfold Oper.wp
  go_simp
  exact h
theorem op_ldc {o : Oper} {d t b off : Nat} {x y : Value} (ho : o.op = .load 38 (.tmp t)) (hd : o.dst = some d) (hs : slot a t = .pointer (some ⟨b, off, none⟩)) (h0 : w.cell? ⟨b, off, none⟩ = some x) (h1 : w.cell? ⟨b, off + 1, none⟩ = some y) (h : K (putSlot a d (.agg #[x, y])) w) : o.wp Tryz.prog a w K Q := by
  obtain ⟨op, dst, ty, pos, after, guard⟩ := o
  dsimp only at ho hd
  subst ho hd
  have hs' : a.tmps[t]?.getD undef = .pointer (some ⟨b, off, none⟩) := hs
  unfold Oper.wp
  go_simp
  exact h
theorem op_bs1 {o : Oper} {d t : Nat} {p q : Option Addr} {n c n' c' : Nat} (ho : o.op = .buildSlice 24 1 #[(0, .tmp t)]) (hd : o.dst = some d) (hs : slot a t = .agg #[.slice p n c, .slice q n' c']) (h : K (putSlot a d (.slice (some ⟨w.heap.size, 0, none⟩) 1 1)) (w.alloc (.cells #[.slice p n c, .slice q n' c'] 38))) : o.wp Tryz.prog a w K Q := by
  obtain ⟨op, dst, ty, pos, after, guard⟩ := o
  dsimp only at ho hd
  subst ho hd
  have hs' : a.tmps[t]?.getD undef = .agg #[.slice p n c, .slice q n' c'] := hs
  unfold Oper.wp
  go_simp
  exact h
end
/-- A copy of cell k. -/
def CpV (c : CeD) (k B : Nat) : Value → World → Prop := fun v W => ∃ P' c' Q' d', v = .agg #[.slice P' (c.ln k) c', .slice Q' (c.vl k) d'] ∧ (IntsAt W P' (c.ln k) (c.x k) ∧ Up B P') ∧ ValsAt W Q' (c.vl k) (c.vk k) (c.vn k) (c.vd k) (c.vs k) ∧ Up B Q'
theorem cpV_mono (c : CeD) (k B : Nat) : Mono (CpV c k B) := by
  rintro v x y ⟨P', c', Q', d', h1, h2, h3, h4⟩ hb; exact ⟨P', c', Q', d', h1, ⟨h2.1.below hb, h2.2⟩, h3.below hb, h4⟩
def CpS (c : CeD) (k B : Nat) : Value → World → Prop := fun v W => ∃ b P' c' Q' d', v = .slice (some ⟨b, 0, none⟩) 1 1 ∧ B ≤ b ∧ W.heap[b]? = some (.cells #[.slice P' (c.ln k) c', .slice Q' (c.vl k) d'] 38 (0, 0)) ∧ (IntsAt W P' (c.ln k) (c.x k) ∧ Up B P') ∧ ValsAt W Q' (c.vl k) (c.vk k) (c.vn k) (c.vd k) (c.vs k) ∧ Up B Q'
theorem cpS_mono (c : CeD) (k B : Nat) : Mono (CpS c k B) := by
  rintro v x y ⟨b, P', c', Q', d', h1, h5, h6, h2, h3, h4⟩ hb; exact ⟨b, P', c', Q', d', h1, h5, (hb.block b (Array.getElem?_eq_some_iff.1 h6).1).trans h6, ⟨h2.1.below hb, h2.2⟩, h3.below hb, h4⟩
theorem Up.own {B b : Nat} {A : Option Addr} {v : Value} (h : Up b A) (hv : ∀ g, v.ownBlock = some g → g < b) (_hB : B ≤ b) : ∀ a, A = some a → v.ownBlock ≠ some a.block := fun a ha e => by
  have h1 := (h a ha).1
  have h2 := hv _ e
  omega

set_option maxRecDepth 100000 in
set_option maxHeartbeats 4000000 in
theorem r_Copy (w : World) (p : ArP) (D : ArD) (h : ArAt w p D) (ho : ArOk D) :
    Calls Tryz.prog 13 #[p.val D.n D.m D.N] w fun e w' => ∃ q : ArP, e = .returned (q.val D.n D.m D.N) ∧ ArUp w' w.heap.size q D ∧ Below w.heap.size w w' := by
  have HE : Hid (∀ W, Below w.heap.size w W → Calls Tryz.prog 53 #[.slice p.A D.n p.cap, .slice p.B D.m p.bcap] W fun e w' => ∃ P c' Q d', e = .returned (ArrV P D.n c' Q D.m d' none 0 0) ∧ DimsAt w' P D.n D.nm D.lo D.hi ∧ AttrsAt w' Q D.m D.an D.ty ∧ Up W.heap.size P ∧ Up W.heap.size Q ∧ Below W.heap.size W w') := fun W hW => r_Empty W p.A p.B D.n p.cap D.m p.bcap _ _ _ _ _ (h.dims.below hW) (h.attrs.below hW) (by have := ho.n1; omega) (by have := ho.m1; omega)
  have KB := Lib.hid (arr_box w (.slice p.A D.n p.cap) (.slice p.B D.m p.bcap) (.slice p.C D.N p.ccap) 29)
  have HB : Hid (Below w.heap.size w (w.alloc (p.obj D.n D.m D.N))) := (Below.refl _ _).alloc (Nat.le_refl _) _
  have HC := Lib.hid h.cells
  have HO := Lib.hid ho.cS
  have hN := ho.N1
  clear h ho
  go_enter Tryz.func13, Tryz.ntmps13
  have B02 : Hid (Below w.heap.size w ((w.alloc (p.obj D.n D.m D.N)).alloc (.cells #[.slice none 0 0, .slice none 0 0, .slice none 0 0] 29))) := HB.out.alloc (by simp) _
  have hz0 : ((w.alloc (p.obj D.n D.m D.N)).alloc (.cells #[.slice none 0 0, .slice none 0 0, .slice none 0 0] 29)).heap.size = w.heap.size + 2 := by simp
  have hres0 : ((w.alloc (p.obj D.n D.m D.N)).alloc (.cells #[.slice none 0 0, .slice none 0 0, .slice none 0 0] 29)).heap[w.heap.size + 1]? = some (.cells #[.slice none 0 0, .slice none 0 0, .slice none 0 0] 29 (0, 0)) := by
    have := heap_alloc_new (w.alloc (p.obj D.n D.m D.N)) (.cells #[.slice none 0 0, .slice none 0 0, .slice none 0 0] 29)
    rw [World.size_alloc] at this
    exact this
  have KB2 : Hid (∀ W, Below ((w.alloc (p.obj D.n D.m D.N)).alloc (.cells #[.slice none 0 0, .slice none 0 0, .slice none 0 0] 29)).heap.size ((w.alloc (p.obj D.n D.m D.N)).alloc (.cells #[.slice none 0 0, .slice none 0 0, .slice none 0 0] 29)) W → W.cell? ⟨w.heap.size, 0, none⟩ = some (.slice p.A D.n p.cap) ∧ W.cell? ⟨w.heap.size, 1, none⟩ = some (.slice p.B D.m p.bcap) ∧ W.cell? ⟨w.heap.size, 2, none⟩ = some (.slice p.C D.N p.ccap)) := fun W hW => KB.out W (st (bel_nw _ _) hW)
  obtain ⟨l0, l1, l2⟩ := KB2.out _ (Below.refl _ _)
  go_wp2_with fail
  generalize hW0 : (w.alloc (p.obj D.n D.m D.N)).alloc (.cells #[.slice none 0 0, .slice none 0 0, .slice none 0 0] 29) = W0 at *
  clear l0 l1 l2 HB KB hW0
  refine (HE.out _ B02.out).mono ?_
  rintro e w1 ⟨P, c', Q, d', rfl, hd1, ha1, u1, u2, hb1⟩
  have HB1 : Hid (Below w.heap.size w w1) := st B02.out hb1
  have hz1 : w.heap.size + 2 ≤ w1.heap.size := by rw [← hz0]; exact hb1.size
  have HR1 : Hid (w1.heap[w.heap.size + 1]? = some (.cells #[.slice none 0 0, .slice none 0 0, .slice none 0 0] 29 (0, 0))) := (hb1.block _ (by rw [hz0]; omega)).trans hres0
  obtain ⟨k0, k1, k2⟩ := KB2.out w1 hb1
  have hPb : 0 < D.n → ∀ a, P = some a → a.block < w1.heap.size := fun hn a ha => hd1.row.lt hn ha
  have hQb : 0 < D.m → ∀ a, Q = some a → a.block < w1.heap.size := fun hn a ha => ha1.row.lt hn ha
  have HPb := Lib.hid (And.intro hPb hQb)
  have HNr : Hid ((∀ a, P = some a → a.block ≠ w.heap.size + 1) ∧ ∀ a, Q = some a → a.block ≠ w.heap.size + 1) := ⟨fun a ha => by have := (u1 a ha).1; omega, fun a ha => by have := (u2 a ha).1; omega⟩
  have HU := Lib.hid (And.intro (u1.mono (show w.heap.size ≤ W0.heap.size by omega)) (u2.mono (show w.heap.size ≤ W0.heap.size by omega)))
  have B3 := bel_nw w1 (.cells #[.slice P D.n c', .slice Q D.m d', .slice none 0 0] 29)
  have HD3 := Lib.hid (hd1.below B3)
  have HA3 := Lib.hid (ha1.below B3)
  have HB3 : Hid (Below W0.heap.size W0 (w1.alloc (.cells #[.slice P D.n c', .slice Q D.m d', .slice none 0 0] 29))) := st hb1 B3
  have HR3 := Lib.hid ((B3.block _ (by omega)).trans HR1.out)
  have HX3 := Lib.hid (heap_alloc_new w1 (.cells #[.slice P D.n c', .slice Q D.m d', .slice none 0 0] 29))
  have HO3 := Lib.hid (OwnC.nil (Up (w1.heap.size + 1)) (w1.alloc (.cells #[.slice P D.n c', .slice Q D.m d', .slice none 0 0] 29)) (w1.heap.size + 1) D.c)
  have HCp := Lib.hid (fun (W : World) (A : Option Addr) (k pc : Nat) (B : Option Addr) (qc : Nat) (hk : k < D.N) (hi : IntsAt W A (D.c.ln k) (D.c.x k)) (hv : ValsAt W B (D.c.vl k) (D.c.vk k) (D.c.vn k) (D.c.vd k) (D.c.vs k)) => r_CopyCell W A B (D.c.ln k) pc (D.c.vl k) qc _ _ _ _ _ hi hv (by have := (HO.out k hk).1; omega) (by have := (HO.out k hk).2.1; omega))
  clear hd1 ha1 u1 u2 hPb hQb HR1 HE B3
  go_wp2_with fail
  clear k0 k1 k2
  have hzz : W0.heap.size ≤ w1.heap.size := hb1.size
  clear hb1
  go_loopw [4] (fun i wr => ∃ (k : Nat) (x : Value), k ≤ D.N ∧ i = .int .i64 k ∧ Hid (wr.heap[w1.heap.size]? = some (.cells #[.slice P D.n c', .slice Q D.m d', x] 29 (0, 0))) ∧ Hid (OwnC (Up (w1.heap.size + 1)) wr (w1.heap.size + 1) x k D.c) ∧ Hid (wr.heap[w.heap.size + 1]? = some (.cells #[.slice none 0 0, .slice none 0 0, .slice none 0 0] 29 (0, 0))) ∧ Hid (DimsAt wr P D.n D.nm D.lo D.hi) ∧ Hid (AttrsAt wr Q D.m D.an D.ty) ∧ Hid (Below W0.heap.size W0 wr)) (fun i _ => D.N - (intOf i).toNat)
  case atStart => exact ⟨0, _, Nat.zero_le _, rfl, HX3.out, HO3.out, HR3.out, HD3.out, HA3.out, HB3.out⟩
  case round =>
    obtain ⟨k, x, hk, rfl, HX, HOw, HRe, HDr, HAr, HBr⟩ := hrel
    obtain ⟨m0, m1, m2⟩ := KB2.out wr HBr.out
    clear HX3 HO3 HR3 HD3 HA3 HB3
    by_cases hlt : k < D.N
    · obtain ⟨bc, oc, hCe, hbc, hcc⟩ := (HC.out.below (st B02.out HBr.out)) (by omega)
      obtain ⟨P0, pc, Q0, qc0, x0, x1, x2, x3, x4⟩ := hcc k hlt
      clear hcc
      have hsz1 : wr.heap.size > w1.heap.size := (Array.getElem?_eq_some_iff.1 HX.out).1
      have HCk : Hid (∀ W, Below wr.heap.size wr W → Calls Tryz.prog 54 #[.agg #[.slice P0 (D.c.ln k) pc, .slice Q0 (D.c.vl k) qc0]] W fun e w' => ∃ P' c' Q' d', e = .returned (.agg #[.slice P' (D.c.ln k) c', .slice Q' (D.c.vl k) d']) ∧ IntsAt w' P' (D.c.ln k) (D.c.x k) ∧ ValsAt w' Q' (D.c.vl k) (D.c.vk k) (D.c.vn k) (D.c.vd k) (D.c.vs k) ∧ Up W.heap.size P' ∧ Up W.heap.size Q' ∧ Below W.heap.size W w') := fun W hW => HCp.out W P0 k pc Q0 qc0 hlt (x2.below hW) (x3.below hW)
      have HKr : Hid (∀ W, Below wr.heap.size wr W → W.cell? ⟨w.heap.size, 2, none⟩ = some (.slice (some ⟨bc, oc, none⟩) D.N p.ccap) ∧ W.cell? ⟨bc, oc + k * 2, none⟩ = some (.slice P0 (D.c.ln k) pc) ∧ W.cell? ⟨bc, oc + k * 2 + 1, none⟩ = some (.slice Q0 (D.c.vl k) qc0) ∧ W.heap[w1.heap.size]? = some (.cells #[.slice P D.n c', .slice Q D.m d', x] 29 (0, 0))) := fun W hW => ⟨by rw [← hCe]; exact (KB2.out W (st HBr.out hW)).2.2, (hW.cell (p := ⟨bc, oc + k * 2, none⟩) hbc).trans x0, (hW.cell (p := ⟨bc, oc + k * 2 + 1, none⟩) hbc).trans x1, (hW.block _ hsz1).trans HX.out⟩
      rw [hCe] at m2
      clear x0 x1 x2 x3
      go_wp2_with fail
      clear m0 m1 m2
      rename_i K hK
      refine wp_region_TK (n1 := 9) (T := TL [isW (.pointer (some ⟨w1.heap.size, 2, none⟩)), isW x, isW (.pointer (some ⟨w.heap.size, 2, none⟩)), isW (.slice (some ⟨bc, oc, none⟩) D.N p.ccap), isW (.int .i64 k), isW (.pointer (some ⟨bc, oc + k * 2, none⟩)), isW (.agg #[.slice P0 (D.c.ln k) pc, .slice Q0 (D.c.vl k) qc0]), CpV D.c k wr.heap.size, CpS D.c k wr.heap.size]) (by kernel_rfl) (by decide) (by kernel_rfl) (by kernel_rfl) ?step ?tail
      case step =>
        intro listed a W i H hi9 hilt
        have dl := H.dl (l := [some 17, some 18, some 19, some 20, some 21, some 22, some 23, some 24, some 25, some 26, some 27, none]) rfl
        have ap := apart_of dl (by decide)
        obtain ⟨q2, q3, q4, q5⟩ := HKr.out W H.below
        have hBW := H.below.size
        have mono : ∀ p' ∈ [isW (.pointer (some ⟨w1.heap.size, 2, none⟩)), isW x, isW (.pointer (some ⟨w.heap.size, 2, none⟩)), isW (.slice (some ⟨bc, oc, none⟩) D.N p.ccap), isW (.int .i64 k), isW (.pointer (some ⟨bc, oc + k * 2, none⟩)), isW (.agg #[.slice P0 (D.c.ln k) pc, .slice Q0 (D.c.vl k) qc0]), CpV D.c k wr.heap.size, CpS D.c k wr.heap.size], Mono p' := by
          intro p' hp
          simp only [List.mem_cons, List.not_mem_nil, or_false] at hp
          rcases hp with rfl | rfl | rfl | rfl | rfl | rfl | rfl | rfl | rfl
          · exact isW_mono _
          · exact isW_mono _
          · exact isW_mono _
          · exact isW_mono _
          · exact isW_mono _
          · exact isW_mono _
          · exact isW_mono _
          · exact cpV_mono _ _ _
          · exact cpS_mono _ _ _
        rcases (by omega : i = 0 ∨ i = 1 ∨ i = 2 ∨ i = 3 ∨ i = 4 ∨ i = 5 ∨ i = 6 ∨ i = 7 ∨ i = 8) with rfl | rfl | rfl | rfl | rfl | rfl | rfl | rfl | rfl
        · exact wpOp_of rfl (.inl rfl) (op_fA (by decide) rfl rfl (H.old 3 (old_of' dl 3 (by decide))) (H.over mono ap rfl rfl (by simp) (Below.refl _ _) rfl))
        · exact wpOp_of rfl (.inl rfl) (op_lsl (.inr (.inr (.inr (.inr rfl)))) rfl rfl (H.got' hi9 (j := 0) (t := 17) rfl (by kernel_rfl) rfl rfl) (three_at q5).1.2.2 (H.over mono ap rfl rfl (by simp) (Below.refl _ _) rfl))
        · exact wpOp_of rfl (.inl rfl) (op_fA (by decide) rfl rfl (H.old 1 (old_of' dl 1 (by decide))) (H.over mono ap rfl rfl (by simp) (Below.refl _ _) rfl))
        · exact wpOp_of rfl (.inl rfl) (op_lsl (.inr (.inr (.inr (.inr rfl)))) rfl rfl (H.got' hi9 (j := 2) (t := 19) rfl (by kernel_rfl) rfl rfl) q2 (H.over mono ap rfl rfl (by simp) (Below.refl _ _) rfl))
        · exact wpOp_of rfl (.inl rfl) (op_mv rfl rfl (H.over mono ap rfl rfl (by simp) (Below.refl _ _) (H.old 4 (old_of' dl 4 (by decide)))))
        · exact wpOp_of rfl (.inl rfl) (op_ix rfl rfl (H.got' hi9 (j := 3) (t := 20) rfl (by kernel_rfl) rfl rfl) (H.got' hi9 (j := 4) (t := 21) rfl (by kernel_rfl) rfl rfl) hlt (H.over mono ap rfl rfl (by simp) (Below.refl _ _) rfl))
        · exact wpOp_of rfl (.inl rfl) (op_ldc rfl rfl (H.got' hi9 (j := 5) (t := 22) rfl (by kernel_rfl) rfl rfl) q3 q4 (H.over mono ap rfl rfl (by simp) (Below.refl _ _) rfl))
        · refine wpOp_of rfl (.inl rfl) (op_T1 rfl rfl (H.got' hi9 (j := 6) (t := 23) rfl (by kernel_rfl) rfl rfl) (enters_of Tryz.func54 (by kernel_rfl) rfl) ((HCk.out W H.below).mono ?_))
          rintro e w1 ⟨P', c', Q', d', rfl, h1, h2, h3, h4, h5⟩
          exact ⟨_, rfl, H.over mono ap rfl rfl (by simp) h5 ⟨P', c', Q', d', rfl, ⟨h1, h3.mono hBW⟩, h2, h4.mono hBW⟩⟩
        · obtain ⟨P', c', Q', d', e1, d1, d2, d3⟩ := H.got' hi9 (j := 7) (t := 24) rfl (by kernel_rfl) rfl rfl
          exact wpOp_of rfl (.inl rfl) (op_bs1 rfl rfl e1 (H.over mono ap rfl rfl (by simp) (bel_nw W _) ⟨_, P', c', Q', d', rfl, hBW, heap_alloc_new W _, ⟨d1.1.below (bel_nw W _), d1.2⟩, d2.below (bel_nw W _), d3⟩))
      case tail =>
        intro listed a W H hall
        have e1 := H.got 1 _ 18 rfl rfl (hall 1 (by decide))
        obtain ⟨b, P', cc, Q', dd, e2, f1, f2, ⟨f3, f4⟩, f5, f6⟩ := H.got 8 _ 25 rfl rfl (hall 8 (by decide))
        have dl := H.dl (l := [some 17, some 18, some 19, some 20, some 21, some 22, some 23, some 24, some 25, some 26, some 27, none]) rfl
        have s0 := H.old 0 (old_of' dl 0 (by decide))
        have s1 := H.old 1 (old_of' dl 1 (by decide))
        have s2 := H.old 2 (old_of' dl 2 (by decide))
        have s3 := H.old 3 (old_of' dl 3 (by decide))
        have s4 := H.old 4 (old_of' dl 4 (by decide))
        have s5 := H.old 5 (old_of' dl 5 (by decide))
        have s6 := H.old 6 (old_of' dl 6 (by decide))
        have s7 := H.old 7 (old_of' dl 7 (by decide))
        have s8 := H.old 8 (old_of' dl 8 (by decide))
        have s9 := H.old 9 (old_of' dl 9 (by decide))
        have s28 := H.old 28 (old_of' dl 28 (by decide))
        obtain ⟨f, hf, rfl⟩ := actlitf 29 a (H.frame.trans (by simp)) (H.defers.trans rfl)
        rw [show List.range 29 = [0, 1, 2, 3, 4, 5, 6, 7, 8, 9, 10, 11, 12, 13, 14, 15, 16, 17, 18, 19, 20, 21, 22, 23, 24, 25, 26, 27, 28] from rfl]
        simp only [List.map_cons, List.map_nil]
        have q0 : f 0 = p.val D.n D.m D.N := (hf 0).symm.trans s0
        have q1 : f 1 = .pointer (some ⟨w.heap.size, 0, none⟩) := (hf 1).symm.trans s1
        have q2 : f 2 = .pointer (some ⟨w.heap.size + 1, 0, none⟩) := (hf 2).symm.trans s2
        have q3 : f 3 = .pointer (some ⟨w1.heap.size, 0, none⟩) := (hf 3).symm.trans s3
        have q4 : f 4 = .int .i64 k := (hf 4).symm.trans s4
        have q5 : f 5 = .pointer (some ⟨w.heap.size, 0, none⟩) := (hf 5).symm.trans s5
        have q6 : f 6 = .slice p.A D.n p.cap := (hf 6).symm.trans s6
        have q7 : f 7 = .pointer (some ⟨w.heap.size, 1, none⟩) := (hf 7).symm.trans s7
        have q8 : f 8 = .slice p.B D.m p.bcap := (hf 8).symm.trans s8
        have q9 : f 9 = ArrV P D.n c' Q D.m d' none 0 0 := (hf 9).symm.trans s9
        have q28 : f 28 = undef := (hf 28).symm.trans s28
        have q18 : f 18 = x := (hf 18).symm.trans e1
        have q25 : f 25 = .slice (some ⟨b, 0, none⟩) 1 1 := (hf 25).symm.trans e2
        rw [q0, q1, q2, q3, q4, q5, q6, q7, q8, q9, q18, q25, q28]
        have hb0 := H.below
        have hoW := HOw.out.below hb0
        have hxb : ∀ g, x.ownBlock = some g → g < wr.heap.size := fun g hg => (HOw.out.block hg).2
        clear e1 e2 s0 s1 s2 s3 s4 s5 s6 s7 s8 s9 s28 q5 q6 q7 q8 q9 q28 q0 q1 q2 q3 q4 q18 q25 hf dl hall H
        refine wpList_appC rfl (.tmp 18) (.tmp 25) rfl W (Up (w1.heap.size + 1)) (w1.heap.size + 1) x k D.c rfl b rfl P' Q' cc dd f2 f3 f5 ⟨f4.mono (by omega), f6.mono (by omega)⟩ ⟨fun _ => f4.own hxb (Nat.le_refl _), fun _ => f6.own hxb (Nat.le_refl _)⟩ hoW (by omega) (by have := hb0.size; omega) ?_
        intro v' w2 hown hgr hat
        obtain ⟨A', cp', hv', -⟩ := hown.row
        subst hv'
        have hob : w1.heap.size < W.heap.size := by have := hb0.size; omega
        have hnb : some w1.heap.size ≠ x.ownBlock := fun e => by have := (HOw.out.block e.symm).1; omega
        have hnr : some (w.heap.size + 1) ≠ x.ownBlock := fun e => by have := (HOw.out.block e.symm).1; omega
        have hx2 : w2.heap[w1.heap.size]? = some (.cells #[.slice P D.n c', .slice Q D.m d', x] 29 (0, 0)) := (hgr.block _ hob hnb).trans ((hb0.block _ hsz1).trans HX.out)
        have gr : w2.grownBy (w2.setCell ⟨w1.heap.size, 2, none⟩ (.slice A' (k + 1) cp')) (some w1.heap.size) := grown_set _ _ _ _
        have HX2 : Hid ((w2.setCell ⟨w1.heap.size, 2, none⟩ (.slice A' (k + 1) cp')).heap[w1.heap.size]? = some (.cells #[.slice P D.n c', .slice Q D.m d', .slice A' (k + 1) cp'] 29 (0, 0))) := by
          show _ = _
          simp [World.setCell, Array.getElem?_modify, hx2]
        have HO2 := Lib.hid (hown.set gr (Nat.lt_succ_self _) (fun A hA a ha => by have := (hA a ha).1; omega))
        have HR2 : Hid ((w2.setCell ⟨w1.heap.size, 2, none⟩ (.slice A' (k + 1) cp')).heap[w.heap.size + 1]? = some (.cells #[.slice none 0 0, .slice none 0 0, .slice none 0 0] 29 (0, 0))) := (gr.block _ (by have := hgr.size; omega) (fun e => by injection e with e; omega)).trans ((hgr.block _ (by omega) hnr).trans ((hb0.block _ (by omega)).trans HRe.out))
        have how : ∀ (A : Option Addr) (z : Nat) (m : Nat) (g : Nat → Nat → Value), RowAt wr A m z g → (0 < m → ∀ a, A = some a → a.block < w1.heap.size) → RowAt (w2.setCell ⟨w1.heap.size, 2, none⟩ (.slice A' (k + 1) cp')) A m z g := fun A z m g hr h1 =>
          (((hr.below hb0).grownO hgr (fun hm a ha e => by have := (HOw.out.block e).1; have := h1 hm a ha; omega)).grown gr (fun hm a ha => Nat.ne_of_lt (h1 hm a ha)))
        have HD2 := Lib.hid (how _ _ _ _ HDr.out.row HPb.out.1).dims
        have HA2 := Lib.hid (how _ _ _ _ HAr.out.row HPb.out.2).attrs
        have HB2 : Hid (Below W0.heap.size W0 (w2.setCell ⟨w1.heap.size, 2, none⟩ (.slice A' (k + 1) cp'))) := ((st HBr.out hb0).grown hgr (by have := HBr.out.size; have := hb0.size; omega) (fun g hg => by have := (HOw.out.block hg).1; omega)).setCell (p := ⟨w1.heap.size, 2, none⟩) (by show W0.heap.size ≤ w1.heap.size; omega) _
        have y2 := (three_at hx2).1.2.2
        have y3 := (three_at hx2).2.2.2
        clear how gr hx2 hnb hnr hat hgr hown f1 f2 f3 f4 f5 f6 hoW hxb hb0
        go_wp2
        go_roundw
        case rel => exact ⟨k + 1, _, by omega, by go_num, HX2.out, HO2.out, HR2.out, HD2.out, HA2.out, HB2.out⟩
        case measure => simp [intOf]; omega
    · obtain rfl : k = D.N := by omega
      obtain ⟨A', cp', hv', hce⟩ := HOw.out.up (Nat.le_refl _) HO.out
      subst hv'
      have HCE := Lib.hid hce
      obtain ⟨⟨y0, y1, y2⟩, -⟩ := three_at HX.out
      obtain ⟨⟨r0, r1, r2⟩, z0, z1, z2⟩ := three_at HRe.out
      clear hce
      go_wp2
      refine bodyPost_ret (v := ArrV P D.n c' Q D.m d' A' D.N cp') (res_cell Tryz.results13 _ _ (w.heap.size + 1) 29 _ (0, 0) _ rfl (three_set HRe.out _ _ _) Tryz.underlying29 rfl (by rw [info_arr]; rfl)) rfl ?_
      have gr : wr.grownBy (((wr.setCell ⟨w.heap.size + 1, 0, none⟩ (.slice P D.n c')).setCell ⟨w.heap.size + 1, 1, none⟩ (.slice Q D.m d')).setCell ⟨w.heap.size + 1, 2, none⟩ (.slice A' D.N cp')) (some (w.heap.size + 1)) := gr2 (gr2 (grown_set _ _ _ _) (grown_set _ _ _ _)) (grown_set _ _ _ _)
      refine ⟨⟨P, c', Q, d', A', cp'⟩, rfl, ⟨(HDr.out.row.grown gr (fun hn => ?_)).dims, (HAr.out.row.grown gr (fun hn => ?_)).attrs, (HCE.out.grown gr (by omega)).mono (by omega), HU.out.1, HU.out.2⟩, ?_⟩
      · exact HNr.out.1
      · exact HNr.out.2
      · exact (((st B02.out HBr.out).setCell (p := ⟨w.heap.size + 1, 0, none⟩) (by show w.heap.size ≤ w.heap.size + 1; omega) _).setCell (p := ⟨w.heap.size + 1, 1, none⟩) (by show w.heap.size ≤ w.heap.size + 1; omega) _).setCell (p := ⟨w.heap.size + 1, 2, none⟩) (by show w.heap.size ≤ w.heap.size + 1; omega) _
end Go.Proofs.YtkckoanphciddaaGreatDoor
end

/- Operations on boxes, dimensions and integers in regions whose order is open. -/
section
namespace Go.Proofs.YtkckoanphciddaaGreatDoor
open Go Go.RowKit Go.Deep
section
variable {ops : Array Oper} {Q : Exit → Act → World → Prop} {K : Act → World → Prop} {a : Act} {w : World}
set_option maxRecDepth 100000 in
theorem op_fB {o : Oper} {d t b f : Nat} (hf : f < 2) (ho : o.op = .fieldAddr 66 (.tmp t) f) (hd : o.dst = some d) (hs : slot a t = .pointer (some ⟨b, 0, none⟩)) (h : K (putSlot a d (.pointer (some ⟨b, f, none⟩))) w) : o.wp Tryz.prog a w K Q := by
  obtain ⟨op, dst, ty, pos, after, guard⟩ := o
  dsimp only at ho hd
  subst ho hd
  have hs' : a.tmps[t]?.getD undef = .pointer (some ⟨b, 0, none⟩) := hs
  unfold Oper.wp
  rcases (by omega : f = 0 ∨ f = 1) with rfl | rfl <;> (go_simp; exact h)
theorem op_ixD {o : Oper} {d t i b off n c k : Nat} (ho : o.op = .indexAddr 22 (.tmp t) (.tmp i)) (hd : o.dst = some d) (hs : slot a t = .slice (some ⟨b, off, none⟩) n c) (hi : slot a i = .int .i64 (k : Int)) (hk : k < n) (h : K (putSlot a d (.pointer (some ⟨b, off + k * 3, none⟩))) w) : o.wp Tryz.prog a w K Q := by
  obtain ⟨op, dst, ty, pos, after, guard⟩ := o
  dsimp only at ho hd
  subst ho hd
  have hs' : a.tmps[t]?.getD undef = .slice (some ⟨b, off, none⟩) n c := hs
  have hi' : a.tmps[i]?.getD undef = .int .i64 (k : Int) := hi
  have h0 : (0 : Int) ≤ (k : Int) := by omega
  have h1 : (k : Int) < (n : Int) := by omega
  unfold Oper.wp
  go_simp
  exact h
set_option maxRecDepth 100000 in
theorem op_fD {o : Oper} {d t b off f : Nat} (hf : f < 3) (ho : o.op = .fieldAddr 43 (.tmp t) f) (hd : o.dst = some d) (hs : slot a t = .pointer (some ⟨b, off, none⟩)) (h : K (putSlot a d (.pointer (some ⟨b, off + f, none⟩))) w) : o.wp Tryz.prog a w K Q := by
  obtain ⟨op, dst, ty, pos, after, guard⟩ := o
  dsimp only at ho hd
  subst ho hd
  have hs' : a.tmps[t]?.getD undef = .pointer (some ⟨b, off, none⟩) := hs
  unfold Oper.wp
  rcases (by omega : f = 0 ∨ f = 1 ∨ f = 2) with rfl | rfl | rfl <;> (go_simp; exact h)
theorem op_ldI {o : Oper} {d t b off : Nat} {v : Value} (ho : o.op = .load 3 (.tmp t)) (hd : o.dst = some d) (hs : slot a t = .pointer (some ⟨b, off, none⟩)) (hc : w.cell? ⟨b, off, none⟩ = some v) (h : K (putSlot a d v) w) : o.wp Tryz.prog a w K Q := by
  obtain ⟨op, dst, ty, pos, after, guard⟩ := o
  dsimp only at ho hd
  subst ho hd
  have hs' : a.tmps[t]?.getD undef = .pointer (some ⟨b, off, none⟩) := hs
  unfold Oper.wp
  go_simp
  exact h
theorem op_bsI {o : Oper} {d t : Nat} {x : Int} (ho : o.op = .buildSlice 35 1 #[(0, .tmp t)]) (hd : o.dst = some d) (hs : slot a t = .int .i64 x) (h : K (putSlot a d (.slice (some ⟨w.heap.size, 0, none⟩) 1 1)) (w.alloc (.cells #[.int .i64 x] 3))) : o.wp Tryz.prog a w K Q := by
  obtain ⟨op, dst, ty, pos, after, guard⟩ := o
  dsimp only at ho hd
  subst ho hd
  have hs' : a.tmps[t]?.getD undef = .int .i64 x := hs
  unfold Oper.wp
  go_simp
  exact h
end
/-- A literal of one integer, in a block from B on. -/
def OneI (x : Int) (B : Nat) : Value → World → Prop := fun v W => ∃ b, v = .slice (some ⟨b, 0, none⟩) 1 1 ∧ B ≤ b ∧ W.heap[b]? = some (.cells #[.int .i64 x] 3 (0, 0))
theorem oneI_mono (x : Int) (B : Nat) : Mono (OneI x B) := by
  rintro v w w' ⟨b, h1, h2, h3⟩ hb; exact ⟨b, h1, h2, (hb.block b (Array.getElem?_eq_some_iff.1 h3).1).trans h3⟩
/-- One number more, behind a literal of one number at b: the list lies where it lay, or in a new block. -/
theorem wpList_appJ {ops : Array Oper} {rest : List Oper} {o : Oper} {a : Act} {Q : Exit → Act → World → Prop} (hgd : o.guard = none) (s x : Operand)
    (ho : o.op = .call { callee := .builtin .append, args := #[s, x], argTypes := #[35, 35] })
    (W : World) (d : Int) (B : Nat) (v : Value) (n : Nat) (f : Nat → Int) (hs : a.eval s = v) (b : Nat) (hx : a.eval x = .slice (some ⟨b, 0, none⟩) 1 1) (hb : W.heap[b]? = some (.cells #[.int .i64 d] 3 (0, 0)))
    (hown : OwnI W B v n f) (hn : n ≤ 1000000) (hB : B ≤ W.heap.size)
    (h : ∀ v' w', OwnI w' B v' (n + 1) (updZ f n d) → W.grownBy w' v.ownBlock → (v'.ownBlock = v.ownBlock ∨ ∃ g, v'.ownBlock = some g ∧ W.heap.size ≤ g) → wpList Tryz.prog ops Q rest (a.put o.dst v') w') : wpList Tryz.prog ops Q (o :: rest) a W := by
  obtain ⟨xs, h1, h2⟩ := hown
  obtain ⟨i0, hi0, hz0, hz1, hz2⟩ := info_parts info_int
  have hnew : ∀ j u, [Value.int .i64 d][j]? = some u → W.cell? ((⟨b, 0, none⟩ : Addr).add j) = some u := by
    intro j u hu
    have hj : j = 0 := by
      rcases j with _ | j
      · rfl
      · simp at hu
    subst hj
    have hu' : u = .int .i64 d := by simpa using hu.symm
    subst hu'
    simp [World.cell?, hb, Addr.add]
  refine wpList_append_own_at _ hgd s x 35 ho B 3 i0 (.int .i64 0) 1 8 Tryz.underlying35 hi0 hz0 hz1 hz2 rfl Nat.zero_lt_one v n xs hs h1 ⟨b, 0, none⟩ 1 1 [.int .i64 d] hx rfl hnew
    (fun u hu => by have h9 : u = .int .i64 d := by simpa using hu
                    subst h9; rfl) (by unfold maxLen; omega) (by omega) hB ?_
  intro v' w' g1 g2 _ g4
  refine h v' w' ⟨xs ++ [.int .i64 d], g1, fun k hk => ?_⟩ g2 (g4.imp id fun h9 => ⟨_, h9, Nat.le_refl _⟩)
  have hl : xs.length = n := by rw [h1.1, Nat.mul_one]
  unfold updZ
  by_cases e : k = n
  · subst e
    rw [if_pos rfl, List.getElem?_append_right (by omega), hl, Nat.sub_self]
    rfl
  · rw [if_neg e, List.getElem?_append_left (by omega)]
    exact h2 k (by omega)
end Go.Proofs.YtkckoanphciddaaGreatDoor
end

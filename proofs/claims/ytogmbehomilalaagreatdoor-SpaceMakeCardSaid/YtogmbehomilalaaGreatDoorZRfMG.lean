/- The reference's copy of an array. -/
import Derived.Test.YtogmbehomilalaaGreatDoorZActL
import Derived.Test.YtogmbehomilalaaGreatDoorZRfC
import Derived.Test.YtogmbehomilalaaGreatDoorZLSa

/- The reference's copy of an array. -/
section
namespace Go.Proofs.YtogmbehomilalaaGreatDoor
open Go Go.RowKit Go.Deep Go.Shelf

section
variable {ops : Array Oper} {Q : Exit → Act → World → Prop} {K : Act → World → Prop} {a : Act} {w : World}
set_option maxRecDepth 100000 in
theorem op_fA {o : Oper} {d t b f : Nat} (hf : f < 3) (ho : o.op = .fieldAddr 29 (.tmp t) f) (hd : o.dst = some d) (hs : slot a t = .pointer (some ⟨b, 0, none⟩)) (h : K (putSlot a d (.pointer (some ⟨b, f, none⟩))) w) : o.wp Tryz.prog a w K Q := by
  obtain ⟨op, dst, ty, pos, after, guard⟩ := o
  dsimp only at ho hd
  subst ho hd
  have hs' : a.tmps[t]?.getD undef = .pointer (some ⟨b, 0, none⟩) := hs
  unfold Oper.wp
  rcases (by omega : f = 0 ∨ f = 1 ∨ f = 2) with rfl | rfl | rfl <;> (go_simp; exact h)
theorem op_ix {o : Oper} {d t i b off n c k : Nat} (ho : o.op = .indexAddr 24 (.tmp t) (.tmp i)) (hd : o.dst = some d) (hs : slot a t = .slice (some ⟨b, off, none⟩) n c) (hi : slot a i = .int .i64 (k : Int)) (hk : k < n) (h : K (putSlot a d (.pointer (some ⟨b, off + k * 2, none⟩))) w) : o.wp Tryz.prog a w K Q := by
  obtain ⟨op, dst, ty, pos, after, guard⟩ := o
  dsimp only at ho hd
  subst ho hd
  have hs' : a.tmps[t]?.getD undef = .slice (some ⟨b, off, none⟩) n c := hs
  have hi' : a.tmps[i]?.getD undef = .int .i64 (k : Int) := hi
  have h0 : (0 : Int) ≤ (k : Int) := by omega
  have h1 : (k : Int) < (n : Int) := by omega
  unfold Oper.wp
  go_simp
  exact h
theorem op_ldc {o : Oper} {d t b off : Nat} {x y : Value} (ho : o.op = .load 38 (.tmp t)) (hd : o.dst = some d) (hs : slot a t = .pointer (some ⟨b, off, none⟩)) (h0 : w.cell? ⟨b, off, none⟩ = some x) (h1 : w.cell? ⟨b, off + 1, none⟩ = some y) (h : K (putSlot a d (.agg #[x, y])) w) : o.wp Tryz.prog a w K Q := by
  obtain ⟨op, dst, ty, pos, after, guard⟩ := o
  dsimp only at ho hd
  subst ho hd
  have hs' : a.tmps[t]?.getD undef = .pointer (some ⟨b, off, none⟩) := hs
  unfold Oper.wp
  go_simp
  exact h
theorem op_bs1 {o : Oper} {d t : Nat} {p q : Option Addr} {n c n' c' : Nat} (ho : o.op = .buildSlice 24 1 #[(0, .tmp t)]) (hd : o.dst = some d) (hs : slot a t = .agg #[.slice p n c, .slice q n' c']) (h : K (putSlot a d (.slice (some ⟨w.heap.size, 0, none⟩) 1 1)) (w.alloc (.cells #[.slice p n c, .slice q n' c'] 38))) : o.wp Tryz.prog a w K Q := by
  obtain ⟨op, dst, ty, pos, after, guard⟩ := o
  dsimp only at ho hd
  subst ho hd
  have hs' : a.tmps[t]?.getD undef = .agg #[.slice p n c, .slice q n' c'] := hs
  unfold Oper.wp
  go_simp
  exact h
end
/-- A copy of cell k. -/
def CpV (c : CeD) (k B : Nat) : Value → World → Prop := fun v W => ∃ P' c' Q' d', v = .agg #[.slice P' (c.ln k) c', .slice Q' (c.vl k) d'] ∧ (IntsAt W P' (c.ln k) (c.x k) ∧ Up B P') ∧ ValsAt W Q' (c.vl k) (c.vk k) (c.vn k) (c.vd k) (c.vs k) ∧ Up B Q'
theorem cpV_mono (c : CeD) (k B : Nat) : Mono (CpV c k B) := by
  rintro v x y ⟨P', c', Q', d', h1, h2, h3, h4⟩ hb; exact ⟨P', c', Q', d', h1, ⟨h2.1.below hb, h2.2⟩, h3.below hb, h4⟩
def CpS (c : CeD) (k B : Nat) : Value → World → Prop := fun v W => ∃ b P' c' Q' d', v = .slice (some ⟨b, 0, none⟩) 1 1 ∧ B ≤ b ∧ W.heap[b]? = some (.cells #[.slice P' (c.ln k) c', .slice Q' (c.vl k) d'] 38 (0, 0)) ∧ (IntsAt W P' (c.ln k) (c.x k) ∧ Up B P') ∧ ValsAt W Q' (c.vl k) (c.vk k) (c.vn k) (c.vd k) (c.vs k) ∧ Up B Q'
theorem cpS_mono (c : CeD) (k B : Nat) : Mono (CpS c k B) := by
  rintro v x y ⟨b, P', c', Q', d', h1, h5, h6, h2, h3, h4⟩ hb; exact ⟨b, P', c', Q', d', h1, h5, (hb.block b (Array.getElem?_eq_some_iff.1 h6).1).trans h6, ⟨h2.1.below hb, h2.2⟩, h3.below hb, h4⟩
theorem Up.own {B b : Nat} {A : Option Addr} {v : Value} (h : Up b A) (hv : ∀ g, v.ownBlock = some g → g < b) (_hB : B ≤ b) : ∀ a, A = some a → v.ownBlock ≠ some a.block := fun a ha e => by
  have h1 := (h a ha).1
  have h2 := hv _ e
  omega

set_option maxRecDepth 100000 in
set_option maxHeartbeats 4000000 in
theorem r_Copy (w : World) (p : ArP) (D : ArD) (h : ArAt w p D) (ho : ArOk D) :
    Calls Tryz.prog 9 #[p.val D.n D.m D.N] w fun e w' => ∃ q : ArP, e = .returned (q.val D.n D.m D.N) ∧ ArUp w' w.heap.size q D ∧ Below w.heap.size w w' := by
  have HE : Hid (∀ W, Below w.heap.size w W → Calls Tryz.prog 33 #[.slice p.A D.n p.cap, .slice p.B D.m p.bcap] W fun e w' => ∃ P c' Q d', e = .returned (ArrV P D.n c' Q D.m d' none 0 0) ∧ DimsAt w' P D.n D.nm D.lo D.hi ∧ AttrsAt w' Q D.m D.an D.ty ∧ Up W.heap.size P ∧ Up W.heap.size Q ∧ Below W.heap.size W w') := fun W hW => r_Empty W p.A p.B D.n p.cap D.m p.bcap _ _ _ _ _ (h.dims.below hW) (h.attrs.below hW) (by have := ho.n1; omega) (by have := ho.m1; omega)
  have KB := Lib.hid (arr_box w (.slice p.A D.n p.cap) (.slice p.B D.m p.bcap) (.slice p.C D.N p.ccap) 29)
  have HB : Hid (Below w.heap.size w (w.alloc (p.obj D.n D.m D.N))) := (Below.refl _ _).alloc (Nat.le_refl _) _
  have HC := Lib.hid h.cells
  have HO := Lib.hid ho.cS
  have hN := ho.N1
  clear h ho
  go_enter Tryz.func9, Tryz.ntmps9
  have B02 : Hid (Below w.heap.size w ((w.alloc (p.obj D.n D.m D.N)).alloc (.cells #[.slice none 0 0, .slice none 0 0, .slice none 0 0] 29))) := HB.out.alloc (by simp) _
  have hz0 : ((w.alloc (p.obj D.n D.m D.N)).alloc (.cells #[.slice none 0 0, .slice none 0 0, .slice none 0 0] 29)).heap.size = w.heap.size + 2 := by simp
  have hres0 : ((w.alloc (p.obj D.n D.m D.N)).alloc (.cells #[.slice none 0 0, .slice none 0 0, .slice none 0 0] 29)).heap[w.heap.size + 1]? = some (.cells #[.slice none 0 0, .slice none 0 0, .slice none 0 0] 29 (0, 0)) := by
    have := heap_alloc_new (w.alloc (p.obj D.n D.m D.N)) (.cells #[.slice none 0 0, .slice none 0 0, .slice none 0 0] 29)
    rw [World.size_alloc] at this
    exact this
  have KB2 : Hid (∀ W, Below ((w.alloc (p.obj D.n D.m D.N)).alloc (.cells #[.slice none 0 0, .slice none 0 0, .slice none 0 0] 29)).heap.size ((w.alloc (p.obj D.n D.m D.N)).alloc (.cells #[.slice none 0 0, .slice none 0 0, .slice none 0 0] 29)) W → W.cell? ⟨w.heap.size, 0, none⟩ = some (.slice p.A D.n p.cap) ∧ W.cell? ⟨w.heap.size, 1, none⟩ = some (.slice p.B D.m p.bcap) ∧ W.cell? ⟨w.heap.size, 2, none⟩ = some (.slice p.C D.N p.ccap)) := fun W hW => KB.out W (st (bel_nw _ _) hW)
  obtain ⟨l0, l1, l2⟩ := KB2.out _ (Below.refl _ _)
  go_wp2_with fail
  generalize hW0 : (w.alloc (p.obj D.n D.m D.N)).alloc (.cells #[.slice none 0 0, .slice none 0 0, .slice none 0 0] 29) = W0 at *
  clear l0 l1 l2 HB KB hW0
  refine (HE.out _ B02.out).mono ?_
  rintro e w1 ⟨P, c', Q, d', rfl, hd1, ha1, u1, u2, hb1⟩
  have HB1 : Hid (Below w.heap.size w w1) := st B02.out hb1
  have hz1 : w.heap.size + 2 ≤ w1.heap.size := by rw [← hz0]; exact hb1.size
  have HR1 : Hid (w1.heap[w.heap.size + 1]? = some (.cells #[.slice none 0 0, .slice none 0 0, .slice none 0 0] 29 (0, 0))) := (hb1.block _ (by rw [hz0]; omega)).trans hres0
  obtain ⟨k0, k1, k2⟩ := KB2.out w1 hb1
  have hPb : 0 < D.n → ∀ a, P = some a → a.block < w1.heap.size := fun hn a ha => hd1.row.lt hn ha
  have hQb : 0 < D.m → ∀ a, Q = some a → a.block < w1.heap.size := fun hn a ha => ha1.row.lt hn ha
  have HPb := Lib.hid (And.intro hPb hQb)
  have HNr : Hid ((∀ a, P = some a → a.block ≠ w.heap.size + 1) ∧ ∀ a, Q = some a → a.block ≠ w.heap.size + 1) := ⟨fun a ha => by have := (u1 a ha).1; omega, fun a ha => by have := (u2 a ha).1; omega⟩
  have HU := Lib.hid (And.intro (u1.mono (show w.heap.size ≤ W0.heap.size by omega)) (u2.mono (show w.heap.size ≤ W0.heap.size by omega)))
  have B3 := bel_nw w1 (.cells #[.slice P D.n c', .slice Q D.m d', .slice none 0 0] 29)
  have HD3 := Lib.hid (hd1.below B3)
  have HA3 := Lib.hid (ha1.below B3)
  have HB3 : Hid (Below W0.heap.size W0 (w1.alloc (.cells #[.slice P D.n c', .slice Q D.m d', .slice none 0 0] 29))) := st hb1 B3
  have HR3 := Lib.hid ((B3.block _ (by omega)).trans HR1.out)
  have HX3 := Lib.hid (heap_alloc_new w1 (.cells #[.slice P D.n c', .slice Q D.m d', .slice none 0 0] 29))
  have HO3 := Lib.hid (OwnC.nil (Up (w1.heap.size + 1)) (w1.alloc (.cells #[.slice P D.n c', .slice Q D.m d', .slice none 0 0] 29)) (w1.heap.size + 1) D.c)
  have HCp := Lib.hid (fun (W : World) (A : Option Addr) (k pc : Nat) (B : Option Addr) (qc : Nat) (hk : k < D.N) (hi : IntsAt W A (D.c.ln k) (D.c.x k)) (hv : ValsAt W B (D.c.vl k) (D.c.vk k) (D.c.vn k) (D.c.vd k) (D.c.vs k)) => r_CopyCell W A B (D.c.ln k) pc (D.c.vl k) qc _ _ _ _ _ hi hv (by have := (HO.out k hk).1; omega) (by have := (HO.out k hk).2.1; omega))
  clear hd1 ha1 u1 u2 hPb hQb HR1 HE B3
  go_wp2_with fail
  clear k0 k1 k2
  have hzz : W0.heap.size ≤ w1.heap.size := hb1.size
  clear hb1
  go_loopw [4] (fun i wr => ∃ (k : Nat) (x : Value), k ≤ D.N ∧ i = .int .i64 k ∧ Hid (wr.heap[w1.heap.size]? = some (.cells #[.slice P D.n c', .slice Q D.m d', x] 29 (0, 0))) ∧ Hid (OwnC (Up (w1.heap.size + 1)) wr (w1.heap.size + 1) x k D.c) ∧ Hid (wr.heap[w.heap.size + 1]? = some (.cells #[.slice none 0 0, .slice none 0 0, .slice none 0 0] 29 (0, 0))) ∧ Hid (DimsAt wr P D.n D.nm D.lo D.hi) ∧ Hid (AttrsAt wr Q D.m D.an D.ty) ∧ Hid (Below W0.heap.size W0 wr)) (fun i _ => D.N - (intOf i).toNat)
  case atStart => exact ⟨0, _, Nat.zero_le _, rfl, HX3.out, HO3.out, HR3.out, HD3.out, HA3.out, HB3.out⟩
  case round =>
    obtain ⟨k, x, hk, rfl, HX, HOw, HRe, HDr, HAr, HBr⟩ := hrel
    obtain ⟨m0, m1, m2⟩ := KB2.out wr HBr.out
    clear HX3 HO3 HR3 HD3 HA3 HB3
    by_cases hlt : k < D.N
    · obtain ⟨bc, oc, hCe, hbc, hcc⟩ := (HC.out.below (st B02.out HBr.out)) (by omega)
      obtain ⟨P0, pc, Q0, qc0, x0, x1, x2, x3, x4⟩ := hcc k hlt
      clear hcc
      have hsz1 : wr.heap.size > w1.heap.size := (Array.getElem?_eq_some_iff.1 HX.out).1
      have HCk : Hid (∀ W, Below wr.heap.size wr W → Calls Tryz.prog 34 #[.agg #[.slice P0 (D.c.ln k) pc, .slice Q0 (D.c.vl k) qc0]] W fun e w' => ∃ P' c' Q' d', e = .returned (.agg #[.slice P' (D.c.ln k) c', .slice Q' (D.c.vl k) d']) ∧ IntsAt w' P' (D.c.ln k) (D.c.x k) ∧ ValsAt w' Q' (D.c.vl k) (D.c.vk k) (D.c.vn k) (D.c.vd k) (D.c.vs k) ∧ Up W.heap.size P' ∧ Up W.heap.size Q' ∧ Below W.heap.size W w') := fun W hW => HCp.out W P0 k pc Q0 qc0 hlt (x2.below hW) (x3.below hW)
      have HKr : Hid (∀ W, Below wr.heap.size wr W → W.cell? ⟨w.heap.size, 2, none⟩ = some (.slice (some ⟨bc, oc, none⟩) D.N p.ccap) ∧ W.cell? ⟨bc, oc + k * 2, none⟩ = some (.slice P0 (D.c.ln k) pc) ∧ W.cell? ⟨bc, oc + k * 2 + 1, none⟩ = some (.slice Q0 (D.c.vl k) qc0) ∧ W.heap[w1.heap.size]? = some (.cells #[.slice P D.n c', .slice Q D.m d', x] 29 (0, 0))) := fun W hW => ⟨by rw [← hCe]; exact (KB2.out W (st HBr.out hW)).2.2, (hW.cell (p := ⟨bc, oc + k * 2, none⟩) hbc).trans x0, (hW.cell (p := ⟨bc, oc + k * 2 + 1, none⟩) hbc).trans x1, (hW.block _ hsz1).trans HX.out⟩
      rw [hCe] at m2
      clear x0 x1 x2 x3
      go_wp2_with fail
      clear m0 m1 m2
      rename_i K hK
      refine wp_region_TK (n1 := 9) (T := TL [isW (.pointer (some ⟨w1.heap.size, 2, none⟩)), isW x, isW (.pointer (some ⟨w.heap.size, 2, none⟩)), isW (.slice (some ⟨bc, oc, none⟩) D.N p.ccap), isW (.int .i64 k), isW (.pointer (some ⟨bc, oc + k * 2, none⟩)), isW (.agg #[.slice P0 (D.c.ln k) pc, .slice Q0 (D.c.vl k) qc0]), CpV D.c k wr.heap.size, CpS D.c k wr.heap.size]) (by kernel_rfl) (by decide) (by kernel_rfl) (by kernel_rfl) ?step ?tail
      case step =>
        intro listed a W i H hi9 hilt
        have dl := H.dl (l := [some 17, some 18, some 19, some 20, some 21, some 22, some 23, some 24, some 25, some 26, some 27, none]) rfl
        have ap := apart_of dl (by decide)
        obtain ⟨q2, q3, q4, q5⟩ := HKr.out W H.below
        have hBW := H.below.size
        have mono : ∀ p' ∈ [isW (.pointer (some ⟨w1.heap.size, 2, none⟩)), isW x, isW (.pointer (some ⟨w.heap.size, 2, none⟩)), isW (.slice (some ⟨bc, oc, none⟩) D.N p.ccap), isW (.int .i64 k), isW (.pointer (some ⟨bc, oc + k * 2, none⟩)), isW (.agg #[.slice P0 (D.c.ln k) pc, .slice Q0 (D.c.vl k) qc0]), CpV D.c k wr.heap.size, CpS D.c k wr.heap.size], Mono p' := by
          intro p' hp
          simp only [List.mem_cons, List.not_mem_nil, or_false] at hp
          rcases hp with rfl | rfl | rfl | rfl | rfl | rfl | rfl | rfl | rfl
          · exact isW_mono _
          · exact isW_mono _
          · exact isW_mono _
          · exact isW_mono _
          · exact isW_mono _
          · exact isW_mono _
          · exact isW_mono _
          · exact cpV_mono _ _ _
          · exact cpS_mono _ _ _
        rcases (by omega : i = 0 ∨ i = 1 ∨ i = 2 ∨ i = 3 ∨ i = 4 ∨ i = 5 ∨ i = 6 ∨ i = 7 ∨ i = 8) with rfl | rfl | rfl | rfl | rfl | rfl | rfl | rfl | rfl
        · exact wpOp_of rfl (.inl rfl) (op_fA (by decide) rfl rfl (H.old 3 (old_of' dl 3 (by decide))) (H.over mono ap rfl rfl (by simp) (Below.refl _ _) rfl))
        · exact wpOp_of rfl (.inl rfl) (op_lsl (.inr (.inr (.inr (.inr rfl)))) rfl rfl (H.got' hi9 (j := 0) (t := 17) rfl (by kernel_rfl) rfl rfl) (three_at q5).1.2.2 (H.over mono ap rfl rfl (by simp) (Below.refl _ _) rfl))
        · exact wpOp_of rfl (.inl rfl) (op_fA (by decide) rfl rfl (H.old 1 (old_of' dl 1 (by decide))) (H.over mono ap rfl rfl (by simp) (Below.refl _ _) rfl))
        · exact wpOp_of rfl (.inl rfl) (op_lsl (.inr (.inr (.inr (.inr rfl)))) rfl rfl (H.got' hi9 (j := 2) (t := 19) rfl (by kernel_rfl) rfl rfl) q2 (H.over mono ap rfl rfl (by simp) (Below.refl _ _) rfl))
        · exact wpOp_of rfl (.inl rfl) (op_mv rfl rfl (H.over mono ap rfl rfl (by simp) (Below.refl _ _) (H.old 4 (old_of' dl 4 (by decide)))))
        · exact wpOp_of rfl (.inl rfl) (op_ix rfl rfl (H.got' hi9 (j := 3) (t := 20) rfl (by kernel_rfl) rfl rfl) (H.got' hi9 (j := 4) (t := 21) rfl (by kernel_rfl) rfl rfl) hlt (H.over mono ap rfl rfl (by simp) (Below.refl _ _) rfl))
        · exact wpOp_of rfl (.inl rfl) (op_ldc rfl rfl (H.got' hi9 (j := 5) (t := 22) rfl (by kernel_rfl) rfl rfl) q3 q4 (H.over mono ap rfl rfl (by simp) (Below.refl _ _) rfl))
        · refine wpOp_of rfl (.inl rfl) (op_T1 rfl rfl (H.got' hi9 (j := 6) (t := 23) rfl (by kernel_rfl) rfl rfl) (enters_of Tryz.func34 (by kernel_rfl) rfl) ((HCk.out W H.below).mono ?_))
          rintro e w1 ⟨P', c', Q', d', rfl, h1, h2, h3, h4, h5⟩
          exact ⟨_, rfl, H.over mono ap rfl rfl (by simp) h5 ⟨P', c', Q', d', rfl, ⟨h1, h3.mono hBW⟩, h2, h4.mono hBW⟩⟩
        · obtain ⟨P', c', Q', d', e1, d1, d2, d3⟩ := H.got' hi9 (j := 7) (t := 24) rfl (by kernel_rfl) rfl rfl
          exact wpOp_of rfl (.inl rfl) (op_bs1 rfl rfl e1 (H.over mono ap rfl rfl (by simp) (bel_nw W _) ⟨_, P', c', Q', d', rfl, hBW, heap_alloc_new W _, ⟨d1.1.below (bel_nw W _), d1.2⟩, d2.below (bel_nw W _), d3⟩))
      case tail =>
        intro listed a W H hall
        have e1 := H.got 1 _ 18 rfl rfl (hall 1 (by decide))
        obtain ⟨b, P', cc, Q', dd, e2, f1, f2, ⟨f3, f4⟩, f5, f6⟩ := H.got 8 _ 25 rfl rfl (hall 8 (by decide))
        have dl := H.dl (l := [some 17, some 18, some 19, some 20, some 21, some 22, some 23, some 24, some 25, some 26, some 27, none]) rfl
        have s0 := H.old 0 (old_of' dl 0 (by decide))
        have s1 := H.old 1 (old_of' dl 1 (by decide))
        have s2 := H.old 2 (old_of' dl 2 (by decide))
        have s3 := H.old 3 (old_of' dl 3 (by decide))
        have s4 := H.old 4 (old_of' dl 4 (by decide))
        have s5 := H.old 5 (old_of' dl 5 (by decide))
        have s6 := H.old 6 (old_of' dl 6 (by decide))
        have s7 := H.old 7 (old_of' dl 7 (by decide))
        have s8 := H.old 8 (old_of' dl 8 (by decide))
        have s9 := H.old 9 (old_of' dl 9 (by decide))
        have s28 := H.old 28 (old_of' dl 28 (by decide))
        obtain ⟨f, hf, rfl⟩ := actlitf 29 a (H.frame.trans (by simp)) (H.defers.trans rfl)
        rw [show List.range 29 = [0, 1, 2, 3, 4, 5, 6, 7, 8, 9, 10, 11, 12, 13, 14, 15, 16, 17, 18, 19, 20, 21, 22, 23, 24, 25, 26, 27, 28] from rfl]
        simp only [List.map_cons, List.map_nil]
        have q0 : f 0 = p.val D.n D.m D.N := (hf 0).symm.trans s0
        have q1 : f 1 = .pointer (some ⟨w.heap.size, 0, none⟩) := (hf 1).symm.trans s1
        have q2 : f 2 = .pointer (some ⟨w.heap.size + 1, 0, none⟩) := (hf 2).symm.trans s2
        have q3 : f 3 = .pointer (some ⟨w1.heap.size, 0, none⟩) := (hf 3).symm.trans s3
        have q4 : f 4 = .int .i64 k := (hf 4).symm.trans s4
        have q5 : f 5 = .pointer (some ⟨w.heap.size, 0, none⟩) := (hf 5).symm.trans s5
        have q6 : f 6 = .slice p.A D.n p.cap := (hf 6).symm.trans s6
        have q7 : f 7 = .pointer (some ⟨w.heap.size, 1, none⟩) := (hf 7).symm.trans s7
        have q8 : f 8 = .slice p.B D.m p.bcap := (hf 8).symm.trans s8
        have q9 : f 9 = ArrV P D.n c' Q D.m d' none 0 0 := (hf 9).symm.trans s9
        have q28 : f 28 = undef := (hf 28).symm.trans s28
        have q18 : f 18 = x := (hf 18).symm.trans e1
        have q25 : f 25 = .slice (some ⟨b, 0, none⟩) 1 1 := (hf 25).symm.trans e2
        rw [q0, q1, q2, q3, q4, q5, q6, q7, q8, q9, q18, q25, q28]
        have hb0 := H.below
        have hoW := HOw.out.below hb0
        have hxb : ∀ g, x.ownBlock = some g → g < wr.heap.size := fun g hg => (HOw.out.block hg).2
        clear e1 e2 s0 s1 s2 s3 s4 s5 s6 s7 s8 s9 s28 q5 q6 q7 q8 q9 q28 q0 q1 q2 q3 q4 q18 q25 hf dl hall H
        refine wpList_appC rfl (.tmp 18) (.tmp 25) rfl W (Up (w1.heap.size + 1)) (w1.heap.size + 1) x k D.c rfl b rfl P' Q' cc dd f2 f3 f5 ⟨f4.mono (by omega), f6.mono (by omega)⟩ ⟨fun _ => f4.own hxb (Nat.le_refl _), fun _ => f6.own hxb (Nat.le_refl _)⟩ hoW (by omega) (by have := hb0.size; omega) ?_
        intro v' w2 hown hgr hat
        obtain ⟨A', cp', hv', -⟩ := hown.row
        subst hv'
        have hob : w1.heap.size < W.heap.size := by have := hb0.size; omega
        have hnb : some w1.heap.size ≠ x.ownBlock := fun e => by have := (HOw.out.block e.symm).1; omega
        have hnr : some (w.heap.size + 1) ≠ x.ownBlock := fun e => by have := (HOw.out.block e.symm).1; omega
        have hx2 : w2.heap[w1.heap.size]? = some (.cells #[.slice P D.n c', .slice Q D.m d', x] 29 (0, 0)) := (hgr.block _ hob hnb).trans ((hb0.block _ hsz1).trans HX.out)
        have gr : w2.grownBy (w2.setCell ⟨w1.heap.size, 2, none⟩ (.slice A' (k + 1) cp')) (some w1.heap.size) := grown_set _ _ _ _
        have HX2 : Hid ((w2.setCell ⟨w1.heap.size, 2, none⟩ (.slice A' (k + 1) cp')).heap[w1.heap.size]? = some (.cells #[.slice P D.n c', .slice Q D.m d', .slice A' (k + 1) cp'] 29 (0, 0))) := by
          show _ = _
          simp [World.setCell, Array.getElem?_modify, hx2]
        have HO2 := Lib.hid (hown.set gr (Nat.lt_succ_self _) (fun A hA a ha => by have := (hA a ha).1; omega))
        have HR2 : Hid ((w2.setCell ⟨w1.heap.size, 2, none⟩ (.slice A' (k + 1) cp')).heap[w.heap.size + 1]? = some (.cells #[.slice none 0 0, .slice none 0 0, .slice none 0 0] 29 (0, 0))) := (gr.block _ (by have := hgr.size; omega) (fun e => by injection e with e; omega)).trans ((hgr.block _ (by omega) hnr).trans ((hb0.block _ (by omega)).trans HRe.out))
        have how : ∀ (A : Option Addr) (z : Nat) (m : Nat) (g : Nat → Nat → Value), RowAt wr A m z g → (0 < m → ∀ a, A = some a → a.block < w1.heap.size) → RowAt (w2.setCell ⟨w1.heap.size, 2, none⟩ (.slice A' (k + 1) cp')) A m z g := fun A z m g hr h1 =>
          (((hr.below hb0).grownO hgr (fun hm a ha e => by have := (HOw.out.block e).1; have := h1 hm a ha; omega)).grown gr (fun hm a ha => Nat.ne_of_lt (h1 hm a ha)))
        have HD2 := Lib.hid (how _ _ _ _ HDr.out.row HPb.out.1).dims
        have HA2 := Lib.hid (how _ _ _ _ HAr.out.row HPb.out.2).attrs
        have HB2 : Hid (Below W0.heap.size W0 (w2.setCell ⟨w1.heap.size, 2, none⟩ (.slice A' (k + 1) cp'))) := ((st HBr.out hb0).grown hgr (by have := HBr.out.size; have := hb0.size; omega) (fun g hg => by have := (HOw.out.block hg).1; omega)).setCell (p := ⟨w1.heap.size, 2, none⟩) (by show W0.heap.size ≤ w1.heap.size; omega) _
        have y2 := (three_at hx2).1.2.2
        have y3 := (three_at hx2).2.2.2
        clear how gr hx2 hnb hnr hat hgr hown f1 f2 f3 f4 f5 f6 hoW hxb hb0
        go_wp2
        go_roundw
        case rel => exact ⟨k + 1, _, by omega, by go_num, HX2.out, HO2.out, HR2.out, HD2.out, HA2.out, HB2.out⟩
        case measure => simp [intOf]; omega
    · obtain rfl : k = D.N := by omega
      obtain ⟨A', cp', hv', hce⟩ := HOw.out.up (Nat.le_refl _) HO.out
      subst hv'
      have HCE := Lib.hid hce
      obtain ⟨⟨y0, y1, y2⟩, -⟩ := three_at HX.out
      obtain ⟨⟨r0, r1, r2⟩, z0, z1, z2⟩ := three_at HRe.out
      clear hce
      go_wp2
      refine bodyPost_ret (v := ArrV P D.n c' Q D.m d' A' D.N cp') (res_cell Tryz.results9 _ _ (w.heap.size + 1) 29 _ (0, 0) _ rfl (three_set HRe.out _ _ _) Tryz.underlying29 rfl (by rw [info_arr]; rfl)) rfl ?_
      have gr : wr.grownBy (((wr.setCell ⟨w.heap.size + 1, 0, none⟩ (.slice P D.n c')).setCell ⟨w.heap.size + 1, 1, none⟩ (.slice Q D.m d')).setCell ⟨w.heap.size + 1, 2, none⟩ (.slice A' D.N cp')) (some (w.heap.size + 1)) := gr2 (gr2 (grown_set _ _ _ _) (grown_set _ _ _ _)) (grown_set _ _ _ _)
      refine ⟨⟨P, c', Q, d', A', cp'⟩, rfl, ⟨(HDr.out.row.grown gr (fun hn => ?_)).dims, (HAr.out.row.grown gr (fun hn => ?_)).attrs, (HCE.out.grown gr (by omega)).mono (by omega), HU.out.1, HU.out.2⟩, ?_⟩
      · exact HNr.out.1
      · exact HNr.out.2
      · exact (((st B02.out HBr.out).setCell (p := ⟨w.heap.size + 1, 0, none⟩) (by show w.heap.size ≤ w.heap.size + 1; omega) _).setCell (p := ⟨w.heap.size + 1, 1, none⟩) (by show w.heap.size ≤ w.heap.size + 1; omega) _).setCell (p := ⟨w.heap.size + 1, 2, none⟩) (by show w.heap.size ≤ w.heap.size + 1; omega) _
end Go.Proofs.YtogmbehomilalaaGreatDoor
end

/- The reference's Make of cells without an error. -/
section
namespace Go.Proofs.YtogmbehomilalaaGreatDoor
open Go Go.RowKit Go.Deep

theorem fstE_at {E : Nat → Int} {N j : Nat} (hj : j < N) (h0 : ∀ i, i < j → E i = 0) (h : E j ≠ 0) : fstE E N = E j := by
  by_cases e : fstE E N = 0
  · exact absurd (fstE_zero e j hj) h
  · obtain ⟨K, h1, h2, h3, h4⟩ := fstE_first e
    rcases Nat.lt_trichotomy K j with h5 | h5 | h5
    · exact absurd (h0 K h5) h3
    · rw [h4, h5]
    · exact absurd (h2 j h5) h
/-- The cells as a table that has no end. -/
def tabC (n m N : Nat) (c : CeD) : CeD := ⟨fun _ => n, fun _ => m, fun k => c.x (clN N k), fun k => c.vk (clN N k), fun k => c.vn (clN N k), fun k => c.vd (clN N k), fun k => c.vs (clN N k)⟩
theorem range_get {N k : Nat} (h : k < N) : (List.range N)[k]! = k := by
  rw [List.getElem!_eq_getElem?_getD, List.getElem?_range h]; rfl
theorem tab_in {w : World} {C : Option Addr} {n m N : Nat} {c : CeD} (h : CeAt w C N c) (hl : ∀ k, k < N → c.ln k = n ∧ c.vl k = m) (hn : n ≤ 1000) : CeAt w C N ((tabC n m N c).of (List.range N)) := fun h0 => by
  obtain ⟨b, o, e1, e2, e3⟩ := h h0
  refine ⟨b, o, e1, e2, fun k hk => ?_⟩
  obtain ⟨P, pc, Q, qc, a1, a2, a3, a4, a5⟩ := e3 k hk
  obtain ⟨l1, l2⟩ := hl k hk
  rw [l1] at a1 a3
  rw [l2] at a2 a4
  have hg := range_get hk
  refine ⟨P, pc, Q, qc, a1, a2, ?_, ?_, hn⟩
  · show IntsAt w P n (c.x (clN N ((List.range N)[k]!)))
    rw [hg, clN_id hk]; exact a3
  · show ValsAt w Q m (c.vk (clN N ((List.range N)[k]!))) (c.vn (clN N ((List.range N)[k]!))) (c.vd (clN N ((List.range N)[k]!))) (c.vs (clN N ((List.range N)[k]!)))
    rw [hg, clN_id hk]; exact a4
theorem tab_out {w : World} {C : Option Addr} {n m N : Nat} {c : CeD} {L : List Nat} (h : CeAt w C N ((tabC n m N c).of L)) (hl : ∀ k, k < N → c.ln k = n ∧ c.vl k = m) (hL : ∀ k, k < N → L[k]! < N) : CeAt w C N (c.re fun j => L[j]!) := fun h0 => by
  obtain ⟨b, o, e1, e2, e3⟩ := h h0
  refine ⟨b, o, e1, e2, fun k hk => ?_⟩
  obtain ⟨P, pc, Q, qc, a1, a2, a3, a4, a5⟩ := e3 k hk
  have hk' := hL k hk
  obtain ⟨l1, l2⟩ := hl _ hk'
  have a3' : IntsAt w P n (c.x (clN N (L[k]!))) := a3
  have a4' : ValsAt w Q m (c.vk (clN N (L[k]!))) (c.vn (clN N (L[k]!))) (c.vd (clN N (L[k]!))) (c.vs (clN N (L[k]!))) := a4
  rw [clN_id hk'] at a3' a4'
  refine ⟨P, pc, Q, qc, ?_, ?_, ?_, ?_, ?_⟩
  · show _ = some (Value.slice P (c.ln (L[k]!)) pc); rw [l1]; exact a1
  · show _ = some (Value.slice Q (c.vl (L[k]!)) qc); rw [l2]; exact a2
  · show IntsAt w P (c.ln (L[k]!)) (c.x (L[k]!)); rw [l1]; exact a3'
  · show ValsAt w Q (c.vl (L[k]!)) _ _ _ _; rw [l2]; exact a4'
  · show c.ln (L[k]!) ≤ 1000; rw [l1]; exact a5
theorem perm_lt {L : List Nat} {N : Nat} (h : L.Perm (List.range N)) {k : Nat} (hk : k < N) : L[k]! < N := by
  have hl : L.length = N := by rw [h.length_eq, List.length_range]
  have hm : L[k]! ∈ L := by
    rw [getElem!_pos L k (by omega)]
    exact List.getElem_mem _
  have := h.mem_iff.1 hm
  exact List.mem_range.1 this
set_option maxRecDepth 100000 in
set_option maxHeartbeats 8000000 in
theorem r_Make_rest (w : World) (A B C : Option Addr) (n cap m bcap N ccap : Nat) (nm : Nat → ByteArray) (lo hi : Nat → Int) (an : Nat → ByteArray) (ty : Nat → Int) (c : CeD) (hd : DimsAt w A n nm lo hi) (ha : AttrsAt w B m an ty) (hc : CeAt w C N c) (hn : n ≤ 1000) (hm : m ≤ 1000) (hcc : N ≤ ccap) (ho : CeOk N c) (hs : ∀ k, k < n → (nm k).size ≤ 9223372036854775807) (hs2 : ∀ k, k < m → (an k).size ≤ 9223372036854775807)
    (he : manyE nm lo hi n an ty m N = 0) (hce : ∀ k, k < N → cellE lo hi n ty m (c.x k) (c.ln k) (c.vk k) (c.vn k) (c.vd k) (c.vs k) (c.vl k) = 0) :
    Calls Tryz.prog 8 #[.slice A n cap, .slice B m bcap, .slice C N ccap] w fun e w' => ∃ L : List Nat, (L.Perm (List.range N) ∧ InOrd (tabC n m N c) L) ∧ MkR w ⟨n, nm, lo, hi, m, an, ty, N, c.re fun j => L[j]!⟩ (fstE (adjE n c fun j => L[j]!) N) e w' ∧ Below w.heap.size w w' := by
  have hln : ∀ k, k < N → c.ln k = n ∧ c.vl k = m := fun k hk => by
    have h := hce k hk
    unfold cellE at h
    by_cases e : c.ln k ≠ n ∨ c.vl k ≠ m
    · rw [if_pos e] at h; cases h
    · omega
  have HB : Hid (Below w.heap.size w (w.alloc (.cells #[.slice none 0 0, .slice none 0 0, .slice none 0 0] 29))) := (Below.refl _ _).alloc (Nat.le_refl _) _
  have HM := Lib.hid (r_Schema (w.alloc (.cells #[.slice none 0 0, .slice none 0 0, .slice none 0 0] 29)) A B n cap m bcap nm lo hi an ty (hd.below HB.out) (ha.below HB.out) hs hs2 hn hm)
  obtain ⟨h40, h41⟩ := many_sch he
  rw [h40] at HM
  have h42 : ¬ (N : Int) > 4096 := by omega
  have HSt := Lib.hid (r_Sorted (tabC n m N c) n (fun _ => rfl) hn N)
  have hn0 := heap_alloc_new w (.cells #[.slice none 0 0, .slice none 0 0, .slice none 0 0] 29)
  have hl0 : w.heap.size < (w.alloc (.cells #[.slice none 0 0, .slice none 0 0, .slice none 0 0] 29)).heap.size := by simp
  have HO := Lib.hid ho
  have HD := Lib.hid hd
  have HA := Lib.hid ha
  have HC := Lib.hid hc
  have HCE := Lib.hid hce
  have HLN := Lib.hid hln
  have HS1 := Lib.hid hs
  have HS2 := Lib.hid hs2
  clear hd ha hc ho hce hln he hs hs2 h40
  go_enter Tryz.func8, Tryz.ntmps8
  go_wp2_with fail
  refine HM.out.mono ?_
  rintro e w1 ⟨rfl, hb1⟩
  have HB1 : Hid (Below w.heap.size w w1) := st HB.out hb1
  have hres := (hb1.block w.heap.size hl0).trans hn0
  have hl1 : w.heap.size < w1.heap.size := Nat.lt_of_lt_of_le hl0 hb1.size
  have HRS := Lib.hid hres
  clear hb1 hn0 hl0 HM HB hres
  go_wp2_with fail
  go_loopw [9] (fun i wr => ∃ k : Nat, k ≤ N ∧ i = .int .i64 k ∧ Hid (Below w1.heap.size w1 wr)) (fun i _ => N - (intOf i).toNat)
  case atStart => exact ⟨0, Nat.zero_le _, rfl, Below.refl _ _⟩
  case round =>
    obtain ⟨k, hk, rfl, HBr⟩ := hrel
    have HWr : Hid (Below w.heap.size w wr) := st HB1.out HBr.out
    by_cases hlt : k < N
    · obtain ⟨bc, oc, rfl, hbc, hcs⟩ := HC.out (by omega)
      obtain ⟨P, pc, X, d, h1, h2, h3, h4, h5⟩ := hcs k hlt
      have x0 := (HWr.out.cell (p := ⟨bc, oc + k * 2, none⟩) hbc).trans h1
      have x1 := (HWr.out.cell (p := ⟨bc, oc + k * 2 + 1, none⟩) hbc).trans h2
      have HCe : Hid (∀ W, Below wr.heap.size wr W → Calls Tryz.prog 30 #[.slice A n cap, .slice B m bcap, CelV P (c.ln k) pc X (c.vl k) d] W fun e w' => e = .returned (.int .i64 0) ∧ Below W.heap.size W w') := fun W hW => by
        have hh := st HWr.out hW
        have h9 := r_Cell W A B P X n cap m bcap (c.ln k) pc (c.vl k) d nm lo hi an ty (c.x k) (c.vk k) (c.vn k) (c.vd k) (c.vs k) (HD.out.below hh) (HA.out.below hh) (h3.below hh) (h4.below hh) (by omega) (by omega) (by omega) (HO.out k hlt).2.2
        rwa [HCE.out k hlt] at h9
      have q0 : (0 : Int) ≤ (k : Int) := by omega
      have q1 : (k : Int) < (N : Int) := by omega
      clear h1 h2 h3 h4 h5 hcs hbc
      generalize c.ln k = ln at *
      generalize c.vl k = vl at *
      go_wp2_with (go_at_call 30; refine (HCe.out _ (Below.refl _ _)).mono ?_; rintro e w5 ⟨rfl, hb5⟩; have HB5 := Lib.hid hb5)
      go_roundw
      case rel => exact ⟨k + 1, by omega, by go_num, st HBr.out HB5.out⟩
      case measure => simp [intOf]; omega
    · obtain rfl : k = N := by omega
      obtain ⟨wo, rfl⟩ : ∃ wo, wo = wr := ⟨_, rfl⟩
      have HSo := Lib.hid (HSt.out wo C k ccap (List.range k) (Nat.le_refl _) (by omega) (by simp) ((tab_in HC.out HLN.out hn).below HWr.out) hcc)
      go_wp2_with fail
      refine HSo.out.mono ?_
      rintro e w6 ⟨v6, rfl, ⟨A6, c6, L, rfl, hc6, hp6, hi6, ha6⟩, hb6⟩
      have HW6 : Hid (Below w.heap.size w w6) := st HWr.out hb6
      have HPI : Hid (L.Perm (List.range k) ∧ InOrd (tabC n m k c) L) := ⟨hp6, hi6⟩
      have HCL := Lib.hid (tab_out ha6 HLN.out (fun j hj => perm_lt hp6 hj))
      have HRL : Hid (∀ j, j < k → L[j]! < k) := fun j hj => perm_lt hp6 hj
      have hres := ((hb6.block w.heap.size (Nat.lt_of_lt_of_le hl1 HBr.out.size)).trans ((HBr.out.block w.heap.size hl1).trans HRS.out))
      have HR6 := Lib.hid hres
      have hl6 : w.heap.size < w6.heap.size := (Array.getElem?_eq_some_iff.1 hres).1
      obtain ⟨r, hr⟩ : ∃ r : Nat → Nat, r = fun j => L[j]! := ⟨_, rfl⟩
      have HCL2 : Hid (CeAt w6 A6 k (c.re r)) := by
        show CeAt w6 A6 k (c.re r)
        rw [hr]; exact HCL.out
      have HRL2 : Hid (∀ j, j < k → r j < k) := fun j hj => by rw [hr]; exact HRL.out j hj
      have HRE : Hid ((fun j => L[j]!) = r) := hr.symm
      have HCM := Lib.hid r_Compare
      clear hb6 hc6 hp6 hi6 ha6 hres HSo HSt hr HCL HRL
      go_wp2_with fail
      go_loopw [12] (fun i wr2 => ∃ j : Nat, 1 ≤ j ∧ (j ≤ k ∨ j = 1) ∧ i = .int .i64 j ∧ Hid (∀ t, t < j → adjE n c r t = 0) ∧ Hid (Below w6.heap.size w6 wr2)) (fun i _ => k - (intOf i).toNat)
      case atStart => exact ⟨1, Nat.le_refl _, .inr rfl, rfl, fun t ht => by
        obtain rfl : t = 0 := by omega
        unfold adjE
        rw [if_pos rfl], Below.refl _ _⟩
      case round =>
        obtain ⟨j, hj1, hj, rfl, HAD, HBj⟩ := hrel
        have HBw : Hid (Below w.heap.size w wr) := st HW6.out HBj.out
        by_cases hlt : j < k
        · obtain ⟨i, hij⟩ : ∃ i, j = i + 1 := ⟨j - 1, by omega⟩
          obtain ⟨b, o, rfl, hbl, hcl⟩ := HCL2.out (by omega)
          obtain ⟨P, pc, Q, qc, y0, _, y3, _⟩ := hcl i (by omega)
          obtain ⟨P', pc', Q', qc', z0, _, z3, _⟩ := hcl j hlt
          have y0 : w6.cell? ⟨b, o + i * 2, none⟩ = some (.slice P (c.ln (r i)) pc) := y0
          have z0 : w6.cell? ⟨b, o + j * 2, none⟩ = some (.slice P' (c.ln (r j)) pc') := z0
          have y3 : IntsAt w6 P (c.ln (r i)) (c.x (r i)) := y3
          have z3 : IntsAt w6 P' (c.ln (r j)) (c.x (r j)) := z3
          rw [(HLN.out _ (HRL2.out i (by omega))).1] at y0 y3
          rw [(HLN.out _ (HRL2.out j hlt)).1] at z0 z3
          have HCX : Hid (∀ W, Below w6.heap.size w6 W → W.cell? ⟨b, o + i * 2, none⟩ = some (.slice P n pc) ∧ W.cell? ⟨b, o + j * 2, none⟩ = some (.slice P' n pc')) := fun W hW => ⟨(hW.cell (p := ⟨b, o + i * 2, none⟩) hbl).trans y0, (hW.cell (p := ⟨b, o + j * 2, none⟩) hbl).trans z0⟩
          have HCO : Hid (∀ W, Below w6.heap.size w6 W → Calls Tryz.prog 32 #[.slice P n pc, .slice P' n pc'] W fun e w' => e = .returned (.int .i64 (cmpS n n (c.x (r i)) (c.x (r j)))) ∧ Below W.heap.size W w') := fun W hW => HCM.out W P P' n pc n pc' _ _ (y3.below hW) (z3.below hW) (by omega) (by omega)
          have HAJ : Hid (adjE n c r j = if cmpS n n (c.x (r i)) (c.x (r j)) = 0 then 5 else 0) := by
            show _ = _
            unfold adjE
            rw [if_neg (by omega), show j - 1 = i by omega]
          obtain ⟨y9, z9⟩ := HCX.out wr HBj.out
          clear y0 z0 y3 z3 hcl
          generalize cmpS n n (c.x (r i)) (c.x (r j)) = z at *
          have hw : IntKind.i64.wrap ((j : Int) - 1) = ((i : Nat) : Int) := by rw [w64 (by omega) (by omega)]; omega
          have q0 : (0 : Int) ≤ (i : Int) := by omega
          have q1 : (i : Int) < (k : Int) := by omega
          have q2 : (0 : Int) ≤ (j : Int) := by omega
          have q3 : (j : Int) < (k : Int) := by omega
          have B0d : Below w6.heap.size w6 wr.drew := HBj.out.drew
          clear hij
          by_cases hz : z = 0
          · have hz0 : (z == 0) = true := by rw [beq_iff_eq]; exact hz
            have HF : Hid (fstE (adjE n c r) k = 5) := by
              show _ = _
              have h9 : adjE n c r j = 5 := by rw [HAJ.out, if_pos hz]
              rw [fstE_at hlt HAD.out (by rw [h9]; decide), h9]
            clear hz
            go_wp2_with fail
            go_region_held3 (fun W => W.cell? ⟨b, o + i * 2, none⟩ = some (.slice P n pc) ∧ W.cell? ⟨b, o + j * 2, none⟩ = some (.slice P' n pc'))
              (first | exact HCX.out _ B0d | exact HCX.out _ HBj.out | exact HCX.out _ HB7.out)
              (first | (go_at_call 32; refine (HCO.out _ B0d).mono ?_; rintro e w7 ⟨rfl, hb7⟩; have HB7 : Hid (Below w6.heap.size w6 w7) := B0d.trans (hb7.mono B0d.size); clear hb7))
            have HW7 : Hid (Below w.heap.size w w7) := st HW6.out HB7.out
            have hres := (HB7.out.block w.heap.size hl6).trans HR6.out
            obtain ⟨⟨r0, r1, r2⟩, f0, f1, f2⟩ := three_at hres
            go_wp2_with fail
            refine bodyPost_ret (v := .tuple #[ArrV none 0 0 none 0 0 none 0 0, .int .i64 5]) (res_cell_tmp Tryz.results8 _ _ w.heap.size 29 _ (0, 0) _ rfl (three_set hres _ _ _) Tryz.underlying29 rfl (by rw [info_arr]; rfl)) rfl ?_
            refine ⟨L, HPI.out, .inl ⟨?_, ?_⟩, ((HW7.out.setCell (p := ⟨w.heap.size, 0, none⟩) (Nat.le_refl _) _).setCell (p := ⟨w.heap.size, 1, none⟩) (Nat.le_refl _) _).setCell (p := ⟨w.heap.size, 2, none⟩) (Nat.le_refl _) _⟩
            · rw [HRE.out, HF.out]; decide
            · rw [HRE.out, HF.out]
          · have hz0 : (z == 0) = false := by rw [beq_eq_false_iff_ne]; exact hz
            have HAN : Hid (∀ t, t < j + 1 → adjE n c r t = 0) := fun t ht => by
              by_cases e : t = j
              · rw [e, HAJ.out, if_neg hz]
              · exact HAD.out t (by omega)
            clear hz
            go_wp2_with fail
            go_region_held3 (fun W => W.cell? ⟨b, o + i * 2, none⟩ = some (.slice P n pc) ∧ W.cell? ⟨b, o + j * 2, none⟩ = some (.slice P' n pc'))
              (first | exact HCX.out _ B0d | exact HCX.out _ HBj.out | exact HCX.out _ HB7.out)
              (first | (go_at_call 32; refine (HCO.out _ B0d).mono ?_; rintro e w7 ⟨rfl, hb7⟩; have HB7 : Hid (Below w6.heap.size w6 w7) := B0d.trans (hb7.mono B0d.size); clear hb7))
            go_wp2_with fail
            go_roundw
            case rel => exact ⟨j + 1, by omega, .inl (by omega), by go_num, HAN, HB7.out⟩
            case measure => simp [intOf]; omega
        · have HF : Hid (fstE (adjE n c r) k = 0) := fstE_all fun t ht => HAD.out t (by omega)
          have i9 : ¬ (j : Int) < (k : Int) := by omega
          have HCp := Lib.hid (r_Copy wr ⟨A, cap, B, bcap, A6, c6⟩ ⟨n, nm, lo, hi, m, an, ty, k, c.re r⟩ ⟨HD.out.below HBw.out, HA.out.below HBw.out, HCL2.out.below HBj.out⟩ ⟨hn, hm, by show k ≤ 1000000; omega, HS1.out, HS2.out, fun t ht => HO.out (r t) (HRL2.out t ht)⟩)
          have hres := (HBj.out.block w.heap.size hl6).trans HR6.out
          have HRJ := Lib.hid hres
          have hlj : w.heap.size < wr.heap.size := (Array.getElem?_eq_some_iff.1 hres).1
          clear hres
          go_wp2_with fail
          refine HCp.out.mono ?_
          rintro e w8 ⟨pp, rfl, hup, hb8⟩
          have HB8 : Hid (Below w.heap.size w w8) := st HBw.out hb8
          have hres := (hb8.block w.heap.size hlj).trans HRJ.out
          obtain ⟨⟨r0, r1, r2⟩, f0, f1, f2⟩ := three_at hres
          have HUP := Lib.hid hup
          have HSZ2 : Hid (w.heap.size < wr.heap.size) := hlj
          clear hb8 hup
          go_wp2
          refine bodyPost_ret (v := .tuple #[pp.val n m k, .int .i64 0]) (res_cell_tmp Tryz.results8 _ _ w.heap.size 29 _ (0, 0) _ rfl (three_set hres _ _ _) Tryz.underlying29 rfl (by rw [info_arr]; rfl)) rfl ?_
          have gr : w8.grownBy (((w8.setCell ⟨w.heap.size, 0, none⟩ (.slice pp.A n pp.cap)).setCell ⟨w.heap.size, 1, none⟩ (.slice pp.B m pp.bcap)).setCell ⟨w.heap.size, 2, none⟩ (.slice pp.C k pp.ccap)) (some w.heap.size) := gr2 (gr2 (grown_set _ _ _ _) (grown_set _ _ _ _)) (grown_set _ _ _ _)
          have hg := HUP.out.grown gr HSZ2.out
          have hle : w.heap.size ≤ wr.heap.size := Nat.le_of_lt HSZ2.out
          refine ⟨L, HPI.out, ?_, ((HB8.out.setCell (p := ⟨w.heap.size, 0, none⟩) (Nat.le_refl _) _).setCell (p := ⟨w.heap.size, 1, none⟩) (Nat.le_refl _) _).setCell (p := ⟨w.heap.size, 2, none⟩) (Nat.le_refl _) _⟩
          rw [HRE.out, HF.out]
          exact .inr ⟨rfl, pp, rfl, ⟨hg.dims, hg.attrs, hg.cells.mono hle, hg.upA.mono hle, hg.upB.mono hle⟩⟩
end Go.Proofs.YtogmbehomilalaaGreatDoor
end

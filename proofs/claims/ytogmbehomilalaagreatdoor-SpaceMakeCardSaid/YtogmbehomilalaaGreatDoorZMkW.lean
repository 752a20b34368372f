/- The reference's copy of an array, and the types of its blocks. -/
import Derived.Test.YtogmbehomilalaaGreatDoorZRfMG
import Derived.Test.YtogmbehomilalaaGreatDoorZAppT
import Derived.Test.YtogmbehomilalaaGreatDoorZNoAr

/- The reference's copy of an array, and the types of its blocks. -/
section
namespace Go.Proofs.YtogmbehomilalaaGreatDoor
open Go Go.RowKit Go.Deep Go.Shelf

theorem CeUpT.mono {w : World} {B B' : Nat} {C : Option Addr} {N : Nat} {c : CeD} (h : CeUpT w B C N c) (hb : B' ≤ B) : CeUpT w B' C N c := fun hn => by
  obtain ⟨b, cs, h1, h2, h3, h4⟩ := h hn
  refine ⟨b, cs, h1, by omega, h3, fun k hk => ?_⟩
  obtain ⟨P, pc, Q, qc, a1, a2, a3, a4, a5, a6, a7⟩ := h4 k hk
  exact ⟨P, pc, Q, qc, a1, a2, a3, a4, a5, a6.mono hb, a7.mono hb⟩
/-- A copy of cell k. -/
def CpVT (c : CeD) (k B : Nat) : Value → World → Prop := fun v W => ∃ P' c' Q' d', v = .agg #[.slice P' (c.ln k) c', .slice Q' (c.vl k) d'] ∧ (IntsT W P' (c.ln k) (c.x k) ∧ Up B P') ∧ ValsT W Q' (c.vl k) (c.vk k) (c.vn k) (c.vd k) (c.vs k) ∧ Up B Q'
theorem cpVT_mono (c : CeD) (k B : Nat) : Mono (CpVT c k B) := by
  rintro v x y ⟨P', c', Q', d', h1, h2, h3, h4⟩ hb; exact ⟨P', c', Q', d', h1, ⟨h2.1.below hb, h2.2⟩, h3.below hb, h4⟩
def CpST (c : CeD) (k B : Nat) : Value → World → Prop := fun v W => ∃ b P' c' Q' d', v = .slice (some ⟨b, 0, none⟩) 1 1 ∧ B ≤ b ∧ W.heap[b]? = some (.cells #[.slice P' (c.ln k) c', .slice Q' (c.vl k) d'] 38 (0, 0)) ∧ (IntsT W P' (c.ln k) (c.x k) ∧ Up B P') ∧ ValsT W Q' (c.vl k) (c.vk k) (c.vn k) (c.vd k) (c.vs k) ∧ Up B Q'
theorem cpST_mono (c : CeD) (k B : Nat) : Mono (CpST c k B) := by
  rintro v x y ⟨b, P', c', Q', d', h1, h5, h6, h2, h3, h4⟩ hb; exact ⟨b, P', c', Q', d', h1, h5, (hb.block b (Array.getElem?_eq_some_iff.1 h6).1).trans h6, ⟨h2.1.below hb, h2.2⟩, h3.below hb, h4⟩
set_option maxRecDepth 100000 in
set_option maxHeartbeats 4000000 in
theorem r_CopyT (w : World) (p : ArP) (D : ArD) (h : ArAt w p D) (ho : ArOk D) :
    Calls Tryz.prog 9 #[p.val D.n D.m D.N] w fun e w' => ∃ q : ArP, e = .returned (q.val D.n D.m D.N) ∧ ArUp w' w.heap.size q D ∧ CeUpT w' w.heap.size q.C D.N D.c ∧ Below w.heap.size w w' := by
  have HE : Hid (∀ W, Below w.heap.size w W → Calls Tryz.prog 33 #[.slice p.A D.n p.cap, .slice p.B D.m p.bcap] W fun e w' => ∃ P c' Q d', e = .returned (ArrV P D.n c' Q D.m d' none 0 0) ∧ DimsAt w' P D.n D.nm D.lo D.hi ∧ AttrsAt w' Q D.m D.an D.ty ∧ Up W.heap.size P ∧ Up W.heap.size Q ∧ Below W.heap.size W w') := fun W hW => r_Empty W p.A p.B D.n p.cap D.m p.bcap _ _ _ _ _ (h.dims.below hW) (h.attrs.below hW) (by have := ho.n1; omega) (by have := ho.m1; omega)
  have KB := Lib.hid (arr_box w (.slice p.A D.n p.cap) (.slice p.B D.m p.bcap) (.slice p.C D.N p.ccap) 29)
  have HB : Hid (Below w.heap.size w (w.alloc (p.obj D.n D.m D.N))) := (Below.refl _ _).alloc (Nat.le_refl _) _
  have HC := Lib.hid h.cells
  have HO := Lib.hid ho.cS
  have hN := ho.N1
  clear h ho
  go_enter Tryz.func9, Tryz.ntmps9
  have B02 : Hid (Below w.heap.size w ((w.alloc (p.obj D.n D.m D.N)).alloc (.cells #[.slice none 0 0, .slice none 0 0, .slice none 0 0] 29))) := HB.out.alloc (by simp) _
  have hz0 : ((w.alloc (p.obj D.n D.m D.N)).alloc (.cells #[.slice none 0 0, .slice none 0 0, .slice none 0 0] 29)).heap.size = w.heap.size + 2 := by simp
  have hres0 : ((w.alloc (p.obj D.n D.m D.N)).alloc (.cells #[.slice none 0 0, .slice none 0 0, .slice none 0 0] 29)).heap[w.heap.size + 1]? = some (.cells #[.slice none 0 0, .slice none 0 0, .slice none 0 0] 29 (0, 0)) := by
    have := heap_alloc_new (w.alloc (p.obj D.n D.m D.N)) (.cells #[.slice none 0 0, .slice none 0 0, .slice none 0 0] 29)
    rw [World.size_alloc] at this
    exact this
  have KB2 : Hid (∀ W, Below ((w.alloc (p.obj D.n D.m D.N)).alloc (.cells #[.slice none 0 0, .slice none 0 0, .slice none 0 0] 29)).heap.size ((w.alloc (p.obj D.n D.m D.N)).alloc (.cells #[.slice none 0 0, .slice none 0 0, .slice none 0 0] 29)) W → W.cell? ⟨w.heap.size, 0, none⟩ = some (.slice p.A D.n p.cap) ∧ W.cell? ⟨w.heap.size, 1, none⟩ = some (.slice p.B D.m p.bcap) ∧ W.cell? ⟨w.heap.size, 2, none⟩ = some (.slice p.C D.N p.ccap)) := fun W hW => KB.out W (st (bel_nw _ _) hW)
  obtain ⟨l0, l1, l2⟩ := KB2.out _ (Below.refl _ _)
  go_wp2_with fail
  generalize hW0 : (w.alloc (p.obj D.n D.m D.N)).alloc (.cells #[.slice none 0 0, .slice none 0 0, .slice none 0 0] 29) = W0 at *
  clear l0 l1 l2 HB KB hW0
  refine (HE.out _ B02.out).mono ?_
  rintro e w1 ⟨P, c', Q, d', rfl, hd1, ha1, u1, u2, hb1⟩
  have HB1 : Hid (Below w.heap.size w w1) := st B02.out hb1
  have hz1 : w.heap.size + 2 ≤ w1.heap.size := by rw [← hz0]; exact hb1.size
  have HR1 : Hid (w1.heap[w.heap.size + 1]? = some (.cells #[.slice none 0 0, .slice none 0 0, .slice none 0 0] 29 (0, 0))) := (hb1.block _ (by rw [hz0]; omega)).trans hres0
  obtain ⟨k0, k1, k2⟩ := KB2.out w1 hb1
  have hPb : 0 < D.n → ∀ a, P = some a → a.block < w1.heap.size := fun hn a ha => hd1.row.lt hn ha
  have hQb : 0 < D.m → ∀ a, Q = some a → a.block < w1.heap.size := fun hn a ha => ha1.row.lt hn ha
  have HPb := Lib.hid (And.intro hPb hQb)
  have HNr : Hid ((∀ a, P = some a → a.block ≠ w.heap.size + 1) ∧ ∀ a, Q = some a → a.block ≠ w.heap.size + 1) := ⟨fun a ha => by have := (u1 a ha).1; omega, fun a ha => by have := (u2 a ha).1; omega⟩
  have HU := Lib.hid (And.intro (u1.mono (show w.heap.size ≤ W0.heap.size by omega)) (u2.mono (show w.heap.size ≤ W0.heap.size by omega)))
  have B3 := bel_nw w1 (.cells #[.slice P D.n c', .slice Q D.m d', .slice none 0 0] 29)
  have HD3 := Lib.hid (hd1.below B3)
  have HA3 := Lib.hid (ha1.below B3)
  have HB3 : Hid (Below W0.heap.size W0 (w1.alloc (.cells #[.slice P D.n c', .slice Q D.m d', .slice none 0 0] 29))) := st hb1 B3
  have HR3 := Lib.hid ((B3.block _ (by omega)).trans HR1.out)
  have HX3 := Lib.hid (heap_alloc_new w1 (.cells #[.slice P D.n c', .slice Q D.m d', .slice none 0 0] 29))
  have HO3 := Lib.hid (OwnCT.nil (Up (w1.heap.size + 1)) (w1.alloc (.cells #[.slice P D.n c', .slice Q D.m d', .slice none 0 0] 29)) (w1.heap.size + 1) D.c)
  have HCp := Lib.hid (fun (W : World) (A : Option Addr) (k pc : Nat) (B : Option Addr) (qc : Nat) (hk : k < D.N) (hi : IntsAt W A (D.c.ln k) (D.c.x k)) (hv : ValsAt W B (D.c.vl k) (D.c.vk k) (D.c.vn k) (D.c.vd k) (D.c.vs k)) => r_CopyCellT W A B (D.c.ln k) pc (D.c.vl k) qc _ _ _ _ _ hi hv (by have := (HO.out k hk).1; omega) (by have := (HO.out k hk).2.1; omega))
  clear hd1 ha1 u1 u2 hPb hQb HR1 HE B3
  go_wp2_with fail
  clear k0 k1 k2
  have hzz : W0.heap.size ≤ w1.heap.size := hb1.size
  clear hb1
  go_loopw [4] (fun i wr => ∃ (k : Nat) (x : Value), k ≤ D.N ∧ i = .int .i64 k ∧ Hid (wr.heap[w1.heap.size]? = some (.cells #[.slice P D.n c', .slice Q D.m d', x] 29 (0, 0))) ∧ Hid (OwnCT (Up (w1.heap.size + 1)) wr (w1.heap.size + 1) x k D.c) ∧ Hid (wr.heap[w.heap.size + 1]? = some (.cells #[.slice none 0 0, .slice none 0 0, .slice none 0 0] 29 (0, 0))) ∧ Hid (DimsAt wr P D.n D.nm D.lo D.hi) ∧ Hid (AttrsAt wr Q D.m D.an D.ty) ∧ Hid (Below W0.heap.size W0 wr)) (fun i _ => D.N - (intOf i).toNat)
  case atStart => exact ⟨0, _, Nat.zero_le _, rfl, HX3.out, HO3.out, HR3.out, HD3.out, HA3.out, HB3.out⟩
  case round =>
    obtain ⟨k, x, hk, rfl, HX, HOw, HRe, HDr, HAr, HBr⟩ := hrel
    obtain ⟨m0, m1, m2⟩ := KB2.out wr HBr.out
    clear HX3 HO3 HR3 HD3 HA3 HB3
    by_cases hlt : k < D.N
    · obtain ⟨bc, oc, hCe, hbc, hcc⟩ := (HC.out.below (st B02.out HBr.out)) (by omega)
      obtain ⟨P0, pc, Q0, qc0, x0, x1, x2, x3, x4⟩ := hcc k hlt
      clear hcc
      have hsz1 : wr.heap.size > w1.heap.size := (Array.getElem?_eq_some_iff.1 HX.out).1
      have HCk : Hid (∀ W, Below wr.heap.size wr W → Calls Tryz.prog 34 #[.agg #[.slice P0 (D.c.ln k) pc, .slice Q0 (D.c.vl k) qc0]] W fun e w' => ∃ P' c' Q' d', e = .returned (.agg #[.slice P' (D.c.ln k) c', .slice Q' (D.c.vl k) d']) ∧ IntsT w' P' (D.c.ln k) (D.c.x k) ∧ ValsT w' Q' (D.c.vl k) (D.c.vk k) (D.c.vn k) (D.c.vd k) (D.c.vs k) ∧ Up W.heap.size P' ∧ Up W.heap.size Q' ∧ Below W.heap.size W w') := fun W hW => HCp.out W P0 k pc Q0 qc0 hlt (x2.below hW) (x3.below hW)
      have HKr : Hid (∀ W, Below wr.heap.size wr W → W.cell? ⟨w.heap.size, 2, none⟩ = some (.slice (some ⟨bc, oc, none⟩) D.N p.ccap) ∧ W.cell? ⟨bc, oc + k * 2, none⟩ = some (.slice P0 (D.c.ln k) pc) ∧ W.cell? ⟨bc, oc + k * 2 + 1, none⟩ = some (.slice Q0 (D.c.vl k) qc0) ∧ W.heap[w1.heap.size]? = some (.cells #[.slice P D.n c', .slice Q D.m d', x] 29 (0, 0))) := fun W hW => ⟨by rw [← hCe]; exact (KB2.out W (st HBr.out hW)).2.2, (hW.cell (p := ⟨bc, oc + k * 2, none⟩) hbc).trans x0, (hW.cell (p := ⟨bc, oc + k * 2 + 1, none⟩) hbc).trans x1, (hW.block _ hsz1).trans HX.out⟩
      rw [hCe] at m2
      clear x0 x1 x2 x3
      go_wp2_with fail
      clear m0 m1 m2
      rename_i K hK
      refine wp_region_TK (n1 := 9) (T := TL [isW (.pointer (some ⟨w1.heap.size, 2, none⟩)), isW x, isW (.pointer (some ⟨w.heap.size, 2, none⟩)), isW (.slice (some ⟨bc, oc, none⟩) D.N p.ccap), isW (.int .i64 k), isW (.pointer (some ⟨bc, oc + k * 2, none⟩)), isW (.agg #[.slice P0 (D.c.ln k) pc, .slice Q0 (D.c.vl k) qc0]), CpVT D.c k wr.heap.size, CpST D.c k wr.heap.size]) (by kernel_rfl) (by decide) (by kernel_rfl) (by kernel_rfl) ?step ?tail
      case step =>
        intro listed a W i H hi9 hilt
        have dl := H.dl (l := [some 17, some 18, some 19, some 20, some 21, some 22, some 23, some 24, some 25, some 26, some 27, none]) rfl
        have ap := apart_of dl (by decide)
        obtain ⟨q2, q3, q4, q5⟩ := HKr.out W H.below
        have hBW := H.below.size
        have mono : ∀ p' ∈ [isW (.pointer (some ⟨w1.heap.size, 2, none⟩)), isW x, isW (.pointer (some ⟨w.heap.size, 2, none⟩)), isW (.slice (some ⟨bc, oc, none⟩) D.N p.ccap), isW (.int .i64 k), isW (.pointer (some ⟨bc, oc + k * 2, none⟩)), isW (.agg #[.slice P0 (D.c.ln k) pc, .slice Q0 (D.c.vl k) qc0]), CpVT D.c k wr.heap.size, CpST D.c k wr.heap.size], Mono p' := by
          intro p' hp
          simp only [List.mem_cons, List.not_mem_nil, or_false] at hp
          rcases hp with rfl | rfl | rfl | rfl | rfl | rfl | rfl | rfl | rfl
          · exact isW_mono _
          · exact isW_mono _
          · exact isW_mono _
          · exact isW_mono _
          · exact isW_mono _
          · exact isW_mono _
          · exact isW_mono _
          · exact cpVT_mono _ _ _
          · exact cpST_mono _ _ _
        rcases (by omega : i = 0 ∨ i = 1 ∨ i = 2 ∨ i = 3 ∨ i = 4 ∨ i = 5 ∨ i = 6 ∨ i = 7 ∨ i = 8) with rfl | rfl | rfl | rfl | rfl | rfl | rfl | rfl | rfl
        · exact wpOp_of rfl (.inl rfl) (op_fA (by decide) rfl rfl (H.old 3 (old_of' dl 3 (by decide))) (H.over mono ap rfl rfl (by simp) (Below.refl _ _) rfl))
        · exact wpOp_of rfl (.inl rfl) (op_lsl (.inr (.inr (.inr (.inr rfl)))) rfl rfl (H.got' hi9 (j := 0) (t := 17) rfl (by kernel_rfl) rfl rfl) (three_at q5).1.2.2 (H.over mono ap rfl rfl (by simp) (Below.refl _ _) rfl))
        · exact wpOp_of rfl (.inl rfl) (op_fA (by decide) rfl rfl (H.old 1 (old_of' dl 1 (by decide))) (H.over mono ap rfl rfl (by simp) (Below.refl _ _) rfl))
        · exact wpOp_of rfl (.inl rfl) (op_lsl (.inr (.inr (.inr (.inr rfl)))) rfl rfl (H.got' hi9 (j := 2) (t := 19) rfl (by kernel_rfl) rfl rfl) q2 (H.over mono ap rfl rfl (by simp) (Below.refl _ _) rfl))
        · exact wpOp_of rfl (.inl rfl) (op_mv rfl rfl (H.over mono ap rfl rfl (by simp) (Below.refl _ _) (H.old 4 (old_of' dl 4 (by decide)))))
        · exact wpOp_of rfl (.inl rfl) (op_ix rfl rfl (H.got' hi9 (j := 3) (t := 20) rfl (by kernel_rfl) rfl rfl) (H.got' hi9 (j := 4) (t := 21) rfl (by kernel_rfl) rfl rfl) hlt (H.over mono ap rfl rfl (by simp) (Below.refl _ _) rfl))
        · exact wpOp_of rfl (.inl rfl) (op_ldc rfl rfl (H.got' hi9 (j := 5) (t := 22) rfl (by kernel_rfl) rfl rfl) q3 q4 (H.over mono ap rfl rfl (by simp) (Below.refl _ _) rfl))
        · refine wpOp_of rfl (.inl rfl) (op_T1 rfl rfl (H.got' hi9 (j := 6) (t := 23) rfl (by kernel_rfl) rfl rfl) (enters_of Tryz.func34 (by kernel_rfl) rfl) ((HCk.out W H.below).mono ?_))
          rintro e w1 ⟨P', c', Q', d', rfl, h1, h2, h3, h4, h5⟩
          exact ⟨_, rfl, H.over mono ap rfl rfl (by simp) h5 ⟨P', c', Q', d', rfl, ⟨h1, h3.mono hBW⟩, h2, h4.mono hBW⟩⟩
        · obtain ⟨P', c', Q', d', e1, d1, d2, d3⟩ := H.got' hi9 (j := 7) (t := 24) rfl (by kernel_rfl) rfl rfl
          exact wpOp_of rfl (.inl rfl) (op_bs1 rfl rfl e1 (H.over mono ap rfl rfl (by simp) (bel_nw W _) ⟨_, P', c', Q', d', rfl, hBW, heap_alloc_new W _, ⟨d1.1.below (bel_nw W _), d1.2⟩, d2.below (bel_nw W _), d3⟩))
      case tail =>
        intro listed a W H hall
        have e1 := H.got 1 _ 18 rfl rfl (hall 1 (by decide))
        obtain ⟨b, P', cc, Q', dd, e2, f1, f2, ⟨f3, f4⟩, f5, f6⟩ := H.got 8 _ 25 rfl rfl (hall 8 (by decide))
        have dl := H.dl (l := [some 17, some 18, some 19, some 20, some 21, some 22, some 23, some 24, some 25, some 26, some 27, none]) rfl
        have s0 := H.old 0 (old_of' dl 0 (by decide))
        have s1 := H.old 1 (old_of' dl 1 (by decide))
        have s2 := H.old 2 (old_of' dl 2 (by decide))
        have s3 := H.old 3 (old_of' dl 3 (by decide))
        have s4 := H.old 4 (old_of' dl 4 (by decide))
        have s5 := H.old 5 (old_of' dl 5 (by decide))
        have s6 := H.old 6 (old_of' dl 6 (by decide))
        have s7 := H.old 7 (old_of' dl 7 (by decide))
        have s8 := H.old 8 (old_of' dl 8 (by decide))
        have s9 := H.old 9 (old_of' dl 9 (by decide))
        have s28 := H.old 28 (old_of' dl 28 (by decide))
        obtain ⟨f, hf, rfl⟩ := actlitf 29 a (H.frame.trans (by simp)) (H.defers.trans rfl)
        rw [show List.range 29 = [0, 1, 2, 3, 4, 5, 6, 7, 8, 9, 10, 11, 12, 13, 14, 15, 16, 17, 18, 19, 20, 21, 22, 23, 24, 25, 26, 27, 28] from rfl]
        simp only [List.map_cons, List.map_nil]
        have q0 : f 0 = p.val D.n D.m D.N := (hf 0).symm.trans s0
        have q1 : f 1 = .pointer (some ⟨w.heap.size, 0, none⟩) := (hf 1).symm.trans s1
        have q2 : f 2 = .pointer (some ⟨w.heap.size + 1, 0, none⟩) := (hf 2).symm.trans s2
        have q3 : f 3 = .pointer (some ⟨w1.heap.size, 0, none⟩) := (hf 3).symm.trans s3
        have q4 : f 4 = .int .i64 k := (hf 4).symm.trans s4
        have q5 : f 5 = .pointer (some ⟨w.heap.size, 0, none⟩) := (hf 5).symm.trans s5
        have q6 : f 6 = .slice p.A D.n p.cap := (hf 6).symm.trans s6
        have q7 : f 7 = .pointer (some ⟨w.heap.size, 1, none⟩) := (hf 7).symm.trans s7
        have q8 : f 8 = .slice p.B D.m p.bcap := (hf 8).symm.trans s8
        have q9 : f 9 = ArrV P D.n c' Q D.m d' none 0 0 := (hf 9).symm.trans s9
        have q28 : f 28 = undef := (hf 28).symm.trans s28
        have q18 : f 18 = x := (hf 18).symm.trans e1
        have q25 : f 25 = .slice (some ⟨b, 0, none⟩) 1 1 := (hf 25).symm.trans e2
        rw [q0, q1, q2, q3, q4, q5, q6, q7, q8, q9, q18, q25, q28]
        have hb0 := H.below
        have hoW := HOw.out.below hb0
        have hxb : ∀ g, x.ownBlock = some g → g < wr.heap.size := fun g hg => (HOw.out.block hg).2
        clear e1 e2 s0 s1 s2 s3 s4 s5 s6 s7 s8 s9 s28 q5 q6 q7 q8 q9 q28 q0 q1 q2 q3 q4 q18 q25 hf dl hall H
        refine wpList_appCT rfl (.tmp 18) (.tmp 25) rfl W (Up (w1.heap.size + 1)) (w1.heap.size + 1) x k D.c rfl b rfl P' Q' cc dd f2 f3 f5 ⟨f4.mono (by omega), f6.mono (by omega)⟩ ⟨fun _ => f4.own hxb (Nat.le_refl _), fun _ => f6.own hxb (Nat.le_refl _)⟩ hoW (by omega) (by have := hb0.size; omega) ?_
        intro v' w2 hown hgr hat
        obtain ⟨A', cp', hv', -⟩ := hown.row
        subst hv'
        have hob : w1.heap.size < W.heap.size := by have := hb0.size; omega
        have hnb : some w1.heap.size ≠ x.ownBlock := fun e => by have := (HOw.out.block e.symm).1; omega
        have hnr : some (w.heap.size + 1) ≠ x.ownBlock := fun e => by have := (HOw.out.block e.symm).1; omega
        have hx2 : w2.heap[w1.heap.size]? = some (.cells #[.slice P D.n c', .slice Q D.m d', x] 29 (0, 0)) := (hgr.block _ hob hnb).trans ((hb0.block _ hsz1).trans HX.out)
        have gr : w2.grownBy (w2.setCell ⟨w1.heap.size, 2, none⟩ (.slice A' (k + 1) cp')) (some w1.heap.size) := grown_set _ _ _ _
        have HX2 : Hid ((w2.setCell ⟨w1.heap.size, 2, none⟩ (.slice A' (k + 1) cp')).heap[w1.heap.size]? = some (.cells #[.slice P D.n c', .slice Q D.m d', .slice A' (k + 1) cp'] 29 (0, 0))) := by
          show _ = _
          simp [World.setCell, Array.getElem?_modify, hx2]
        have HO2 := Lib.hid (hown.set gr (Nat.lt_succ_self _) (fun A hA a ha => by have := (hA a ha).1; omega))
        have HR2 : Hid ((w2.setCell ⟨w1.heap.size, 2, none⟩ (.slice A' (k + 1) cp')).heap[w.heap.size + 1]? = some (.cells #[.slice none 0 0, .slice none 0 0, .slice none 0 0] 29 (0, 0))) := (gr.block _ (by have := hgr.size; omega) (fun e => by injection e with e; omega)).trans ((hgr.block _ (by omega) hnr).trans ((hb0.block _ (by omega)).trans HRe.out))
        have how : ∀ (A : Option Addr) (z : Nat) (m : Nat) (g : Nat → Nat → Value), RowAt wr A m z g → (0 < m → ∀ a, A = some a → a.block < w1.heap.size) → RowAt (w2.setCell ⟨w1.heap.size, 2, none⟩ (.slice A' (k + 1) cp')) A m z g := fun A z m g hr h1 =>
          (((hr.below hb0).grownO hgr (fun hm a ha e => by have := (HOw.out.block e).1; have := h1 hm a ha; omega)).grown gr (fun hm a ha => Nat.ne_of_lt (h1 hm a ha)))
        have HD2 := Lib.hid (how _ _ _ _ HDr.out.row HPb.out.1).dims
        have HA2 := Lib.hid (how _ _ _ _ HAr.out.row HPb.out.2).attrs
        have HB2 : Hid (Below W0.heap.size W0 (w2.setCell ⟨w1.heap.size, 2, none⟩ (.slice A' (k + 1) cp'))) := ((st HBr.out hb0).grown hgr (by have := HBr.out.size; have := hb0.size; omega) (fun g hg => by have := (HOw.out.block hg).1; omega)).setCell (p := ⟨w1.heap.size, 2, none⟩) (by show W0.heap.size ≤ w1.heap.size; omega) _
        have y2 := (three_at hx2).1.2.2
        have y3 := (three_at hx2).2.2.2
        clear how gr hx2 hnb hnr hat hgr hown f1 f2 f3 f4 f5 f6 hoW hxb hb0
        go_wp2
        go_roundw
        case rel => exact ⟨k + 1, _, by omega, by go_num, HX2.out, HO2.out, HR2.out, HD2.out, HA2.out, HB2.out⟩
        case measure => simp [intOf]; omega
    · obtain rfl : k = D.N := by omega
      obtain ⟨A', cp', hv', hce⟩ := HOw.out.up (Nat.le_refl _) HO.out
      subst hv'
      have HCE := Lib.hid hce
      obtain ⟨⟨y0, y1, y2⟩, -⟩ := three_at HX.out
      obtain ⟨⟨r0, r1, r2⟩, z0, z1, z2⟩ := three_at HRe.out
      clear hce
      go_wp2
      refine bodyPost_ret (v := ArrV P D.n c' Q D.m d' A' D.N cp') (res_cell Tryz.results9 _ _ (w.heap.size + 1) 29 _ (0, 0) _ rfl (three_set HRe.out _ _ _) Tryz.underlying29 rfl (by rw [info_arr]; rfl)) rfl ?_
      have gr : wr.grownBy (((wr.setCell ⟨w.heap.size + 1, 0, none⟩ (.slice P D.n c')).setCell ⟨w.heap.size + 1, 1, none⟩ (.slice Q D.m d')).setCell ⟨w.heap.size + 1, 2, none⟩ (.slice A' D.N cp')) (some (w.heap.size + 1)) := gr2 (gr2 (grown_set _ _ _ _) (grown_set _ _ _ _)) (grown_set _ _ _ _)
      refine ⟨⟨P, c', Q, d', A', cp'⟩, rfl, ⟨(HDr.out.row.grown gr (fun hn => ?_)).dims, (HAr.out.row.grown gr (fun hn => ?_)).attrs, (HCE.out.grown gr (by omega)).up.mono (by omega), HU.out.1, HU.out.2⟩, (HCE.out.grown gr (by omega)).mono (by omega), ?_⟩
      · exact HNr.out.1
      · exact HNr.out.2
      · exact (((st B02.out HBr.out).setCell (p := ⟨w.heap.size + 1, 0, none⟩) (by show w.heap.size ≤ w.heap.size + 1; omega) _).setCell (p := ⟨w.heap.size + 1, 1, none⟩) (by show w.heap.size ≤ w.heap.size + 1; omega) _).setCell (p := ⟨w.heap.size + 1, 2, none⟩) (by show w.heap.size ≤ w.heap.size + 1; omega) _
end Go.Proofs.YtogmbehomilalaaGreatDoor
end

/- Cells of the law's own that are written to: what stays of them. -/
section
namespace Go.Proofs.YtogmbehomilalaaGreatDoor
open Go Go.RowKit Go.Deep

/-- l integers, whatever they are, at the head of a block from B on. -/
def IntsK (W : World) (B H : Nat) (P : Option Addr) (l : Nat) : Prop := 0 < l → ∃ b cs, P = some ⟨b, 0, none⟩ ∧ B ≤ b ∧ b < H ∧ W.heap[b]? = some (.cells cs 3 (0, 0)) ∧ ∀ j, j < l → ∃ x, cs[j]? = some (.int .i64 x)
/-- m values, whatever they are. -/
def ValsK (W : World) (B H : Nat) (Q : Option Addr) (m : Nat) : Prop := 0 < m → ∃ b cs, Q = some ⟨b, 0, none⟩ ∧ B ≤ b ∧ b < H ∧ W.heap[b]? = some (.cells cs 40 (0, 0)) ∧ ∀ j, j < m → ∃ x y z s, cs[j * 4]? = some (.int .i64 x) ∧ cs[j * 4 + 1]? = some (.int .i64 y) ∧ cs[j * 4 + 2]? = some (.int .i64 z) ∧ cs[j * 4 + 3]? = some (.string s)
/-- N cells in block b: their slices, and what these hold. -/
def MineK (W : World) (B H b N : Nat) (ln vl : Nat → Nat) : Prop := ∃ cs, W.heap[b]? = some (.cells cs 38 (0, 0)) ∧ ∀ k, k < N → ∃ P pc Q qc, cs[k * 2]? = some (.slice P (ln k) pc) ∧ cs[k * 2 + 1]? = some (.slice Q (vl k) qc) ∧ IntsK W B H P (ln k) ∧ ValsK W B H Q (vl k)
theorem cell_cs {W : World} {b j : Nat} {cs : Array Value} {t : TypeId} {f : Nat × Nat} (h : W.heap[b]? = some (.cells cs t f)) : W.cell? ⟨b, j, none⟩ = cs[j]? := by simp [World.cell?, h]
theorem IntsT.mine {W : World} {B l : Nat} {P : Option Addr} {x : Nat → Int} (h : IntsT W P l x) (hu : Up B P) : IntsK W B W.heap.size P l := fun hl => by
  obtain ⟨b, cs, h1, h2⟩ := h.2 hl
  obtain ⟨b', o, e1, _, e3⟩ := h.1 hl
  rw [h1] at e1
  injection e1 with e1
  injection e1 with e4 e5 _
  subst e4 e5
  refine ⟨b, cs, h1, (hu _ h1).1, (Array.getElem?_eq_some_iff.1 h2).1, h2, fun j hj => ⟨x j, ?_⟩⟩
  have := e3 j hj
  rwa [Nat.zero_add, cell_cs h2] at this
theorem ValsT.mine {W : World} {B m : Nat} {Q : Option Addr} {vk vn vd : Nat → Int} {vs : Nat → ByteArray} (h : ValsT W Q m vk vn vd vs) (hu : Up B Q) : ValsK W B W.heap.size Q m := fun hl => by
  obtain ⟨b, cs, h1, h2⟩ := h.2 hl
  obtain ⟨b', o, e1, _, e3⟩ := h.1 hl
  rw [h1] at e1
  injection e1 with e1
  injection e1 with e4 e5 _
  subst e4 e5
  refine ⟨b, cs, h1, (hu _ h1).1, (Array.getElem?_eq_some_iff.1 h2).1, h2, fun j hj => ⟨vk j, vn j, vd j, vs j, ?_⟩⟩
  obtain ⟨a0, a1, a2, a3⟩ := e3 j hj
  rw [Nat.zero_add, cell_cs h2] at a0 a1 a2 a3
  exact ⟨a0, a1, a2, a3⟩
theorem CeUpT.mine {w : World} {B N : Nat} {C : Option Addr} {c : CeD} (h : CeUpT w B C N c) (hN : 0 < N) : ∃ b, C = some ⟨b, 0, none⟩ ∧ B ≤ b ∧ MineK w B w.heap.size b N c.ln c.vl := by
  obtain ⟨b, cs, h1, h2, h3, h4⟩ := h hN
  refine ⟨b, h1, h2, cs, h3, fun k hk => ?_⟩
  obtain ⟨P, pc, Q, qc, a1, a2, a3, a4, _, a6, a7⟩ := h4 k hk
  rw [cell_cs h3] at a1 a2
  exact ⟨P, pc, Q, qc, a1, a2, a3.mine a6, a4.mine a7⟩
theorem set_heap {W : World} {b j : Nat} {v : Value} {cs : Array Value} {t : TypeId} {f : Nat × Nat} (h : W.heap[b]? = some (.cells cs t f)) : (W.setCell ⟨b, j, none⟩ v).heap[b]? = some (.cells (cs.set! j v) t f) := by
  simp [World.setCell, Array.getElem?_modify, h]
theorem set_other {W : World} {b j b' : Nat} {v : Value} (h : b' ≠ b) : (W.setCell ⟨b, j, none⟩ v).heap[b']? = W.heap[b']? := by
  simp [World.setCell, Array.getElem?_modify, h.symm]
theorem get_set {cs : Array Value} {j k : Nat} {v u : Value} (h : cs[k]? = some u) : (cs.set! j v)[k]? = some (if j = k then v else u) := by
  have hk : k < cs.size := (Array.getElem?_eq_some_iff.1 h).1
  rw [Array.set!_eq_setIfInBounds, Array.getElem?_setIfInBounds]
  by_cases e : j = k
  · subst e
    rw [if_pos rfl, if_pos rfl, if_pos hk]
  · rw [if_neg e, if_neg e, h]
/-- An integer written into a block of integers. -/
theorem MineK.int {W : World} {B H b N b' j : Nat} {ln vl : Nat → Nat} {cs : Array Value} (h : MineK W B H b N ln vl) (hb : W.heap[b']? = some (.cells cs 3 (0, 0))) (x : Int) : MineK (W.setCell ⟨b', j, none⟩ (.int .i64 x)) B H b N ln vl := by
  obtain ⟨c0, h1, h2⟩ := h
  have hne : b ≠ b' := fun e => by
    rw [e, hb] at h1
    injection h1 with h1
    injection h1 with _ h1 _
    exact absurd h1 (by decide)
  refine ⟨c0, (set_other hne).trans h1, fun k hk => ?_⟩
  obtain ⟨P, pc, Q, qc, a1, a2, a3, a4⟩ := h2 k hk
  refine ⟨P, pc, Q, qc, a1, a2, fun hl => ?_, fun hl => ?_⟩
  · obtain ⟨d, ds, d1, d2, d5, d3, d4⟩ := a3 hl
    by_cases e : d = b'
    · subst e
      refine ⟨d, _, d1, d2, d5, set_heap d3, fun t ht => ?_⟩
      obtain ⟨y, hy⟩ := d4 t ht
      refine ⟨if j = t then x else y, ?_⟩
      rw [get_set hy]
      split <;> rfl
    · exact ⟨d, ds, d1, d2, d5, (set_other e).trans d3, d4⟩
  · obtain ⟨d, ds, d1, d2, d5, d3, d4⟩ := a4 hl
    have e : d ≠ b' := fun e => by
      rw [e, hb] at d3
      injection d3 with d3
      injection d3 with _ d3 _
      exact absurd d3 (by decide)
    exact ⟨d, ds, d1, d2, d5, (set_other e).trans d3, d4⟩
/-- A part of a value written into a block of values. -/
theorem MineK.val {W : World} {B H b N b' j r : Nat} {ln vl : Nat → Nat} {cs : Array Value} {v : Value} (h : MineK W B H b N ln vl) (hb : W.heap[b']? = some (.cells cs 40 (0, 0))) (hv : r < 3 ∧ (∃ x, v = .int .i64 x) ∨ r = 3 ∧ ∃ s, v = .string s) : MineK (W.setCell ⟨b', j * 4 + r, none⟩ v) B H b N ln vl := by
  obtain ⟨c0, h1, h2⟩ := h
  have hne : b ≠ b' := fun e => by
    rw [e, hb] at h1
    injection h1 with h1
    injection h1 with _ h1 _
    exact absurd h1 (by decide)
  refine ⟨c0, (set_other hne).trans h1, fun k hk => ?_⟩
  obtain ⟨P, pc, Q, qc, a1, a2, a3, a4⟩ := h2 k hk
  refine ⟨P, pc, Q, qc, a1, a2, fun hl => ?_, fun hl => ?_⟩
  · obtain ⟨d, ds, d1, d2, d5, d3, d4⟩ := a3 hl
    have e : d ≠ b' := fun e => by
      rw [e, hb] at d3
      injection d3 with d3
      injection d3 with _ d3 _
      exact absurd d3 (by decide)
    exact ⟨d, ds, d1, d2, d5, (set_other e).trans d3, d4⟩
  · obtain ⟨d, ds, d1, d2, d5, d3, d4⟩ := a4 hl
    by_cases e : d = b'
    · subst e
      refine ⟨d, _, d1, d2, d5, set_heap d3, fun t ht => ?_⟩
      obtain ⟨x, y, z, s, y0, y1, y2, y3⟩ := d4 t ht
      have int : ∀ i u, i < 3 → ds[t * 4 + i]? = some (.int .i64 u) → ∃ u', (ds.set! (j * 4 + r) v)[t * 4 + i]? = some (.int .i64 u') := fun i u hi hu => by
        rw [get_set hu]
        by_cases e : j * 4 + r = t * 4 + i
        · rw [if_pos e]
          rcases hv with ⟨_, q, rfl⟩ | ⟨h3, _⟩
          · exact ⟨q, rfl⟩
          · omega
        · rw [if_neg e]
          exact ⟨u, rfl⟩
      obtain ⟨x', hx'⟩ := int 0 x (by omega) y0
      obtain ⟨y', hy'⟩ := int 1 y (by omega) y1
      obtain ⟨z', hz'⟩ := int 2 z (by omega) y2
      have hs : ∃ s', (ds.set! (j * 4 + r) v)[t * 4 + 3]? = some (.string s') := by
        rw [get_set y3]
        by_cases e : j * 4 + r = t * 4 + 3
        · rw [if_pos e]
          rcases hv with ⟨h3, _⟩ | ⟨_, q, rfl⟩
          · omega
          · exact ⟨q, rfl⟩
        · rw [if_neg e]
          exact ⟨s, rfl⟩
      obtain ⟨s', hs'⟩ := hs
      exact ⟨x', y', z', s', hx', hy', hz', hs'⟩
    · exact ⟨d, ds, d1, d2, d5, (set_other e).trans d3, d4⟩
end Go.Proofs.YtogmbehomilalaaGreatDoor
end

/- What Make returns, in one form: an array that lies somewhere, or an empty one. -/
section
namespace Go.Proofs.YtogmbehomilalaaGreatDoor
open Go Go.RowKit Go.Deep

def nilD : ArD := ⟨0, fun _ => ⟨#[]⟩, fun _ => 0, fun _ => 0, 0, fun _ => ⟨#[]⟩, fun _ => 0, 0, ⟨fun _ => 0, fun _ => 0, fun _ _ => 0, fun _ _ => 0, fun _ _ => 0, fun _ _ => 0, fun _ _ => ⟨#[]⟩⟩⟩
theorem nil_up (w : World) (B : Nat) : ArUp w B ⟨none, 0, none, 0, none, 0⟩ nilD := ⟨fun h => absurd h (Nat.lt_irrefl 0), fun h => absurd h (Nat.lt_irrefl 0), fun h => absurd h (Nat.lt_irrefl 0), fun _ h => by (cases h), fun _ h => by (cases h)⟩
theorem nil_ok : ArOk nilD := ⟨Nat.zero_le _, Nat.zero_le _, Nat.zero_le _, fun _ h => absurd h (Nat.not_lt_zero _), fun _ h => absurd h (Nat.not_lt_zero _), fun _ h => absurd h (Nat.not_lt_zero _)⟩
/-- The array that Make returns: D, or an empty one. -/
def orNil (E : Int) (D D' : ArD) : Prop := E ≠ 0 ∧ D' = nilD ∨ E = 0 ∧ D' = D
theorem MkR.arr {w w' : World} {D : ArD} {E : Int} {e : Ending} (h : MkR w D E e w') : ∃ p D', e = .returned (.tuple #[p.val D'.n D'.m D'.N, .int .i64 E]) ∧ ArUp w' w.heap.size p D' ∧ orNil E D D' := by
  rcases h with ⟨h1, rfl⟩ | ⟨rfl, p, rfl, h2⟩
  · exact ⟨_, nilD, rfl, nil_up _ _, .inl ⟨h1, rfl⟩⟩
  · exact ⟨p, D, rfl, h2, .inr ⟨rfl, rfl⟩⟩
theorem orNil.ok {E : Int} {D D' : ArD} (h : orNil E D D') (ho : E = 0 → ArOk D) : ArOk D' := by
  rcases h with ⟨_, rfl⟩ | ⟨h1, rfl⟩
  · exact nil_ok
  · exact ho h1
/-- Two results of Make are equal, where their arrays are. -/
theorem orNil.eq {E F : Int} {D G D' G' : ArD} (h : orNil E D D') (k : orNil F G G') (hz : E = 0 ↔ F = 0) (he : E = 0 → eqAr D G = true) : eqAr D' G' = true := by
  rcases h with ⟨h1, rfl⟩ | ⟨h1, rfl⟩ <;> rcases k with ⟨k1, rfl⟩ | ⟨k1, rfl⟩
  · exact eqAr_refl _
  · exact absurd (hz.2 k1) h1
  · exact absurd (hz.1 h1) k1
  · exact he h1
/-- The cells in the order of Make, and of the reference's. -/
theorem eq_orders (D : ArD) (c : CeD) (r s : Nat → Nat) (h : ∀ j, j < D.N → r j = s j) : eqAr ⟨D.n, D.nm, D.lo, D.hi, D.m, D.an, D.ty, D.N, c.re r⟩ ⟨D.n, D.nm, D.lo, D.hi, D.m, D.an, D.ty, D.N, c.re s⟩ = true := eqAr_re D _ _ fun k hk => by
  have e := h k hk
  simp only [CeD.re, e]
  exact ⟨trivial, trivial, trivial, trivial, trivial, trivial, trivial⟩
theorem eq_turn (D : ArD) (c : CeD) (r s : Nat → Nat) (h : ∀ j, j < D.N → D.N - 1 - s j = r j) : eqAr ⟨D.n, D.nm, D.lo, D.hi, D.m, D.an, D.ty, D.N, c.re r⟩ ⟨D.n, D.nm, D.lo, D.hi, D.m, D.an, D.ty, D.N, (c.turn D.N).re s⟩ = true := eqAr_re D _ _ fun k hk => by
  have e := h k hk
  simp only [CeD.re, CeD.turn, e]
  exact ⟨trivial, trivial, trivial, trivial, trivial, trivial, trivial⟩
theorem ok_re {D : ArD} (h : ArOk D) (r : Nat → Nat) (hr : ∀ j, j < D.N → r j < D.N) : ArOk ⟨D.n, D.nm, D.lo, D.hi, D.m, D.an, D.ty, D.N, D.c.re r⟩ := ⟨h.n1, h.m1, h.N1, h.nmS, h.anS, fun k hk => h.cS (r k) (hr k hk)⟩
end Go.Proofs.YtogmbehomilalaaGreatDoor
end

/- What stays while the law writes into its own cells. -/
section
namespace Go.Proofs.YtogmbehomilalaaGreatDoor
open Go Go.RowKit Go.Deep

theorem CeUp.below {W W' : World} {B N : Nat} {C : Option Addr} {c : CeD} (h : CeUp W B C N c) (hb : Below W.heap.size W W') : CeUp W' B C N c := fun hN => by
  obtain ⟨d, o, h1, h2, h3, h4⟩ := h hN
  have hbl := hb.block d h3
  refine ⟨d, o, h1, h2, Nat.lt_of_lt_of_le h3 hb.size, fun k hk => ?_⟩
  obtain ⟨P, pc, Q, qc, a1, a2, a3, a4, a5, a6, a7⟩ := h4 k hk
  exact ⟨P, pc, Q, qc, by rw [cell_blk hbl]; exact a1, by rw [cell_blk hbl]; exact a2, a3.below hb, a4.below hb, a5, a6, a7⟩
theorem ArUp.below {W W' : World} {B : Nat} {p : ArP} {D : ArD} (h : ArUp W B p D) (hb : Below W.heap.size W W') : ArUp W' B p D := ⟨h.dims.below hb, h.attrs.below hb, h.cells.below hb, h.upA, h.upB⟩
theorem IntsK.below {W W' : World} {B H l : Nat} {P : Option Addr} (h : IntsK W B H P l) (hb : Below W.heap.size W W') : IntsK W' B H P l := fun hl => by
  obtain ⟨b, cs, h1, h2, h3, h4, h5⟩ := h hl
  exact ⟨b, cs, h1, h2, h3, (hb.block b (Array.getElem?_eq_some_iff.1 h4).1).trans h4, h5⟩
theorem ValsK.below {W W' : World} {B H l : Nat} {P : Option Addr} (h : ValsK W B H P l) (hb : Below W.heap.size W W') : ValsK W' B H P l := fun hl => by
  obtain ⟨b, cs, h1, h2, h3, h4, h5⟩ := h hl
  exact ⟨b, cs, h1, h2, h3, (hb.block b (Array.getElem?_eq_some_iff.1 h4).1).trans h4, h5⟩
theorem MineK.below {W W' : World} {B H b N : Nat} {ln vl : Nat → Nat} (h : MineK W B H b N ln vl) (hb : Below W.heap.size W W') : MineK W' B H b N ln vl := by
  obtain ⟨cs, h1, h2⟩ := h
  refine ⟨cs, (hb.block b (Array.getElem?_eq_some_iff.1 h1).1).trans h1, fun k hk => ?_⟩
  obtain ⟨P, pc, Q, qc, a1, a2, a3, a4⟩ := h2 k hk
  exact ⟨P, pc, Q, qc, a1, a2, a3.below hb, a4.below hb⟩
theorem apart_u {W : World} {b b' : Nat} {cs cs' : Array Value} {t t' : TypeId} (h : W.heap[b]? = some (.cells cs t (0, 0))) (h' : W.heap[b']? = some (.cells cs' t' (0, 0))) (ht : t ≠ t') : b ≠ b' := fun e => by
  rw [e, h'] at h
  injection h with h
  injection h with _ h2
  exact ht h2.symm
/-- The world w0 below; an array from block G on; rows o and q of two blocks; cells of the law's own in [w0, H). -/
structure Keep (w0 : World) (H : Nat) (r : Nat) (o : Obj) (s : Nat) (q : Obj) (G : Nat) (p : ArP) (D : ArD) (C : Option Addr) (N : Nat) (ln vl : Nat → Nat) (W : World) : Prop where
  bel : Below w0.heap.size w0 W
  up : ArUp W G p D
  row : W.heap[r]? = some o
  row2 : W.heap[s]? = some q
  mine : 0 < N → ∃ b, C = some ⟨b, 0, none⟩ ∧ MineK W w0.heap.size H b N ln vl
  hr : H ≤ r
  hs : H ≤ s
  hG : H ≤ G
section
variable {w0 W : World} {H r s G N : Nat} {o q : Obj} {p : ArP} {D : ArD} {C : Option Addr} {ln vl : Nat → Nat}
theorem Keep.put (h : Keep w0 H r o s q G p D C N ln vl W) {b j : Nat} {v : Value} (h1 : w0.heap.size ≤ b) (h2 : b < H) (hm : 0 < N → ∃ b', C = some ⟨b', 0, none⟩ ∧ MineK (W.setCell ⟨b, j, none⟩ v) w0.heap.size H b' N ln vl) : Keep w0 H r o s q G p D C N ln vl (W.setCell ⟨b, j, none⟩ v) := by
  have g : W.grownBy (W.setCell ⟨b, j, none⟩ v) (some b) := grown_set _ _ _ _
  have := h.hr
  have := h.hs
  have := h.hG
  exact ⟨h.bel.grown g h.bel.size (fun a ha => by injection ha with ha; omega), h.up.grown g (by omega), (set_other (by omega)).trans h.row, (set_other (by omega)).trans h.row2, hm, h.hr, h.hs, h.hG⟩
theorem Keep.int (h : Keep w0 H r o s q G p D C N ln vl W) {b j : Nat} {cs : Array Value} (h1 : w0.heap.size ≤ b) (h2 : b < H) (hb : W.heap[b]? = some (.cells cs 3 (0, 0))) (x : Int) : Keep w0 H r o s q G p D C N ln vl (W.setCell ⟨b, j, none⟩ (.int .i64 x)) :=
  h.put h1 h2 fun hN => by
    obtain ⟨b', e, hm⟩ := h.mine hN
    exact ⟨b', e, hm.int hb x⟩
theorem Keep.val (h : Keep w0 H r o s q G p D C N ln vl W) {b j t : Nat} {cs : Array Value} {v : Value} (h1 : w0.heap.size ≤ b) (h2 : b < H) (hb : W.heap[b]? = some (.cells cs 40 (0, 0))) (hv : t < 3 ∧ (∃ x, v = .int .i64 x) ∨ t = 3 ∧ ∃ s, v = .string s) : Keep w0 H r o s q G p D C N ln vl (W.setCell ⟨b, j * 4 + t, none⟩ v) :=
  h.put h1 h2 fun hN => by
    obtain ⟨b', e, hm⟩ := h.mine hN
    exact ⟨b', e, hm.val hb hv⟩
/-- The slices of cell k. -/
theorem Keep.cel (h : Keep w0 H r o s q G p D C N ln vl W) {k : Nat} (hk : k < N) : ∃ b P pc Q qc, C = some ⟨b, 0, none⟩ ∧ W.cell? ⟨b, k * 2, none⟩ = some (.slice P (ln k) pc) ∧ W.cell? ⟨b, k * 2 + 1, none⟩ = some (.slice Q (vl k) qc) ∧ IntsK W w0.heap.size H P (ln k) ∧ ValsK W w0.heap.size H Q (vl k) ∧ ∃ cb, W.heap[b]? = some (.cells cb 38 (0, 0)) := by
  obtain ⟨b, e, cs, h1, h2⟩ := h.mine (by omega)
  obtain ⟨P, pc, Q, qc, a1, a2, a3, a4⟩ := h2 k hk
  exact ⟨b, P, pc, Q, qc, e, by rwa [cell_cs h1], by rwa [cell_cs h1], a3, a4, cs, h1⟩
/-- What is read of cell k, from the box of its array on. -/
theorem Keep.at3 {x y : Value} {cc : Nat} (h : Keep w0 H r (.cells #[x, y, .slice C N cc] 29 (0, 0)) s q G p D C N ln vl W) {k : Nat} (hk : k < N) : ∃ b P pc Q qc, W.cell? ⟨r, 2, none⟩ = some (.slice (some ⟨b, 0, none⟩) N cc) ∧ W.cell? ⟨b, k * 2, none⟩ = some (.slice P (ln k) pc) ∧ W.cell? ⟨b, k * 2 + 1, none⟩ = some (.slice Q (vl k) qc) ∧ IntsK W w0.heap.size H P (ln k) ∧ ValsK W w0.heap.size H Q (vl k) ∧ ∃ cb, W.heap[b]? = some (.cells cb 38 (0, 0)) := by
  obtain ⟨b, P, pc, Q, qc, e, a1, a2, a3, a4, a5⟩ := h.cel hk
  have h9 := (three_at h.row).1.2.2
  rw [e] at h9
  exact ⟨b, P, pc, Q, qc, h9, a1, a2, a3, a4, a5⟩
theorem Keep.below {W' : World} (h : Keep w0 H r o s q G p D C N ln vl W) (hb : Below W.heap.size W W') : Keep w0 H r o s q G p D C N ln vl W' :=
  ⟨h.bel.trans (hb.mono h.bel.size), h.up.below hb, (hb.block _ (Array.getElem?_eq_some_iff.1 h.row).1).trans h.row, (hb.block _ (Array.getElem?_eq_some_iff.1 h.row2).1).trans h.row2, fun hN => by
    obtain ⟨b, e, hm⟩ := h.mine hN
    exact ⟨b, e, hm.below hb⟩, h.hr, h.hs, h.hG⟩
theorem Keep.drew (h : Keep w0 H r o s q G p D C N ln vl W) : Keep w0 H r o s q G p D C N ln vl W.drew :=
  have hb : Below W.heap.size W W.drew := (Below.refl _ _).drew
  ⟨h.bel.drew, h.up.below hb, h.row, h.row2, fun hN => by
    obtain ⟨b, e, hm⟩ := h.mine hN
    exact ⟨b, e, hm.below hb⟩, h.hr, h.hs, h.hG⟩
theorem row_frz {W : World} {b j : Nat} {cs : Array Value} {t : TypeId} (h : W.heap[b]? = some (.cells cs t (0, 0))) : W.frozen? ⟨b, j, none⟩ = false := by simp [World.frozen?, h]
end
end Go.Proofs.YtogmbehomilalaaGreatDoor
end

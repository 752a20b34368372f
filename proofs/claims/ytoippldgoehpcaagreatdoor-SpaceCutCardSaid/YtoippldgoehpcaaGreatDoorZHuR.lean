/- The least box with all cells: the reference. -/
import Derived.Test.YtoippldgoehpcaaGreatDoorZOpY
namespace Go.Proofs.YtoippldgoehpcaaGreatDoor
open Go Go.RowKit Go.Deep

theorem slot_self (a : Act) {d : Nat} (v : Value) (h : d < a.tmps.size) : slot (putSlot a d v) d = v := by
  show (a.tmps.setIfInBounds d v)[d]?.getD undef = v
  rw [Array.getElem?_setIfInBounds_self_of_lt h]
  rfl
set_option maxRecDepth 100000 in
set_option maxHeartbeats 8000000 in
theorem r_Hull (w : World) (p : ArP) (D : ArD) (ha : ArAt w p D) (ho : ArOk D) :
    Calls Tryz.prog 40 #[p.val D.n D.m D.N] w fun e w' => HullR D e w' ∧ Below w.heap.size w w' := by
  have HCk : Hid (∀ W, Below w.heap.size w W → Calls Tryz.prog 18 #[p.val D.n D.m D.N] W fun e w' => e = .returned (.int .i64 D.check) ∧ Below W.heap.size W w') := fun W hW => ar_Check W p D (ha.below hW) ho
  have HY : Hid (D.check = 0 → 0 < D.N → ∀ W P Q c d, IntsAt W P D.n (hLo D.c.x D.N) → IntsAt W Q D.n (hHi D.c.x D.N) → HullR D (.returned (.tuple #[BoxW P Q D.n c D.n d, .bool true])) W) := fun h1 h2 W P Q c d g1 g2 => by
    have e : hullB D = true := by unfold hullB; rw [h1]; simp [h2]
    exact ⟨P, Q, D.n, c, d, by rw [e], by rw [if_pos e], g1, g2⟩
  have HN : Hid (D.check ≠ 0 ∨ D.N = 0 → ∀ W, HullR D (.returned (.tuple #[BoxW none none 0 0 0 0, .bool false])) W) := fun h W => by
    have e : hullB D = false := by
      unfold hullB
      rcases h with h | h
      · rw [beq_eq_false_iff_ne.2 h]; rfl
      · rw [h]; simp
    exact ⟨none, none, 0, 0, 0, by rw [e], by rw [if_neg (by rw [e]; decide)], fun h => absurd h (Nat.lt_irrefl 0), fun h => absurd h (Nat.lt_irrefl 0)⟩
  have HLn : Hid (D.check = 0 → (1 ≤ D.n ∧ D.n ≤ 4) ∧ ∀ k, k < D.N → D.c.ln k = D.n) := fun h => ⟨check_n h, fun k hk => check_ln h hk⟩
  have HCe := Lib.hid ha.cells
  have hN := ho.N1
  clear ha ho
  generalize HullR D = R at *
  generalize D.check = ck at *
  generalize D.c = cc at *
  have HT1 := Lib.hid (arr_box w (.slice p.A D.n p.cap) (.slice p.B D.m p.bcap) (.slice p.C D.N p.ccap) 26)
  have HR0 := Lib.hid (heap_alloc_new (w.alloc (p.obj D.n D.m D.N)) (.cells #[.slice none 0 0, .slice none 0 0] 66))
  have hz1 : (w.alloc (p.obj D.n D.m D.N)).heap.size = w.heap.size + 1 := by simp
  have hz2 : ((w.alloc (p.obj D.n D.m D.N)).alloc (.cells #[.slice none 0 0, .slice none 0 0] 66)).heap.size = w.heap.size + 2 := by simp
  have HB0 : Hid (Below w.heap.size w ((w.alloc (p.obj D.n D.m D.N)).alloc (.cells #[.slice none 0 0, .slice none 0 0] 66))) := ((Below.refl _ _).alloc (Nat.le_refl _) _).alloc (by simp) _
  have HT : Hid (∀ W, Below (w.heap.size + 2) ((w.alloc (p.obj D.n D.m D.N)).alloc (.cells #[.slice none 0 0, .slice none 0 0] 66)) W → (W.cell? ⟨w.heap.size, 0, none⟩ = some (.slice p.A D.n p.cap) ∧ W.cell? ⟨w.heap.size, 1, none⟩ = some (.slice p.B D.m p.bcap) ∧ W.cell? ⟨w.heap.size, 2, none⟩ = some (.slice p.C D.N p.ccap)) ∧ W.heap[w.heap.size + 1]? = some (.cells #[.slice none 0 0, .slice none 0 0] 66 (0, 0))) := fun W hW => by
    have h3 := hW
    rw [← hz2] at h3
    have h4 := HR0.out
    rw [hz1] at h4
    exact ⟨HT1.out W (st (bel_nw _ _) h3), (h3.block _ (by rw [hz2]; omega)).trans h4⟩
  clear HT1 hz1 HR0
  obtain ⟨⟨m0, m1, m2⟩, hres⟩ := HT.out _ (Below.refl _ _)
  go_enter Tryz.func40, Tryz.ntmps40
  go_wp2_with fail
  clear m0 m1 m2 hres
  generalize hW0 : (w.alloc (.cells #[.slice p.A D.n p.cap, .slice p.B D.m p.bcap, .slice p.C D.N p.ccap] 26)).alloc (.cells #[.slice none 0 0, .slice none 0 0] 66) = W0 at *
  clear hW0
  refine (HCk.out _ HB0.out).mono ?_
  rintro e w1 ⟨rfl, hb1⟩
  rw [hz2] at hb1
  have HB1 : Hid (Below (w.heap.size + 2) W0 w1) := hb1
  have HW1 : Hid (Below w.heap.size w w1) := HB0.out.trans (hb1.mono (by omega))
  clear hb1
  have hz1 : w.heap.size + 2 ≤ w1.heap.size := by rw [← hz2]; exact HB1.out.size
  obtain ⟨⟨m0, m1, m2⟩, hres⟩ := HT.out w1 HB1.out
  obtain ⟨r0, r1, z0, z1⟩ := box_at hres
  by_cases hk0 : ck = 0
  · subst hk0
    by_cases hN0 : D.N = 0
    · have g3 : ((D.N : Int) == 0) = true := by rw [hN0]; rfl
      have HN2 := Lib.hid (HN.out (.inr hN0))
      go_wp2
      refine bodyPost_ret (v := .tuple #[BoxW none none 0 0 0 0, .bool false]) (res_cell_tmp Tryz.results40 _ _ (w.heap.size + 1) 66 _ (0, 0) _ rfl (put2 hres _ _) Tryz.underlying66 rfl (by rw [info_box]; rfl)) rfl ?_
      exact ⟨HN2.out _, (HW1.out.setCell (p := ⟨w.heap.size + 1, 0, none⟩) (by show w.heap.size ≤ w.heap.size + 1; omega) _).setCell (p := ⟨w.heap.size + 1, 1, none⟩) (by show w.heap.size ≤ w.heap.size + 1; omega) _⟩
    · have g3 : ((D.N : Int) == 0) = false := by rw [beq_eq_false_iff_ne]; omega
      have HY2 := Lib.hid (HY.out rfl (by omega))
      have HLL := Lib.hid (HLn.out rfl)
      clear HN HY HLn
      obtain ⟨bc, oc, hCe, hbc, hcc⟩ := HCe.out (by omega)
      obtain ⟨P0, pc, Q0, qc0, x0', x1', x2, x3, x4⟩ := hcc 0 (by omega)
      rw [HLL.out.2 0 (by omega)] at x0' x2
      rw [Nat.zero_mul, Nat.add_zero] at x0'
      have HKe : Hid (∀ W, Below w1.heap.size w1 W → W.cell? ⟨w.heap.size, 2, none⟩ = some (.slice (some ⟨bc, oc, none⟩) D.N p.ccap) ∧ W.cell? ⟨bc, oc, none⟩ = some (.slice P0 D.n pc)) := fun W hW => ⟨by rw [← hCe]; exact (HT.out W (HB1.out.trans (hW.mono (by omega)))).1.2.2, ((st HW1.out hW).cell (p := ⟨bc, oc, none⟩) hbc).trans x0'⟩
      have HCeq := Lib.hid hCe
      have HX2 := Lib.hid x2
      have hm2 := (HKe.out w1 (Below.refl _ _)).1
      rw [hCe] at m2 ⊢
      clear hCe hm2 x1' x2 x3 x4 hcc
      obtain ⟨-, x0⟩ := HKe.out w1 (Below.refl _ _)
      have hNp : 0 < D.N := by omega
      clear x0'
      go_wp2_with fail
      rename_i K hK
      clear m0 m1 m2 hres r0 r1 z0 z1 x0
      refine wp_region_TJ (fun l a w => JD 13 23 30 l a w ∧ JA 14 31 l a w) ⟨fun h => by simp at h, fun h => by simp at h⟩ (n1 := 16) (T := TL [NewR w1.heap.size 3, isW (.pointer (some ⟨w.heap.size, 2, none⟩)), isW (.slice (some ⟨bc, oc, none⟩) D.N p.ccap), isW (.pointer (some ⟨bc, oc, none⟩)), isW (.pointer (some ⟨bc, oc, none⟩)), isW (.slice P0 D.n pc), OwnT w1.heap.size D.n (cc.x 0), NewR w1.heap.size 3, isW (.pointer (some ⟨w.heap.size, 2, none⟩)), isW (.slice (some ⟨bc, oc, none⟩) D.N p.ccap), isW (.pointer (some ⟨bc, oc, none⟩)), isW (.pointer (some ⟨bc, oc, none⟩)), isW (.slice P0 D.n pc), OwnT w1.heap.size D.n (cc.x 0), BoxT w1.heap.size D.n (cc.x 0), NewB w1.heap.size]) (by kernel_rfl) rfl rfl rfl (by kernel_rfl) ?step ?tail
      case step =>
        intro listed a W i HL HJ hcl hi9 hilt
        have dl := HL.dl (l := [some 17, some 18, some 19, some 20, some 21, some 22, some 23, some 24, some 25, some 26, some 27, some 28, some 29, some 30, some 31, some 4, none]) rfl
        have ap := apart_of dl (by decide)
        obtain ⟨q2, q3⟩ := HKe.out W HL.below
        have hBW := HL.below.size
        have mono : ∀ p' ∈ [NewR w1.heap.size 3, isW (.pointer (some ⟨w.heap.size, 2, none⟩)), isW (.slice (some ⟨bc, oc, none⟩) D.N p.ccap), isW (.pointer (some ⟨bc, oc, none⟩)), isW (.pointer (some ⟨bc, oc, none⟩)), isW (.slice P0 D.n pc), OwnT w1.heap.size D.n (cc.x 0), NewR w1.heap.size 3, isW (.pointer (some ⟨w.heap.size, 2, none⟩)), isW (.slice (some ⟨bc, oc, none⟩) D.N p.ccap), isW (.pointer (some ⟨bc, oc, none⟩)), isW (.pointer (some ⟨bc, oc, none⟩)), isW (.slice P0 D.n pc), OwnT w1.heap.size D.n (cc.x 0), BoxT w1.heap.size D.n (cc.x 0), NewB w1.heap.size], Mono p' := by
          intro p' hp
          simp only [List.mem_cons, List.not_mem_nil, or_false] at hp
          rcases hp with rfl | rfl | rfl | rfl | rfl | rfl | rfl | rfl | rfl | rfl | rfl | rfl | rfl | rfl | rfl | rfl
          · exact newR_mono
          · exact isW_mono _
          · exact isW_mono _
          · exact isW_mono _
          · exact isW_mono _
          · exact isW_mono _
          · exact ownT_mono _ _ _
          · exact newR_mono
          · exact isW_mono _
          · exact isW_mono _
          · exact isW_mono _
          · exact isW_mono _
          · exact isW_mono _
          · exact ownT_mono _ _ _
          · exact boxT_mono _ _ _
          · exact newB_mono _
        rcases (by omega : i = 0 ∨ i = 1 ∨ i = 2 ∨ i = 3 ∨ i = 4 ∨ i = 5 ∨ i = 6 ∨ i = 7 ∨ i = 8 ∨ i = 9 ∨ i = 10 ∨ i = 11 ∨ i = 12 ∨ i = 13 ∨ i = 14 ∨ i = 15) with rfl | rfl | rfl | rfl | rfl | rfl | rfl | rfl | rfl | rfl | rfl | rfl | rfl | rfl | rfl | rfl
        · exact wpOp_of rfl (.inl rfl) (op_bs0 (.inl ⟨rfl, rfl⟩) rfl rfl ⟨(HL.over mono ap rfl rfl (by simp) (bel_nw W _) ⟨_, rfl, hBW, heap_alloc_new W _⟩), ⟨HJ.1.keep (by rw [HL.size]; decide) (by decide) (by decide) (by decide), HJ.2.keep (by rw [HL.size]; decide) (by decide) (by decide)⟩⟩)
        · exact wpOp_of rfl (.inl rfl) (op_fA (by decide) rfl rfl (HL.old 1 (old_of' dl 1 (by decide))) ⟨(HL.over mono ap rfl rfl (by simp) (Below.refl _ _) rfl), ⟨HJ.1.keep (by rw [HL.size]; decide) (by decide) (by decide) (by decide), HJ.2.keep (by rw [HL.size]; decide) (by decide) (by decide)⟩⟩)
        · exact wpOp_of rfl (.inl rfl) (op_lsl (.inr (.inr (.inr (.inr rfl)))) rfl rfl (HL.got' hi9 (j := 1) (t := 18) rfl (by kernel_rfl) rfl rfl) q2 ⟨(HL.over mono ap rfl rfl (by simp) (Below.refl _ _) rfl), ⟨HJ.1.keep (by rw [HL.size]; decide) (by decide) (by decide) (by decide), HJ.2.keep (by rw [HL.size]; decide) (by decide) (by decide)⟩⟩)
        · exact wpOp_of rfl (.inl rfl) (op_ix0 rfl rfl (HL.got' hi9 (j := 2) (t := 19) rfl (by kernel_rfl) rfl rfl) hNp ⟨(HL.over mono ap rfl rfl (by simp) (Below.refl _ _) rfl), ⟨HJ.1.keep (by rw [HL.size]; decide) (by decide) (by decide) (by decide), HJ.2.keep (by rw [HL.size]; decide) (by decide) (by decide)⟩⟩)
        · exact wpOp_of rfl (.inl rfl) (op_fC0 rfl rfl (HL.got' hi9 (j := 3) (t := 20) rfl (by kernel_rfl) rfl rfl) ⟨(HL.over mono ap rfl rfl (by simp) (Below.refl _ _) rfl), ⟨HJ.1.keep (by rw [HL.size]; decide) (by decide) (by decide) (by decide), HJ.2.keep (by rw [HL.size]; decide) (by decide) (by decide)⟩⟩)
        · exact wpOp_of rfl (.inl rfl) (op_lsl (.inl rfl) rfl rfl (HL.got' hi9 (j := 4) (t := 21) rfl (by kernel_rfl) rfl rfl) q3 ⟨(HL.over mono ap rfl rfl (by simp) (Below.refl _ _) rfl), ⟨HJ.1.keep (by rw [HL.size]; decide) (by decide) (by decide) (by decide), HJ.2.keep (by rw [HL.size]; decide) (by decide) (by decide)⟩⟩)
        · obtain ⟨b, e1, _, e3⟩ := (HL.got' hi9 (j := 0) (t := 17) rfl (by kernel_rfl) rfl rfl)
          refine wpOp_of rfl (.inl rfl) (op_apo rfl rfl e3 e1 (HL.got' hi9 (j := 5) (t := 22) rfl (by kernel_rfl) rfl rfl) ((HX2.out.below (st HW1.out HL.below))) (by have := HLL.out.1; omega) HLL.out.1.1 fun c' w' h1 h2 h3 => ⟨(HL.over mono ap rfl rfl (by simp) h3 ⟨_, _, rfl, ⟨hBW, h1⟩, h2⟩), JD.none (by rw [HL.size]; decide) (by decide) ?_, HJ.2.keep (by rw [HL.size]; decide) (by decide) (by decide)⟩)
          cases e : listed.getD 13 false
          · rfl
          · have h6 := hcl.on (i := 13) (j := 6) rfl (by kernel_rfl) e
            have h7 := (mem_ready hi9).2.1
            rw [Array.getD, dif_pos (by rw [HL.size]; decide)] at h6 h7
            rw [h6] at h7
            cases h7
        · exact wpOp_of rfl (.inl rfl) (op_bs0 (.inl ⟨rfl, rfl⟩) rfl rfl ⟨(HL.over mono ap rfl rfl (by simp) (bel_nw W _) ⟨_, rfl, hBW, heap_alloc_new W _⟩), ⟨HJ.1.keep (by rw [HL.size]; decide) (by decide) (by decide) (by decide), HJ.2.keep (by rw [HL.size]; decide) (by decide) (by decide)⟩⟩)
        · exact wpOp_of rfl (.inl rfl) (op_fA (by decide) rfl rfl (HL.old 1 (old_of' dl 1 (by decide))) ⟨(HL.over mono ap rfl rfl (by simp) (Below.refl _ _) rfl), ⟨HJ.1.keep (by rw [HL.size]; decide) (by decide) (by decide) (by decide), HJ.2.keep (by rw [HL.size]; decide) (by decide) (by decide)⟩⟩)
        · exact wpOp_of rfl (.inl rfl) (op_lsl (.inr (.inr (.inr (.inr rfl)))) rfl rfl (HL.got' hi9 (j := 8) (t := 25) rfl (by kernel_rfl) rfl rfl) q2 ⟨(HL.over mono ap rfl rfl (by simp) (Below.refl _ _) rfl), ⟨HJ.1.keep (by rw [HL.size]; decide) (by decide) (by decide) (by decide), HJ.2.keep (by rw [HL.size]; decide) (by decide) (by decide)⟩⟩)
        · exact wpOp_of rfl (.inl rfl) (op_ix0 rfl rfl (HL.got' hi9 (j := 9) (t := 26) rfl (by kernel_rfl) rfl rfl) hNp ⟨(HL.over mono ap rfl rfl (by simp) (Below.refl _ _) rfl), ⟨HJ.1.keep (by rw [HL.size]; decide) (by decide) (by decide) (by decide), HJ.2.keep (by rw [HL.size]; decide) (by decide) (by decide)⟩⟩)
        · exact wpOp_of rfl (.inl rfl) (op_fC0 rfl rfl (HL.got' hi9 (j := 10) (t := 27) rfl (by kernel_rfl) rfl rfl) ⟨(HL.over mono ap rfl rfl (by simp) (Below.refl _ _) rfl), ⟨HJ.1.keep (by rw [HL.size]; decide) (by decide) (by decide) (by decide), HJ.2.keep (by rw [HL.size]; decide) (by decide) (by decide)⟩⟩)
        · exact wpOp_of rfl (.inl rfl) (op_lsl (.inl rfl) rfl rfl (HL.got' hi9 (j := 11) (t := 28) rfl (by kernel_rfl) rfl rfl) q3 ⟨(HL.over mono ap rfl rfl (by simp) (Below.refl _ _) rfl), ⟨HJ.1.keep (by rw [HL.size]; decide) (by decide) (by decide) (by decide), HJ.2.keep (by rw [HL.size]; decide) (by decide) (by decide)⟩⟩)
        · obtain ⟨b, e1, _, e3⟩ := (HL.got' hi9 (j := 7) (t := 24) rfl (by kernel_rfl) rfl rfl)
          obtain ⟨g1, c1, e4, e5, e6⟩ := (HL.got' hi9 (j := 6) (t := 23) rfl (by kernel_rfl) rfl rfl)
          refine wpOp_of rfl (.inl rfl) (op_apo rfl rfl e3 e1 (HL.got' hi9 (j := 12) (t := 29) rfl (by kernel_rfl) rfl rfl) ((HX2.out.below (st HW1.out HL.below))) (by have := HLL.out.1; omega) HLL.out.1.1 fun c' w' h1 h2 h3 => ⟨(HL.over mono ap rfl rfl (by simp) h3 ⟨_, _, rfl, ⟨hBW, h1⟩, h2⟩), ?_, HJ.2.keep (by rw [HL.size]; decide) (by decide) (by decide)⟩)
          intro _ g3 n3 c3 g4 n4 c4 h5 h6
          rw [slot_other a _ (by decide)] at h5
          have h7 : slot (putSlot a 30 (.slice (some ⟨W.heap.size, 0, none⟩) D.n c')) 30 = .slice (some ⟨W.heap.size, 0, none⟩) D.n c' := slot_self a _ (by rw [HL.frame]; simp)
          rw [h7] at h6
          have h8 := e4.symm.trans h5
          injection h6 with h6
          injection h6 with h6
          injection h6 with h6
          injection h8 with h8
          injection h8 with h8
          injection h8 with h8
          have := e5.2
          omega
        · obtain ⟨g1, c1, e1, e2, e3⟩ := (HL.got' hi9 (j := 6) (t := 23) rfl (by kernel_rfl) rfl rfl)
          obtain ⟨g2, c2, e4, e5, e6⟩ := (HL.got' hi9 (j := 13) (t := 30) rfl (by kernel_rfl) rfl rfl)
          refine wpOp_of rfl (.inl rfl) (op_bdB rfl rfl e1 e4 ⟨(HL.over mono ap rfl rfl (by simp) (Below.refl _ _) ⟨_, _, _, _, rfl, ⟨e2, e1 ▸ e3⟩, e5, e4 ▸ e6⟩), HJ.1.keep (by rw [HL.size]; decide) (by decide) (by decide) (by decide), ?_⟩)
          intro _ g3 n3 c3 g4 n4 c4 h5
          have h7 : slot (putSlot a 31 (.agg #[.slice (some ⟨g1, 0, none⟩) D.n c1, .slice (some ⟨g2, 0, none⟩) D.n c2])) 31 = .agg #[.slice (some ⟨g1, 0, none⟩) D.n c1, .slice (some ⟨g2, 0, none⟩) D.n c2] := slot_self a _ (by rw [HL.frame]; simp)
          rw [h7] at h5
          injection h5 with h5
          have h8 := congrArg Array.toList h5
          simp only [List.cons.injEq, Value.slice.injEq, Option.some.injEq, Addr.mk.injEq] at h8
          have h9 := HJ.1 (ready_on hi9 (j := 13) rfl (by kernel_rfl)) g1 D.n c1 g2 D.n c2 e1 e4
          omega
        · exact wpOp_of rfl (.inl rfl) (op_alB rfl rfl ⟨(HL.over mono ap rfl rfl (by simp) (bel_nw W _) ⟨_, rfl, hBW, heap_alloc_new W _⟩), ⟨HJ.1.keep (by rw [HL.size]; decide) (by decide) (by decide) (by decide), HJ.2.keep (by rw [HL.size]; decide) (by decide) (by decide)⟩⟩)
      case tail =>
        intro listed a W HL HJ hall
        obtain ⟨g1, c1, g2, c2, e1, ⟨e2, e3⟩, e4, e5⟩ := HL.got 14 _ 31 rfl rfl (hall 14 (by decide))
        obtain ⟨bb, e6, e7, e8⟩ := HL.got 15 _ 4 rfl rfl (hall 15 (by decide))
        have hgg : g1 ≠ g2 := HJ.2 (hall 14 (by decide)) _ _ _ _ _ _ e1
        refine op_stB rfl rfl e6 e1 e8 ?_
        have dl := HL.dl (l := [some 17, some 18, some 19, some 20, some 21, some 22, some 23, some 24, some 25, some 26, some 27, some 28, some 29, some 30, some 31, some 4, none]) rfl
        have s0 := HL.old 0 (old_of' dl 0 (by decide))
        have s1 := HL.old 1 (old_of' dl 1 (by decide))
        have s2 := HL.old 2 (old_of' dl 2 (by decide))
        have s3 := HL.old 3 (old_of' dl 3 (by decide))
        have s5 := HL.old 5 (old_of' dl 5 (by decide))
        have s6 := HL.old 6 (old_of' dl 6 (by decide))
        have s7 := HL.old 7 (old_of' dl 7 (by decide))
        have s8 := HL.old 8 (old_of' dl 8 (by decide))
        have s9 := HL.old 9 (old_of' dl 9 (by decide))
        have s10 := HL.old 10 (old_of' dl 10 (by decide))
        have s11 := HL.old 11 (old_of' dl 11 (by decide))
        have s12 := HL.old 12 (old_of' dl 12 (by decide))
        have s13 := HL.old 13 (old_of' dl 13 (by decide))
        have s14 := HL.old 14 (old_of' dl 14 (by decide))
        have s15 := HL.old 15 (old_of' dl 15 (by decide))
        have s16 := HL.old 16 (old_of' dl 16 (by decide))
        have s84 := HL.old 84 (old_of' dl 84 (by decide))
        obtain ⟨f, hf, rfl⟩ := actlitf 85 a (HL.frame.trans (by simp)) (HL.defers.trans rfl)
        rw [show List.range 85 = [0, 1, 2, 3, 4, 5, 6, 7, 8, 9, 10, 11, 12, 13, 14, 15, 16, 17, 18, 19, 20, 21, 22, 23, 24, 25, 26, 27, 28, 29, 30, 31, 32, 33, 34, 35, 36, 37, 38, 39, 40, 41, 42, 43, 44, 45, 46, 47, 48, 49, 50, 51, 52, 53, 54, 55, 56, 57, 58, 59, 60, 61, 62, 63, 64, 65, 66, 67, 68, 69, 70, 71, 72, 73, 74, 75, 76, 77, 78, 79, 80, 81, 82, 83, 84] from rfl]
        simp only [List.map_cons, List.map_nil]
        have q0 : f 0 = p.val D.n D.m D.N := (hf 0).symm.trans s0
        have q1 : f 1 = .pointer (some ⟨w.heap.size, 0, none⟩) := (hf 1).symm.trans s1
        have q2 : f 2 = .pointer (some ⟨w.heap.size + 1, 0, none⟩) := (hf 2).symm.trans s2
        have q3 : f 3 = .bool false := (hf 3).symm.trans s3
        have q5 : f 5 = undef := (hf 5).symm.trans s5
        have q6 : f 6 = undef := (hf 6).symm.trans s6
        have q7 : f 7 = .agg #[.slice p.A D.n p.cap, .slice p.B D.m p.bcap, .slice (some ⟨bc, oc, none⟩) D.N p.ccap] := (hf 7).symm.trans s7
        have q8 : f 8 = .int .i64 0 := (hf 8).symm.trans s8
        have q9 : f 9 = .bool false := (hf 9).symm.trans s9
        have q10 : f 10 = .bool false := (hf 10).symm.trans s10
        have q11 : f 11 = .pointer (some ⟨w.heap.size, 2, none⟩) := (hf 11).symm.trans s11
        have q12 : f 12 = .slice (some ⟨bc, oc, none⟩) D.N p.ccap := (hf 12).symm.trans s12
        have q13 : f 13 = .int .i64 (D.N : Int) := (hf 13).symm.trans s13
        have q14 : f 14 = .bool false := (hf 14).symm.trans s14
        have q15 : f 15 = .bool false := (hf 15).symm.trans s15
        have q16 : f 16 = undef := (hf 16).symm.trans s16
        have q84 : f 84 = undef := (hf 84).symm.trans s84
        have q4 : f 4 = .pointer (some ⟨bb, 0, none⟩) := (hf 4).symm.trans e6
        rw [q0, q1, q2, q3, q5, q6, q7, q8, q9, q10, q11, q12, q13, q14, q15, q16, q84, q4]
        have hbW := HL.below
        obtain ⟨u1, u2, u3⟩ := hull_end (B := 0) e3 e5 e8 (own_box e3 e8) (own_box e5 e8)
        have HB2' : Hid (Below w1.heap.size w1 ((W.setCell ⟨bb, 0, none⟩ (.slice (some ⟨g1, 0, none⟩) D.n c1)).setCell ⟨bb, 1, none⟩ (.slice (some ⟨g2, 0, none⟩) D.n c2))) := (hbW.setCell (p := ⟨bb, 0, none⟩) e7 _).setCell (p := ⟨bb, 1, none⟩) e7 _
        have HSt := Lib.hid (show HuSt w1.heap.size g1 c1 g2 c2 bb D.n (w.heap.size + 2) W0 _ (cc.x 0) (cc.x 0) from ⟨u1.up e2.1, u2.up e4.1, u3, HB1.out.trans (HB2'.out.mono (by omega))⟩)
        have hne : (w1.heap.size ≤ g1 ∧ w1.heap.size ≤ g2 ∧ w1.heap.size ≤ bb) ∧ g1 ≠ g2 ∧ g1 ≠ bb ∧ g2 ≠ bb := ⟨⟨e2.1, e4.1, e7⟩, hgg, own_box e3 e8, own_box e5 e8⟩
        have HNE := Lib.hid hne
        clear e1 e2 e3 e4 e5 e6 e7 e8 hgg s0 s1 s2 s3 s5 s6 s7 s8 s9 s10 s11 s12 s13 s14 s15 s16 s84 q0 q1 q2 q3 q5 q6 q7 q8 q9 q10 q11 q12 q13 q14 q15 q16 q84 q4 hf dl hall HJ hbW u1 u2 u3 HB2' hne HL
        generalize (W.setCell ⟨bb, 0, none⟩ (.slice (some ⟨g1, 0, none⟩) D.n c1)).setCell ⟨bb, 1, none⟩ (.slice (some ⟨g2, 0, none⟩) D.n c2) = W2 at *
        refine hK _ _ ?_
        clear hK
        go_wp2_with fail
        have hz2' : w.heap.size + 2 ≤ W0.heap.size := by omega
        have hne := HNE.out
        have HM2 : Hid (∀ W, Below (w.heap.size + 2) W0 W → W.cell? ⟨w.heap.size, 2, none⟩ = some (.slice (some ⟨bc, oc, none⟩) D.N p.ccap)) := fun W hW => by rw [← HCeq.out]; exact (HT.out W hW).1.2.2
        have hn14 := HLL.out.1
        go_loopw [5, 6] (fun i _ wr => ∃ k : Nat, k ≤ D.N ∧ i = .int .i64 k ∧ Hid (HuSt w1.heap.size g1 c1 g2 c2 bb D.n (w.heap.size + 2) W0 wr (hLo cc.x k) (hHi cc.x k))) (fun i _ _ => D.N - (intOf i).toNat)
        case atStart => exact ⟨0, Nat.zero_le _, rfl, HSt.out⟩
        case round =>
          obtain ⟨k, hk, rfl, HS⟩ := hrel
          have HWr : Hid (Below w.heap.size w wr) := HB0.out.trans (HS.out.2.2.2.mono (by omega))
          have m2 := HM2.out wr HS.out.2.2.2
          by_cases hlt : k < D.N
          · obtain ⟨bc', oc', hCe', hbc', hcc⟩ := HCe.out (by omega)
            have e9 := HCeq.out.symm.trans hCe'
            injection e9 with e9
            injection e9 with e9 e8
            subst e9 e8
            obtain ⟨P1, pc1, Q1, qc1, x0', x1', x2, x3, x4⟩ := hcc k hlt
            rw [HLL.out.2 k hlt] at x0' x2
            have HX0 : Hid (∀ W, Below w.heap.size w W → W.cell? ⟨bc, oc + k * 2, none⟩ = some (.slice P1 D.n pc1)) := fun W hW => (hW.cell (p := ⟨bc, oc + k * 2, none⟩) hbc).trans x0'
            have HX3 := Lib.hid x2
            have hk0 : (0 : Int) ≤ (k : Int) := by omega
            have hkN : (k : Int) < (D.N : Int) := by omega
            have hHL : ∀ j, hLo cc.x (k + 1) j = min (hLo cc.x k j) (cc.x k j) := fun j => rfl
            have hHH : ∀ j, hHi cc.x (k + 1) j = max (hHi cc.x k j) (cc.x k j) := fun j => rfl
            have HHe := Lib.hid (And.intro hHL hHH)
            clear hCe' hbc' hcc x0' x1' x2 x3 x4 hHL hHH
            go_wp2_with fail
            clear m2
            go_loopw [6] (fun i wr => ∃ j : Nat, j ≤ D.n ∧ i = .int .i64 j ∧ Hid (HuSt w1.heap.size g1 c1 g2 c2 bb D.n (w.heap.size + 2) W0 wr (mixI (hLo cc.x k) (hLo cc.x (k + 1)) j) (mixI (hHi cc.x k) (hHi cc.x (k + 1)) j))) (fun i _ => D.n - (intOf i).toNat)
            case atStart => exact ⟨0, Nat.zero_le _, rfl, HS.out.congr (fun i _ => (if_neg (Nat.not_lt_zero i)).symm) (fun i _ => (if_neg (Nat.not_lt_zero i)).symm)⟩
            case round =>
              obtain ⟨j, hj, rfl, HSj⟩ := hrel
              have HWj : Hid (Below w.heap.size w wr) := HB0.out.trans (HSj.out.2.2.2.mono (by omega))
              obtain ⟨b0, b1, -, -⟩ := box_gen HSj.out.2.2.1
              by_cases hjl : j < D.n
              · obtain ⟨bp, op, rfl, hbp, hpc⟩ := HX3.out (by omega)
                have HC0 : Hid (∀ W, Below (w.heap.size + 2) W0 W → W.cell? ⟨bp, op + j, none⟩ = some (.int .i64 (cc.x k j)) ∧ W.cell? ⟨bc, oc + k * 2, none⟩ = some (.slice (some ⟨bp, op, none⟩) D.n pc1) ∧ W.cell? ⟨w.heap.size, 2, none⟩ = some (.slice (some ⟨bc, oc, none⟩) D.N p.ccap)) := fun W hW => ⟨((HB0.out.trans (hW.mono (by omega))).cell (p := ⟨bp, op + j, none⟩) hbp).trans (hpc j hjl), HX0.out W (HB0.out.trans (hW.mono (by omega))), HM2.out W hW⟩
                obtain ⟨-, ⟨hS, hZ⟩, -⟩ := HSj.out.cells hjl
                obtain ⟨c0, x0, m2⟩ := HC0.out wr HSj.out.2.2.2
                rw [mix_at] at hS
                clear hpc
                have hj0 : (0 : Int) ≤ (j : Int) := by omega
                have hjN : (j : Int) < (D.n : Int) := by omega
                go_wp2_with fail
                go_still_tail 19, (by kernel_rfl)
                change wpList _ _ _ _ _ wr.drew
                have HSd : Hid (HuSt w1.heap.size g1 c1 g2 c2 bb D.n (w.heap.size + 2) W0 wr.drew (mixI (hLo cc.x k) (hLo cc.x (k + 1)) j) (mixI (hHi cc.x k) (hHi cc.x (k + 1)) j)) := ⟨HSj.out.1, HSj.out.2.1, HSj.out.2.2.1, Below.drew HSj.out.2.2.2⟩
                clear b0 b1 hS hZ c0 x0 m2
                generalize wr.drew = w3 at *
                obtain ⟨⟨b0, b1⟩, ⟨hS, hZ⟩, -⟩ := HSd.out.cells hjl
                rw [mix_at] at hS
                go_wp2_with fail
                rw [← HHe.out.1 j]
                have HS4 := Lib.hid ((HSd.out.setL ⟨hne.2.1, hne.2.2.1⟩ (by omega) hjl (hLo cc.x (k + 1) j)).congr (fun i _ => mix_upd rfl i) (fun _ _ => rfl))
                clear b0 b1 hS hZ
                generalize w3.setCell ⟨g1, j, none⟩ (.int .i64 (hLo cc.x (k + 1) j)) = w4 at *
                obtain ⟨⟨b0, b1⟩, -, hS2, hZ2⟩ := HS4.out.cells hjl
                obtain ⟨c0, x0, m2⟩ := HC0.out w4 HS4.out.2.2.2
                rw [mix_at] at hS2
                go_wp2_with fail
                go_still_tail 19, (by kernel_rfl)
                change wpList _ _ _ _ _ w4.drew
                have HS5 : Hid (HuSt w1.heap.size g1 c1 g2 c2 bb D.n (w.heap.size + 2) W0 w4.drew (mixI (hLo cc.x k) (hLo cc.x (k + 1)) (j + 1)) (mixI (hHi cc.x k) (hHi cc.x (k + 1)) j)) := ⟨HS4.out.1, HS4.out.2.1, HS4.out.2.2.1, Below.drew HS4.out.2.2.2⟩
                clear b0 b1 hS2 hZ2 c0 x0 m2
                generalize w4.drew = w5 at *
                obtain ⟨⟨b0, b1⟩, -, hS2, hZ2⟩ := HS5.out.cells hjl
                rw [mix_at] at hS2
                go_wp2_with fail
                rw [← HHe.out.2 j]
                have HS6 := Lib.hid ((HS5.out.setH ⟨hne.2.1, hne.2.2.2⟩ (by omega) hjl (hHi cc.x (k + 1) j)).congr (fun _ _ => rfl) (fun i _ => mix_upd rfl i))
                clear b0 b1 hS2 hZ2
                generalize w5.setCell ⟨g2, j, none⟩ (.int .i64 (hHi cc.x (k + 1) j)) = w6 at *
                go_wp2
                go_roundw
                case rel => exact ⟨j + 1, by omega, by go_num, HS6.out⟩
                case measure => simp [intOf]; omega
              · obtain rfl : j = D.n := by omega
                have HS6 := Lib.hid (HSj.out.congr (f' := hLo cc.x (k + 1)) (g' := hHi cc.x (k + 1)) (fun i hi => mix_end hi) (fun i hi => mix_end hi))
                go_wp2
                go_roundw
                case rel => exact ⟨k + 1, by omega, by go_num, HS6.out⟩
                case measure => simp [intOf]; omega
          · obtain rfl : k = D.N := by omega
            have hres := (HT.out wr HS.out.2.2.2).2
            obtain ⟨r0, r1, z0, z1⟩ := box_at hres
            obtain ⟨b0, b1, -, -⟩ := box_gen HS.out.2.2.1
            go_wp2
            refine bodyPost_ret (v := .tuple #[BoxW (some ⟨g1, 0, none⟩) (some ⟨g2, 0, none⟩) D.n c1 D.n c2, .bool true]) (res_cell_tmp Tryz.results40 _ _ (w.heap.size + 1) 66 _ (0, 0) _ rfl (put2 hres _ _) Tryz.underlying66 rfl (by rw [info_box]; rfl)) rfl ?_
            have gr : wr.grownBy ((wr.setCell ⟨w.heap.size + 1, 0, none⟩ (.slice (some ⟨g1, 0, none⟩) D.n c1)).setCell ⟨w.heap.size + 1, 1, none⟩ (.slice (some ⟨g2, 0, none⟩) D.n c2)) (some (w.heap.size + 1)) := gr2 (grown_set _ _ _ _) (grown_set _ _ _ _)
            exact ⟨HY2.out _ _ _ _ _ (HS.out.1.kept gr (HS.out.1.ne (by omega))).ints' (HS.out.2.1.kept gr (HS.out.2.1.ne (by omega))).ints', (HWr.out.setCell (p := ⟨w.heap.size + 1, 0, none⟩) (by show w.heap.size ≤ w.heap.size + 1; omega) _).setCell (p := ⟨w.heap.size + 1, 1, none⟩) (by show w.heap.size ≤ w.heap.size + 1; omega) _⟩
  · have g2 : (ck != 0) = true := by rw [bne_iff_ne]; exact hk0
    have HN2 := Lib.hid (HN.out (.inl hk0))
    go_wp2
    refine bodyPost_ret (v := .tuple #[BoxW none none 0 0 0 0, .bool false]) (res_cell_tmp Tryz.results40 _ _ (w.heap.size + 1) 66 _ (0, 0) _ rfl (put2 hres _ _) Tryz.underlying66 rfl (by rw [info_box]; rfl)) rfl ?_
    exact ⟨HN2.out _, (HW1.out.setCell (p := ⟨w.heap.size + 1, 0, none⟩) (by show w.heap.size ≤ w.heap.size + 1; omega) _).setCell (p := ⟨w.heap.size + 1, 1, none⟩) (by show w.heap.size ≤ w.heap.size + 1; omega) _⟩
end Go.Proofs.YtoippldgoehpcaaGreatDoor

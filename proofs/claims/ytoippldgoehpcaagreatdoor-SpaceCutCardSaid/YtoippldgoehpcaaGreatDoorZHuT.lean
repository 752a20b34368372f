/- The box of all coordinates: the reference. -/
import Derived.Test.YtoippldgoehpcaaGreatDoorZWhS
import Derived.Test.YtoippldgoehpcaaGreatDoorZRfD

/- The box of all coordinates: the reference. -/
section
namespace Go.Proofs.YtoippldgoehpcaaGreatDoor
open Go Go.RowKit Go.Deep

theorem OwnI.below {w w' : World} {B n : Nat} {v : Value} {f : Nat → Int} (h : OwnI w B v n f) (hb : Below w.heap.size w w') : OwnI w' B v n f := h.kept (Below.by_ hb) (by cases e : v.ownBlock with | none => exact .inl rfl | some g => exact .inr (by simp))
theorem InS2.below {W W' : World} {ob : Nat} {x1 x2 : Value} {k1 k2 : Nat} {f g : Nat → Int} (h : InS2 ob W x1 x2 k1 k2 f g) (hb : Below W.heap.size W W') : InS2 ob W' x1 x2 k1 k2 f g := ⟨(hb.block _ (Array.getElem?_eq_some_iff.1 h.1).1).trans h.1, h.2.1.below hb, h.2.2.1.below hb, h.2.2.2⟩
set_option maxRecDepth 100000 in
set_option maxHeartbeats 4000000 in
theorem r_Whole (w : World) (A : Option Addr) (n cap : Nat) (nm : Nat → ByteArray) (lo hi : Nat → Int) (hd : DimsAt w A n nm lo hi) (hs : ∀ k, k < n → (nm k).size ≤ 9223372036854775807) (hn10 : n ≤ 1000) :
    Calls Tryz.prog 38 #[.slice A n cap] w fun e w' => WholeR nm lo hi n e w' ∧ Below w.heap.size w w' := by
  have HB0 : Hid (Below w.heap.size w (w.alloc (.cells #[.slice none 0 0, .slice none 0 0] 66))) := (Below.refl _ _).alloc (Nat.le_refl _) _
  have HR0 := Lib.hid (heap_alloc_new w (.cells #[.slice none 0 0, .slice none 0 0] 66))
  have hz0 : (w.alloc (.cells #[.slice none 0 0, .slice none 0 0] 66)).heap.size = w.heap.size + 1 := by simp
  have HDm := Lib.hid (r_Dims (w.alloc (.cells #[.slice none 0 0, .slice none 0 0] 66)) A n cap nm lo hi (hd.below HB0.out) hs hn10)
  have HD := Lib.hid hd
  have HY : Hid (dimsZ nm lo hi n = 0 → ∀ W P Q c d, IntsAt W P n lo → IntsAt W Q n hi → WholeR nm lo hi n (.returned (.tuple #[BoxW P Q n c n d, .int .i64 0])) W) := fun h W P Q c d h1 h2 => ⟨P, Q, n, c, d, by rw [h], by rw [if_pos h], h1, h2⟩
  have HN : Hid (dimsZ nm lo hi n ≠ 0 → ∀ W, WholeR nm lo hi n (.returned (.tuple #[BoxW none none 0 0 0 0, .int .i64 (dimsZ nm lo hi n)])) W) := fun h W => ⟨none, none, 0, 0, 0, rfl, by rw [if_neg h], fun h => absurd h (Nat.lt_irrefl 0), fun h => absurd h (Nat.lt_irrefl 0)⟩
  have HOk : Hid (dimsZ nm lo hi n = 0 → n ≤ 4) := fun h => (dimsZ_ok h).2.1
  clear hd hs
  generalize WholeR nm lo hi n = R at *
  generalize dimsZ nm lo hi n = z at *
  go_enter Tryz.func38, Tryz.ntmps38
  go_wp2_with fail
  generalize w.alloc (.cells #[.slice none 0 0, .slice none 0 0] 66) = W0 at *
  refine HDm.out.mono ?_
  rintro e w1 ⟨rfl, hb1⟩
  have hz1 : w.heap.size < w1.heap.size := by have := hb1.size; omega
  have HB1 : Hid (Below w.heap.size w w1) := HB0.out.trans (hb1.mono (by omega))
  have HR1 : Hid (w1.heap[w.heap.size]? = some (.cells #[.slice none 0 0, .slice none 0 0] 66 (0, 0))) := (hb1.block _ (by omega)).trans HR0.out
  clear hb1 HDm HR0
  by_cases h0 : z = 0
  · subst h0
    have hn4 := HOk.out rfl
    have HY2 := Lib.hid (HY.out rfl)
    clear HY HN HOk
    go_wp2_with fail
    go_loopw [6] (fun i wr => ∃ (k : Nat) (x1 x2 : Value), k ≤ n ∧ i = .int .i64 k ∧ Hid (InS2 w1.heap.size wr x1 x2 k k lo hi) ∧ Hid (wr.heap[w.heap.size]? = some (.cells #[.slice none 0 0, .slice none 0 0] 66 (0, 0))) ∧ Hid (Below w.heap.size w wr)) (fun i _ => n - (intOf i).toNat)
    case atStart => exact ⟨0, _, _, Nat.zero_le _, rfl, ⟨heap_alloc_new w1 _, OwnI.nil _ _ _, OwnI.nil _ _ _, .inl rfl⟩, ((bel_nw w1 _).block _ (by omega)).trans HR1.out, st HB1.out (bel_nw w1 _)⟩
    case round =>
      obtain ⟨k, x1, x2, hk, rfl, HIn, HRe, HBr⟩ := hrel
      have hobr : w1.heap.size < wr.heap.size := (Array.getElem?_eq_some_iff.1 HIn.out.1).1
      by_cases hlt : k < n
      · obtain ⟨bd, od, rfl, hbd, hc⟩ := HD.out (by omega)
        obtain ⟨d0, d1, d2⟩ := hc k hlt
        have HKd : Hid (∀ W, Below w.heap.size w W → W.cell? ⟨bd, od + k * 3 + 1, none⟩ = some (.int .i64 (lo k)) ∧ W.cell? ⟨bd, od + k * 3 + 2, none⟩ = some (.int .i64 (hi k))) := fun W hW => ⟨(hW.cell (p := ⟨bd, od + k * 3 + 1, none⟩) hbd).trans d1, (hW.cell (p := ⟨bd, od + k * 3 + 2, none⟩) hbd).trans d2⟩
        have HKq : Hid (∀ W, Below wr.heap.size wr W → W.heap[w1.heap.size]? = some (.cells #[x1, x2] 66 (0, 0)) ∧ W.cell? ⟨bd, od + k * 3 + 1, none⟩ = some (.int .i64 (lo k)) ∧ W.cell? ⟨bd, od + k * 3 + 2, none⟩ = some (.int .i64 (hi k))) := fun W hW => ⟨(hW.block _ hobr).trans HIn.out.1, HKd.out W (st HBr.out hW)⟩
        clear hc d0 d1 d2
        go_wp2_with fail
        rename_i K1 hK1
        refine wp_region_TK (n1 := 8) (T := TL [isW (.pointer (some ⟨w1.heap.size, 0, none⟩)), isW x1, isW (.slice (some ⟨bd, od, none⟩) n cap), isW (.int .i64 k), isW (.pointer (some ⟨bd, od + k * 3, none⟩)), isW (.pointer (some ⟨bd, od + k * 3 + 1, none⟩)), isW (.int .i64 (lo k)), OneI (lo k) wr.heap.size]) (by kernel_rfl) (by decide) (by kernel_rfl) (by kernel_rfl) ?step ?tail
        case step =>
          intro listed a W i HL hi9 hilt
          have dl := HL.dl (l := [some 19, some 20, some 21, some 22, some 23, some 24, some 25, some 26, some 27, some 28, none]) rfl
          have ap := apart_of dl (by decide)
          obtain ⟨q1, q2, q3⟩ := HKq.out W HL.below
          have hBW := HL.below.size
          have mono : ∀ p' ∈ [isW (.pointer (some ⟨w1.heap.size, 0, none⟩)), isW x1, isW (.slice (some ⟨bd, od, none⟩) n cap), isW (.int .i64 k), isW (.pointer (some ⟨bd, od + k * 3, none⟩)), isW (.pointer (some ⟨bd, od + k * 3 + 1, none⟩)), isW (.int .i64 (lo k)), OneI (lo k) wr.heap.size], Mono p' := by
            intro p' hp
            simp only [List.mem_cons, List.not_mem_nil, or_false] at hp
            rcases hp with rfl | rfl | rfl | rfl | rfl | rfl | rfl | rfl
            · exact isW_mono _
            · exact isW_mono _
            · exact isW_mono _
            · exact isW_mono _
            · exact isW_mono _
            · exact isW_mono _
            · exact isW_mono _
            · exact oneI_mono _ _
          rcases (by omega : i = 0 ∨ i = 1 ∨ i = 2 ∨ i = 3 ∨ i = 4 ∨ i = 5 ∨ i = 6 ∨ i = 7) with rfl | rfl | rfl | rfl | rfl | rfl | rfl | rfl
          · exact wpOp_of rfl (.inl rfl) (op_fB (by decide) rfl rfl (HL.old 5 (old_of' dl 5 (by decide))) (HL.over mono ap rfl rfl (by simp) (Below.refl _ _) rfl))
          · exact wpOp_of rfl (.inl rfl) (op_lsl (.inl rfl) rfl rfl (HL.got' hi9 (j := 0) (t := 19) rfl (by kernel_rfl) rfl rfl) (box_gen q1).1 (HL.over mono ap rfl rfl (by simp) (Below.refl _ _) rfl))
          · exact wpOp_of rfl (.inl rfl) (op_mv rfl rfl (HL.over mono ap rfl rfl (by simp) (Below.refl _ _) (HL.old 0 (old_of' dl 0 (by decide)))))
          · exact wpOp_of rfl (.inl rfl) (op_mv rfl rfl (HL.over mono ap rfl rfl (by simp) (Below.refl _ _) (HL.old 6 (old_of' dl 6 (by decide)))))
          · exact wpOp_of rfl (.inl rfl) (op_ixD rfl rfl (HL.got' hi9 (j := 2) (t := 21) rfl (by kernel_rfl) rfl rfl) (HL.got' hi9 (j := 3) (t := 22) rfl (by kernel_rfl) rfl rfl) hlt (HL.over mono ap rfl rfl (by simp) (Below.refl _ _) rfl))
          · exact wpOp_of rfl (.inl rfl) (op_fD (by decide) rfl rfl (HL.got' hi9 (j := 4) (t := 23) rfl (by kernel_rfl) rfl rfl) (HL.over mono ap rfl rfl (by simp) (Below.refl _ _) rfl))
          · exact wpOp_of rfl (.inl rfl) (op_ldI rfl rfl (HL.got' hi9 (j := 5) (t := 24) rfl (by kernel_rfl) rfl rfl) q2 (HL.over mono ap rfl rfl (by simp) (Below.refl _ _) rfl))
          · exact wpOp_of rfl (.inl rfl) (op_bsI rfl rfl (HL.got' hi9 (j := 6) (t := 25) rfl (by kernel_rfl) rfl rfl) (HL.over mono ap rfl rfl (by simp) (bel_nw W _) ⟨_, rfl, hBW, heap_alloc_new W _⟩))
        case tail =>
          intro listed a W HL hall
          have e1 := HL.got 1 _ 20 rfl rfl (hall 1 (by decide))
          obtain ⟨b, e2, f1, f2⟩ := HL.got 7 _ 26 rfl rfl (hall 7 (by decide))
          have dl := HL.dl (l := [some 19, some 20, some 21, some 22, some 23, some 24, some 25, some 26, some 27, some 28, none]) rfl
          have s0 := HL.old 0 (old_of' dl 0 (by decide))
          have s1 := HL.old 1 (old_of' dl 1 (by decide))
          have s2 := HL.old 2 (old_of' dl 2 (by decide))
          have s3 := HL.old 3 (old_of' dl 3 (by decide))
          have s4 := HL.old 4 (old_of' dl 4 (by decide))
          have s5 := HL.old 5 (old_of' dl 5 (by decide))
          have s6 := HL.old 6 (old_of' dl 6 (by decide))
          have s7 := HL.old 7 (old_of' dl 7 (by decide))
          have s8 := HL.old 8 (old_of' dl 8 (by decide))
          have s9 := HL.old 9 (old_of' dl 9 (by decide))
          have s10 := HL.old 10 (old_of' dl 10 (by decide))
          have s11 := HL.old 11 (old_of' dl 11 (by decide))
          have s12 := HL.old 12 (old_of' dl 12 (by decide))
          have s39 := HL.old 39 (old_of' dl 39 (by decide))
          obtain ⟨f, hf, rfl⟩ := actlitf 40 a (HL.frame.trans (by simp)) (HL.defers.trans rfl)
          rw [show List.range 40 = [0, 1, 2, 3, 4, 5, 6, 7, 8, 9, 10, 11, 12, 13, 14, 15, 16, 17, 18, 19, 20, 21, 22, 23, 24, 25, 26, 27, 28, 29, 30, 31, 32, 33, 34, 35, 36, 37, 38, 39] from rfl]
          simp only [List.map_cons, List.map_nil]
          have q0 : f 0 = .slice (some ⟨bd, od, none⟩) n cap := (hf 0).symm.trans s0
          have q1 : f 1 = undef := (hf 1).symm.trans s1
          have q2 : f 2 = .pointer (some ⟨w.heap.size, 0, none⟩) := (hf 2).symm.trans s2
          have q3 : f 3 = .int .i64 0 := (hf 3).symm.trans s3
          have q4 : f 4 = .int .i64 0 := (hf 4).symm.trans s4
          have q5 : f 5 = .pointer (some ⟨w1.heap.size, 0, none⟩) := (hf 5).symm.trans s5
          have q6 : f 6 = .int .i64 k := (hf 6).symm.trans s6
          have q7 : f 7 = .slice (some ⟨bd, od, none⟩) n cap := (hf 7).symm.trans s7
          have q8 : f 8 = .int .i64 0 := (hf 8).symm.trans s8
          have q9 : f 9 = .int .i64 0 := (hf 9).symm.trans s9
          have q10 : f 10 = .bool false := (hf 10).symm.trans s10
          have q11 : f 11 = undef := (hf 11).symm.trans s11
          have q12 : f 12 = undef := (hf 12).symm.trans s12
          have q39 : f 39 = undef := (hf 39).symm.trans s39
          have q20 : f 20 = x1 := (hf 20).symm.trans e1
          have q26 : f 26 = .slice (some ⟨b, 0, none⟩) 1 1 := (hf 26).symm.trans e2
          rw [q0, q1, q2, q3, q4, q5, q6, q7, q8, q9, q10, q11, q12, q39, q20, q26]
          have hb0 := HL.below
          have hin := HIn.out.below hb0
          clear e1 e2 s0 s1 s2 s3 s4 s5 s6 s7 s8 s9 s10 s11 s12 s39 q0 q1 q2 q3 q4 q5 q6 q7 q8 q9 q10 q11 q12 q39 q20 q26 hf dl hall HL
          refine wpList_appJ rfl (.tmp 20) (.tmp 26) rfl W (lo k) (w1.heap.size + 1) x1 k lo rfl b rfl f2 hin.2.1 (by omega) (by have := (Array.getElem?_eq_some_iff.1 hin.1).1; omega) ?_
          intro v' w2 hown hgr hat
          obtain ⟨hbx, hin2, hBo⟩ := hin.app1 hown hgr hat
          obtain ⟨A', cp', rfl, -⟩ := hown.ints
          have HIn2 := Lib.hid hin2
          have HBo2 : Hid (Below w1.heap.size wr _) := (hb0.mono (by omega)).trans hBo
          obtain ⟨t0, t1, u0, u1⟩ := box_gen hbx
          clear hin hin2 hbx hgr hat hown f1 f2 hb0 hBo
          go_wp2_with fail
          clear t0 t1 u0 u1
          have HIn3' : Hid (InS2 w1.heap.size (w2.setCell ⟨w1.heap.size, 0, none⟩ (.slice A' (k + 1) cp')) (.slice A' (k + 1) cp') x2 (k + 1) k lo hi) := ⟨HIn2.out.1, HIn2.out.2.1.congr fun j _ => (by unfold updZ; split <;> simp [*]), HIn2.out.2.2.1, HIn2.out.2.2.2⟩
          have HB3 : Hid (Below w.heap.size w (w2.setCell ⟨w1.heap.size, 0, none⟩ (.slice A' (k + 1) cp'))) := HBr.out.trans (HBo2.out.mono (by omega))
          have HRe3 : Hid ((w2.setCell ⟨w1.heap.size, 0, none⟩ (.slice A' (k + 1) cp')).heap[w.heap.size]? = some (.cells #[.slice none 0 0, .slice none 0 0] 66 (0, 0))) := (HBo2.out.block _ (by omega)).trans HRe.out
          clear HIn2 HBo2
          generalize w2.setCell ⟨w1.heap.size, 0, none⟩ (.slice A' (k + 1) cp') = w3 at *
          rename Hid (InS2 _ _ _ _ _ _ _ _) => HIn3
          have hob3 : w1.heap.size < w3.heap.size := (Array.getElem?_eq_some_iff.1 HIn3.out.1).1
          have HKq2 : Hid (∀ W, Below w3.heap.size w3 W → W.heap[w1.heap.size]? = some (.cells #[.slice A' (k + 1) cp', x2] 66 (0, 0)) ∧ W.cell? ⟨bd, od + k * 3 + 1, none⟩ = some (.int .i64 (lo k)) ∧ W.cell? ⟨bd, od + k * 3 + 2, none⟩ = some (.int .i64 (hi k))) := fun W hW => ⟨(hW.block _ hob3).trans HIn3.out.1, HKd.out W (st HB3.out hW)⟩
          rename_i K2 hK2
          refine wp_region_TK (n1 := 8) (T := TL [isW (.pointer (some ⟨w1.heap.size, 1, none⟩)), isW x2, isW (.slice (some ⟨bd, od, none⟩) n cap), isW (.int .i64 k), isW (.pointer (some ⟨bd, od + k * 3, none⟩)), isW (.pointer (some ⟨bd, od + k * 3 + 2, none⟩)), isW (.int .i64 (hi k)), OneI (hi k) w3.heap.size]) (by kernel_rfl) (by decide) (by kernel_rfl) (by kernel_rfl) ?step ?tail
          case step =>
            intro listed a W i HL hi9 hilt
            have dl := HL.dl (l := [some 29, some 30, some 31, some 32, some 33, some 34, some 35, some 36, some 37, some 38, none]) rfl
            have ap := apart_of dl (by decide)
            obtain ⟨q1, q2, q3⟩ := HKq2.out W HL.below
            have hBW := HL.below.size
            have mono : ∀ p' ∈ [isW (.pointer (some ⟨w1.heap.size, 1, none⟩)), isW x2, isW (.slice (some ⟨bd, od, none⟩) n cap), isW (.int .i64 k), isW (.pointer (some ⟨bd, od + k * 3, none⟩)), isW (.pointer (some ⟨bd, od + k * 3 + 2, none⟩)), isW (.int .i64 (hi k)), OneI (hi k) w3.heap.size], Mono p' := by
              intro p' hp
              simp only [List.mem_cons, List.not_mem_nil, or_false] at hp
              rcases hp with rfl | rfl | rfl | rfl | rfl | rfl | rfl | rfl
              · exact isW_mono _
              · exact isW_mono _
              · exact isW_mono _
              · exact isW_mono _
              · exact isW_mono _
              · exact isW_mono _
              · exact isW_mono _
              · exact oneI_mono _ _
            rcases (by omega : i = 0 ∨ i = 1 ∨ i = 2 ∨ i = 3 ∨ i = 4 ∨ i = 5 ∨ i = 6 ∨ i = 7) with rfl | rfl | rfl | rfl | rfl | rfl | rfl | rfl
            · exact wpOp_of rfl (.inl rfl) (op_fB (by decide) rfl rfl (HL.old 5 (old_of' dl 5 (by decide))) (HL.over mono ap rfl rfl (by simp) (Below.refl _ _) rfl))
            · exact wpOp_of rfl (.inl rfl) (op_lsl (.inl rfl) rfl rfl (HL.got' hi9 (j := 0) (t := 29) rfl (by kernel_rfl) rfl rfl) (box_gen q1).2.1 (HL.over mono ap rfl rfl (by simp) (Below.refl _ _) rfl))
            · exact wpOp_of rfl (.inl rfl) (op_mv rfl rfl (HL.over mono ap rfl rfl (by simp) (Below.refl _ _) (HL.old 0 (old_of' dl 0 (by decide)))))
            · exact wpOp_of rfl (.inl rfl) (op_mv rfl rfl (HL.over mono ap rfl rfl (by simp) (Below.refl _ _) (HL.old 6 (old_of' dl 6 (by decide)))))
            · exact wpOp_of rfl (.inl rfl) (op_ixD rfl rfl (HL.got' hi9 (j := 2) (t := 31) rfl (by kernel_rfl) rfl rfl) (HL.got' hi9 (j := 3) (t := 32) rfl (by kernel_rfl) rfl rfl) hlt (HL.over mono ap rfl rfl (by simp) (Below.refl _ _) rfl))
            · exact wpOp_of rfl (.inl rfl) (op_fD (by decide) rfl rfl (HL.got' hi9 (j := 4) (t := 33) rfl (by kernel_rfl) rfl rfl) (HL.over mono ap rfl rfl (by simp) (Below.refl _ _) rfl))
            · exact wpOp_of rfl (.inl rfl) (op_ldI rfl rfl (HL.got' hi9 (j := 5) (t := 34) rfl (by kernel_rfl) rfl rfl) q3 (HL.over mono ap rfl rfl (by simp) (Below.refl _ _) rfl))
            · exact wpOp_of rfl (.inl rfl) (op_bsI rfl rfl (HL.got' hi9 (j := 6) (t := 35) rfl (by kernel_rfl) rfl rfl) (HL.over mono ap rfl rfl (by simp) (bel_nw W _) ⟨_, rfl, hBW, heap_alloc_new W _⟩))
          case tail =>
            intro listed a W HL hall
            have e1 := HL.got 1 _ 30 rfl rfl (hall 1 (by decide))
            obtain ⟨b, e2, f1, f2⟩ := HL.got 7 _ 36 rfl rfl (hall 7 (by decide))
            have dl := HL.dl (l := [some 29, some 30, some 31, some 32, some 33, some 34, some 35, some 36, some 37, some 38, none]) rfl
            have s0 := HL.old 0 (old_of' dl 0 (by decide))
            have s1 := HL.old 1 (old_of' dl 1 (by decide))
            have s2 := HL.old 2 (old_of' dl 2 (by decide))
            have s3 := HL.old 3 (old_of' dl 3 (by decide))
            have s4 := HL.old 4 (old_of' dl 4 (by decide))
            have s5 := HL.old 5 (old_of' dl 5 (by decide))
            have s6 := HL.old 6 (old_of' dl 6 (by decide))
            have s7 := HL.old 7 (old_of' dl 7 (by decide))
            have s8 := HL.old 8 (old_of' dl 8 (by decide))
            have s9 := HL.old 9 (old_of' dl 9 (by decide))
            have s10 := HL.old 10 (old_of' dl 10 (by decide))
            have s11 := HL.old 11 (old_of' dl 11 (by decide))
            have s12 := HL.old 12 (old_of' dl 12 (by decide))
            have s39 := HL.old 39 (old_of' dl 39 (by decide))
            obtain ⟨f, hf, rfl⟩ := actlitf 40 a (HL.frame.trans (by simp)) (HL.defers.trans rfl)
            rw [show List.range 40 = [0, 1, 2, 3, 4, 5, 6, 7, 8, 9, 10, 11, 12, 13, 14, 15, 16, 17, 18, 19, 20, 21, 22, 23, 24, 25, 26, 27, 28, 29, 30, 31, 32, 33, 34, 35, 36, 37, 38, 39] from rfl]
            simp only [List.map_cons, List.map_nil]
            have q0 : f 0 = .slice (some ⟨bd, od, none⟩) n cap := (hf 0).symm.trans s0
            have q1 : f 1 = undef := (hf 1).symm.trans s1
            have q2 : f 2 = .pointer (some ⟨w.heap.size, 0, none⟩) := (hf 2).symm.trans s2
            have q3 : f 3 = .int .i64 0 := (hf 3).symm.trans s3
            have q4 : f 4 = .int .i64 0 := (hf 4).symm.trans s4
            have q5 : f 5 = .pointer (some ⟨w1.heap.size, 0, none⟩) := (hf 5).symm.trans s5
            have q6 : f 6 = .int .i64 k := (hf 6).symm.trans s6
            have q7 : f 7 = .slice (some ⟨bd, od, none⟩) n cap := (hf 7).symm.trans s7
            have q8 : f 8 = .int .i64 0 := (hf 8).symm.trans s8
            have q9 : f 9 = .int .i64 0 := (hf 9).symm.trans s9
            have q10 : f 10 = .bool false := (hf 10).symm.trans s10
            have q11 : f 11 = undef := (hf 11).symm.trans s11
            have q12 : f 12 = undef := (hf 12).symm.trans s12
            have q39 : f 39 = undef := (hf 39).symm.trans s39
            have q30 : f 30 = x2 := (hf 30).symm.trans e1
            have q36 : f 36 = .slice (some ⟨b, 0, none⟩) 1 1 := (hf 36).symm.trans e2
            rw [q0, q1, q2, q3, q4, q5, q6, q7, q8, q9, q10, q11, q12, q39, q30, q36]
            have hb0 := HL.below
            have hin := HIn3.out.below hb0
            clear e1 e2 s0 s1 s2 s3 s4 s5 s6 s7 s8 s9 s10 s11 s12 s39 q0 q1 q2 q3 q4 q5 q6 q7 q8 q9 q10 q11 q12 q39 q30 q36 hf dl hall HL
            refine wpList_appJ rfl (.tmp 30) (.tmp 36) rfl W (hi k) (w1.heap.size + 1) x2 k hi rfl b rfl f2 hin.2.2.1 (by omega) (by have := (Array.getElem?_eq_some_iff.1 hin.1).1; omega) ?_
            intro v' w2 hown hgr hat
            obtain ⟨hbx, hin2, hBo⟩ := hin.app2 hown hgr hat
            obtain ⟨A', cp', rfl, -⟩ := hown.ints
            have HIn2 := Lib.hid hin2
            have HBo2 : Hid (Below w1.heap.size w3 _) := (hb0.mono (by omega)).trans hBo
            obtain ⟨t0, t1, u0, u1⟩ := box_gen hbx
            clear hin hin2 hbx hgr hat hown f1 f2 hb0 hBo
            go_wp2_with fail
            clear t0 t1 u0 u1
            go_roundw
            case rel => exact ⟨k + 1, _, _, by omega, by go_num, ⟨HIn2.out.1, HIn2.out.2.1, HIn2.out.2.2.1.congr fun j _ => by unfold updZ; split <;> simp [*], HIn2.out.2.2.2⟩, (HBo2.out.block _ (by omega)).trans HRe3.out, HB3.out.trans (HBo2.out.mono (by omega))⟩
            case measure => simp [intOf]; omega

      · obtain rfl : k = n := by omega
        obtain ⟨P, c, rfl, -⟩ := HIn.out.2.1.ints
        obtain ⟨Q, d, rfl, -⟩ := HIn.out.2.2.1.ints
        obtain ⟨t0, t1, u0, u1⟩ := box_gen HIn.out.1
        have hres := HRe.out
        obtain ⟨r0, r1, z0, z1⟩ := box_at hres
        go_wp2
        refine bodyPost_ret (v := .tuple #[BoxW P Q k c k d, .int .i64 0]) (res_cell_tmp Tryz.results38 _ _ (w.heap.size) 66 _ (0, 0) _ rfl (put2 hres _ _) Tryz.underlying66 rfl (by rw [info_box]; rfl)) rfl ?_
        have gr : wr.grownBy ((wr.setCell ⟨w.heap.size, 0, none⟩ (.slice P k c)).setCell ⟨w.heap.size, 1, none⟩ (.slice Q k d)) (some w.heap.size) := gr2 (grown_set _ _ _ _) (grown_set _ _ _ _)
        exact ⟨HY2.out _ _ _ _ _ (HIn.out.2.1.kept gr (HIn.out.2.1.ne (by omega))).ints' (HIn.out.2.2.1.kept gr (HIn.out.2.2.1.ne (by omega))).ints', (HBr.out.setCell (p := ⟨w.heap.size, 0, none⟩) (Nat.le_refl _) _).setCell (p := ⟨w.heap.size, 1, none⟩) (Nat.le_refl _) _⟩
  · have g2 : (z != 0) = true := by rw [bne_iff_ne]; exact h0
    have HN2 := Lib.hid (HN.out h0)
    have hres := HR1.out
    obtain ⟨r0, r1, z0, z1⟩ := box_at hres
    go_wp2
    refine bodyPost_ret (v := .tuple #[BoxV none none 0 0 0 0, .int .i64 z]) (res_cell_tmp Tryz.results38 _ _ (w.heap.size) 66 _ (0, 0) _ rfl (put2 hres _ _) Tryz.underlying66 rfl (by rw [info_box]; rfl)) rfl ?_
    exact ⟨HN2.out _, (HB1.out.setCell (p := ⟨w.heap.size, 0, none⟩) (Nat.le_refl _) _).setCell (p := ⟨w.heap.size, 1, none⟩) (Nat.le_refl _) _⟩
end Go.Proofs.YtoippldgoehpcaaGreatDoor
end

/- A box of two lists that are written in place. -/
section
namespace Go.Proofs.YtoippldgoehpcaaGreatDoor
open Go Go.RowKit Go.Deep

theorem OwnI.at_ {w : World} {B n g c : Nat} {f : Nat → Int} (h : OwnI w B (.slice (some ⟨g, 0, none⟩) n c) n f) (hn : 0 < n) : B ≤ g ∧ g < w.heap.size ∧ (∀ k, k < n → w.cell? ⟨g, k, none⟩ = some (.int .i64 (f k))) ∧ (∀ k, w.frozen? ⟨g, k, none⟩ = false) ∧ ∀ k y, k < n → OwnI (w.setCell ⟨g, k, none⟩ (.int .i64 y)) B (.slice (some ⟨g, 0, none⟩) n c) n (updZ f k y) := by
  obtain ⟨g', c', e, h1, h2, h3, h4, h5⟩ := h.put hn
  injection e with e _ e2
  injection e with e
  injection e with e
  subst e e2
  exact ⟨h1, h2, h3, h4, h5⟩
/-- The box at bb has two lists of the walk's own, f and g. -/
def HuSt (B gl cl gh ch bb n b0 : Nat) (W0 W : World) (f g : Nat → Int) : Prop :=
  OwnI W B (.slice (some ⟨gl, 0, none⟩) n cl) n f ∧ OwnI W B (.slice (some ⟨gh, 0, none⟩) n ch) n g ∧ W.heap[bb]? = some (.cells #[.slice (some ⟨gl, 0, none⟩) n cl, .slice (some ⟨gh, 0, none⟩) n ch] 66 (0, 0)) ∧ Below b0 W0 W
section
variable {B gl cl gh ch bb n b0 : Nat} {W0 W W' : World} {f g f' g' : Nat → Int}
theorem HuSt.below (h : HuSt B gl cl gh ch bb n b0 W0 W f g) (hb : Below W.heap.size W W') (hz : b0 ≤ W0.heap.size) : HuSt B gl cl gh ch bb n b0 W0 W' f g :=
  ⟨h.1.below hb, h.2.1.below hb, (hb.block _ (Array.getElem?_eq_some_iff.1 h.2.2.1).1).trans h.2.2.1, h.2.2.2.trans (hb.mono (Nat.le_trans hz h.2.2.2.size))⟩
theorem HuSt.congr (h : HuSt B gl cl gh ch bb n b0 W0 W f g) (h1 : ∀ j, j < n → f j = f' j) (h2 : ∀ j, j < n → g j = g' j) : HuSt B gl cl gh ch bb n b0 W0 W f' g' := ⟨h.1.congr h1, h.2.1.congr h2, h.2.2⟩
theorem HuSt.setL (h : HuSt B gl cl gh ch bb n b0 W0 W f g) (hne : gl ≠ gh ∧ gl ≠ bb) (hb : b0 ≤ gl) {j : Nat} (hj : j < n) (y : Int) : HuSt B gl cl gh ch bb n b0 W0 (W.setCell ⟨gl, j, none⟩ (.int .i64 y)) (updZ f j y) g :=
  ⟨(h.1.at_ (by omega)).2.2.2.2 j y hj, h.2.1.kept (grown_set _ _ _ _) (.inr fun e => by injection e with e; exact hne.1 e.symm), (blk_setCell_other _ _ _ _ (fun e => hne.2 e.symm)).trans h.2.2.1, h.2.2.2.setCell (p := ⟨gl, j, none⟩) hb _⟩
theorem HuSt.setH (h : HuSt B gl cl gh ch bb n b0 W0 W f g) (hne : gl ≠ gh ∧ gh ≠ bb) (hb : b0 ≤ gh) {j : Nat} (hj : j < n) (y : Int) : HuSt B gl cl gh ch bb n b0 W0 (W.setCell ⟨gh, j, none⟩ (.int .i64 y)) f (updZ g j y) :=
  ⟨h.1.kept (grown_set _ _ _ _) (.inr fun e => by injection e with e; exact hne.1 e), (h.2.1.at_ (by omega)).2.2.2.2 j y hj, (blk_setCell_other _ _ _ _ (fun e => hne.2 e.symm)).trans h.2.2.1, h.2.2.2.setCell (p := ⟨gh, j, none⟩) hb _⟩
theorem HuSt.cells (h : HuSt B gl cl gh ch bb n b0 W0 W f g) {j : Nat} (hj : j < n) : (W.cell? ⟨bb, 0, none⟩ = some (.slice (some ⟨gl, 0, none⟩) n cl) ∧ W.cell? ⟨bb, 1, none⟩ = some (.slice (some ⟨gh, 0, none⟩) n ch)) ∧ (W.cell? ⟨gl, j, none⟩ = some (.int .i64 (f j)) ∧ W.frozen? ⟨gl, j, none⟩ = false) ∧ W.cell? ⟨gh, j, none⟩ = some (.int .i64 (g j)) ∧ W.frozen? ⟨gh, j, none⟩ = false := by
  have h1 := h.1.at_ (by omega)
  have h2 := h.2.1.at_ (by omega)
  exact ⟨⟨(box_gen h.2.2.1).1, (box_gen h.2.2.1).2.1⟩, ⟨h1.2.2.1 j hj, h1.2.2.2.1 j⟩, h2.2.2.1 j hj, h2.2.2.2.1 j⟩
end
/-- The first j numbers of the next round, and the others of this one. -/
def mixI (a b : Nat → Int) (j : Nat) : Nat → Int := fun i => if i < j then b i else a i
theorem mix_upd {a b : Nat → Int} {j : Nat} {y : Int} (h : y = b j) (i : Nat) : updZ (mixI a b j) j y i = mixI a b (j + 1) i := by
  unfold updZ mixI
  by_cases e : i = j
  · subst e
    rw [if_pos rfl, if_pos (Nat.lt_succ_self _), h]
  · rw [if_neg e]
    by_cases h2 : i < j
    · rw [if_pos h2, if_pos (by omega)]
    · rw [if_neg h2, if_neg (by omega)]
theorem mix_end {a b : Nat → Int} {j n : Nat} (hj : j < n) : mixI a b n j = b j := if_pos hj
theorem mix_at {a b : Nat → Int} (j : Nat) : mixI a b j j = a j := if_neg (Nat.lt_irrefl j)
end Go.Proofs.YtoippldgoehpcaaGreatDoor
end

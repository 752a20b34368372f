/- The reference's key of an order. -/
import Derived.Test.YtogmbehomilalaaGreatDoorZRfLa
import Derived.Lib.AppendZeros
import Derived.Test.YtogmbehomilalaaGreatDoorZSmA
import Derived.Test.YtogmbehomilalaaGreatDoorZExtR
import Derived.BigRegion
import Derived.Test.YtogmbehomilalaaGreatDoorZSeq
import Derived.Test.YtogmbehomilalaaGreatDoorZRfC
import Derived.Test.YtogmbehomilalaaGreatDoorZSrK
import Derived.Test.YtogmbehomilalaaGreatDoorZSpG
import Derived.Test.YtogmbehomilalaaGreatDoorZInvReg

/- The reference's key of an order. -/
section
namespace Go.Proofs.YtogmbehomilalaaGreatDoor
open Go Go.RowKit Go.Deep

set_option maxRecDepth 100000 in
set_option maxHeartbeats 8000000 in
theorem r_sortKey (w : World) (S O A : Option Addr) (s sc o oc n yc wd t : Nat) (ord tile form codec : Int) (e : Nat → Nat) (hy : IntsAt w A n fun j => ((digC e n t j : Nat) : Int)) (ho : ordB ord tile = true) (h1 : 1 ≤ n) (hn : n ≤ 4) (hw : wd ≤ 15) (hY : LtN n wd (offN e n t)) (he : ∀ k, k < n → 1 ≤ e k ∧ e k ≤ 4096) :
    Calls Tryz.prog 55 #[LayV S s sc O o oc ord tile form codec, .slice A n yc, .int .i64 wd] w fun e' w' => NewI w' w.heap.size (keyLen ord n wd) (keyX ord tile n wd e t) e' ∧ Below w.heap.size w w' := by
  have HA := Lib.hid hy
  have KB := Lib.hid (lay_box w S O s sc o oc ord tile form codec)
  have HB1 : Hid (Below w.heap.size w (w.alloc (.cells #[.slice S s sc, .slice O o oc, .int .i64 ord, .int .i64 tile, .int .i64 form, .int .i64 codec] 43))) := (Below.refl _ _).alloc (Nat.le_refl _) _
  have hz1 : (w.alloc (.cells #[.slice S s sc, .slice O o oc, .int .i64 ord, .int .i64 tile, .int .i64 form, .int .i64 codec] 43)).heap.size = w.heap.size + 1 := by simp
  obtain ⟨Wa, hWa⟩ : ∃ Wa, Wa = w.alloc (.cells #[.slice S s sc, .slice O o oc, .int .i64 ord, .int .i64 tile, .int .i64 form, .int .i64 codec] 43) := ⟨_, rfl⟩
  rw [← hWa] at KB HB1 hz1
  have hlit := OwnI.lit Wa (w.heap.size + 1) (by omega) fun _ => 0
  rw [hz1] at hlit
  have HLit := Lib.hid hlit
  have HBl : Hid (Below w.heap.size w (Wa.alloc (.cells #[] 3))) := st HB1.out (bel_nw Wa _)
  have HWa := Lib.hid hWa
  have Hz1 := Lib.hid hz1
  obtain ⟨k0, k1, k2, k3, k4, k5⟩ := KB.out Wa (Below.refl _ _)
  have hbz : w.heap.size + 1 ≤ (Wa.alloc (.cells #[] 3)).heap.size := by simp; omega
  clear hy hlit hWa hz1
  rcases ord_cases3 ho with rfl | rfl | rfl
  · go_enter Tryz.func55, Tryz.ntmps55
    rw [HWa.out] at k0 k1 k2 k3 k4 k5
    go_wp2_with (at_builtin; rw [← HWa.out]; refine wpList_appIs rfl _ _ rfl (Wa.alloc (.cells #[] 3)) (w.heap.size + 1) (.slice (some ⟨w.heap.size + 1, 0, none⟩) 0 0) 0 (fun _ => 0) rfl A n yc _ rfl (HA.out.below HBl.out) HLit.out (by omega) hbz ?_; intro v6 w6 hown6 hgr6 hat6; rw [Nat.zero_add] at hown6; have HN6 := Lib.hid hown6.new; have HB6 : Hid (Below w.heap.size w w6) := HBl.out.grown hgr6 HBl.out.size (fun g hg => Nat.le_trans (Nat.le_succ _) (HLit.out.block hg).1); clear hown6 hgr6 hat6)
    go_ret
    obtain ⟨P9, c9, e9, i9, n9⟩ := HN6.out
    refine ⟨NewI.congr (f := catI 0 (fun _ => 0) (fun j => ((digC e n t j : Nat) : Int))) ⟨P9, c9, e9, i9, fun a ha => Nat.le_trans (Nat.le_succ _) (n9 a ha)⟩ fun k hk => ?_, HB6.out⟩
    unfold catI
    rw [if_neg (by omega), Nat.sub_zero]
    rfl
  · go_enter Tryz.func55, Tryz.ntmps55
    rw [HWa.out] at k0 k1 k2 k3 k4 k5
    go_wp2_with fail
    rw [← HWa.out]
    clear k0 k1 k2 k3 k4 k5
    have hof : IntsAt Wa A n fun j => ((offN e n t j : Nat) : Int) := (HA.out.below HB1.out).congrK fun k hk => by unfold offN; rw [if_pos hk]
    refine (r_key Wa A n yc wd (offN e n t) hof h1 hn hw hY).mono ?_
    rintro r w6 ⟨hn6, hb6⟩
    obtain ⟨P9, c9, rfl, i9, n9⟩ := hn6
    have HI := Lib.hid i9
    have HN := Lib.hid n9
    have HB6 : Hid (Below w.heap.size w w6) := st HB1.out hb6
    clear i9 n9 hb6 hof
    go_wp2
    go_ret
    refine ⟨NewI.congr (f := fun j => ((bitL (hilY n wd (offN e n t)) n wd j : Nat) : Int)) ⟨P9, c9, rfl, HI.out, fun a ha => Nat.le_trans HB1.out.size (HN.out a ha)⟩ fun k hk => rfl, HB6.out⟩
  · go_enter Tryz.func55, Tryz.ntmps55
    rw [HWa.out] at k0 k1 k2 k3 k4 k5
    obtain ⟨tl, rfl, ht1, ht2⟩ : ∃ tl : Nat, tile = (tl : Int) ∧ 1 ≤ tl ∧ tl ≤ 64 := by
      have h8 : 1 ≤ tile ∧ tile ≤ 64 := by
        unfold ordB at ho
        simpa using ho
      exact ⟨tile.toNat, by omega, by omega, by omega⟩
    have HE := Lib.hid he
    clear ho he hY
    go_wp2_with fail
    rw [← HWa.out]
    clear k0 k1 k2 k3 k4 k5
    go_loopw [7, 8] (fun v i wr => ∃ k : Nat, k ≤ n ∧ i = .int .i64 k ∧ Hid (OwnI wr Wa.heap.size v k fun j => ((digC e n t j : Nat) : Int) / (tl : Int)) ∧ Hid (Below Wa.heap.size Wa wr)) (fun _ i _ => n - (intOf i).toNat)
    case atStart => exact ⟨0, Nat.zero_le _, rfl, OwnI.nil _ _ _, Below.refl _ _⟩
    case round =>
      obtain ⟨k, hk, rfl, HO, HBr⟩ := hrel
      obtain ⟨P, pc, rfl, -⟩ := HO.out.ints
      have HBw : Hid (Below w.heap.size w wr) := st HB1.out HBr.out
      by_cases hlt : k < n
      · obtain ⟨b1, o1, rfl, hb1, hc1⟩ := (HA.out.below HBw.out) (by omega)
        have x0 : wr.cell? ⟨b1, o1 + k, none⟩ = some (.int .i64 ((digC e n t k : Nat) : Int)) := hc1 k hlt
        clear hc1
        have hdg : digC e n t k < 4096 := Nat.lt_of_lt_of_le (digC_lt (fun k hk => (HE.out k hk).1) hlt) (HE.out k hlt).2
        have HKq : Hid (∀ W, Below wr.heap.size wr W → W.cell? ⟨b1, o1 + k, none⟩ = some (.int .i64 ((digC e n t k : Nat) : Int)) ∧ W.cell? ⟨w.heap.size, 3, none⟩ = some (.int .i64 (tl : Int))) := fun W hW => ⟨(hW.cell (p := ⟨b1, o1 + k, none⟩) hb1).trans x0, (KB.out W (st HBr.out hW)).2.2.2.1⟩
        have hlt' : (k : Int) < (n : Int) := by omega
        have hx9 : (0 : Int) ≤ ((digC e n t k : Nat) : Int) ∧ ((digC e n t k : Nat) : Int) ≤ 4294967296 := ⟨by omega, by omega⟩
        have hy9 : (1 : Int) ≤ (tl : Int) ∧ (tl : Int) ≤ 64 := ⟨by omega, by omega⟩
        go_wp2_with fail
        rename_i K2 hK2
        refine wp_region_TK (n1 := 9) (T := TL [isW (.slice P k pc), isW (.slice (some ⟨b1, o1, none⟩) n yc), isW (.int .i64 (k : Nat)), isW (.pointer (some ⟨b1, o1 + k, none⟩)), isW (.int .i64 ((digC e n t k : Nat) : Int)), isW (.pointer (some ⟨w.heap.size, 3, none⟩)), isW (.int .i64 (tl : Int)), isW (.int .i64 (((digC e n t k : Nat) : Int) / (tl : Int))), OneI (((digC e n t k : Nat) : Int) / (tl : Int)) wr.heap.size, (fun _ _ => True), (fun _ _ => False)]) (by kernel_rfl) (by decide) (by kernel_rfl) (by kernel_rfl) ?step ?tail
        case step =>
          intro listed aa W ix HL hi9 hilt
          have dl := HL.dl (l := [some 24, some 25, some 26, some 27, some 28, some 29, some 30, some 31, some 32, some 33, some 7]) rfl
          have ap := apart_of dl (by decide)
          obtain ⟨q1, q2⟩ := HKq.out W HL.below
          have hBW := HL.below.size
          have mono : ∀ p' ∈ [isW (.slice P k pc), isW (.slice (some ⟨b1, o1, none⟩) n yc), isW (.int .i64 (k : Nat)), isW (.pointer (some ⟨b1, o1 + k, none⟩)), isW (.int .i64 ((digC e n t k : Nat) : Int)), isW (.pointer (some ⟨w.heap.size, 3, none⟩)), isW (.int .i64 (tl : Int)), isW (.int .i64 (((digC e n t k : Nat) : Int) / (tl : Int))), OneI (((digC e n t k : Nat) : Int) / (tl : Int)) wr.heap.size, (fun _ _ => True), (fun _ _ => False)], Mono p' := by
            intro p' hp
            simp only [List.mem_cons, List.not_mem_nil, or_false] at hp
            rcases hp with rfl | rfl | rfl | rfl | rfl | rfl | rfl | rfl | rfl | rfl | rfl
            · exact isW_mono _
            · exact isW_mono _
            · exact isW_mono _
            · exact isW_mono _
            · exact isW_mono _
            · exact isW_mono _
            · exact isW_mono _
            · exact isW_mono _
            · exact oneI_mono _ _
            · exact fun _ _ _ h _ => h
            · exact fun _ _ _ h _ => h
          rcases (by omega : ix = 0 ∨ ix = 1 ∨ ix = 2 ∨ ix = 3 ∨ ix = 4 ∨ ix = 5 ∨ ix = 6 ∨ ix = 7 ∨ ix = 8) with rfl | rfl | rfl | rfl | rfl | rfl | rfl | rfl | rfl
          · exact wpOp_of rfl (.inl rfl) (op_mv rfl rfl (HL.over mono ap rfl rfl (by simp) (Below.refl _ _) (HL.old 7 (old_end HL dl 7 10 (by decide) rfl (fun _ _ h => h)))))
          · exact wpOp_of rfl (.inl rfl) (op_mv rfl rfl (HL.over mono ap rfl rfl (by simp) (Below.refl _ _) (HL.old 1 (old_of' dl 1 (by decide)))))
          · exact wpOp_of rfl (.inl rfl) (op_mv rfl rfl (HL.over mono ap rfl rfl (by simp) (Below.refl _ _) (HL.old 8 (old_of' dl 8 (by decide)))))
          · exact wpOp_of rfl (.inl rfl) (op_ixI rfl rfl (HL.got' hi9 (j := 1) (t := 25) rfl (by kernel_rfl) rfl rfl) (HL.got' hi9 (j := 2) (t := 26) rfl (by kernel_rfl) rfl rfl) hlt (HL.over mono ap rfl rfl (by simp) (Below.refl _ _) rfl))
          · exact wpOp_of rfl (.inl rfl) (op_ldI rfl rfl (HL.got' hi9 (j := 3) (t := 27) rfl (by kernel_rfl) rfl rfl) q1 (HL.over mono ap rfl rfl (by simp) (Below.refl _ _) rfl))
          · exact wpOp_of rfl (.inl rfl) (op_fT rfl rfl (HL.old 3 (old_of' dl 3 (by decide))) (HL.over mono ap rfl rfl (by simp) (Below.refl _ _) rfl))
          · exact wpOp_of rfl (.inl rfl) (op_ldI rfl rfl (HL.got' hi9 (j := 5) (t := 29) rfl (by kernel_rfl) rfl rfl) q2 (HL.over mono ap rfl rfl (by simp) (Below.refl _ _) rfl))
          · exact wpOp_of rfl (.inl rfl) (op_qu rfl rfl (HL.got' hi9 (j := 4) (t := 28) rfl (by kernel_rfl) rfl rfl) (HL.got' hi9 (j := 6) (t := 30) rfl (by kernel_rfl) rfl rfl) hx9 hy9 (HL.over mono ap rfl rfl (by simp) (Below.refl _ _) rfl))
          · exact wpOp_of rfl (.inl rfl) (op_bsI rfl rfl (HL.got' hi9 (j := 7) (t := 31) rfl (by kernel_rfl) rfl rfl) (HL.over mono ap rfl rfl (by simp) (bel_nw W _) ⟨_, rfl, hBW, heap_alloc_new W _⟩))
        case tail =>
          intro listed aa W HL hall
          have dl := HL.dl (l := [some 24, some 25, some 26, some 27, some 28, some 29, some 30, some 31, some 32, some 33, some 7]) rfl
          have s0 : slot aa 0 = LayV S s sc O o oc 3 (tl : Int) form codec := HL.old 0 (old_of' dl 0 (by decide))
          have s1 : slot aa 1 = Value.slice (some ⟨b1, o1, none⟩) n yc := HL.old 1 (old_of' dl 1 (by decide))
          have s2 : slot aa 2 = Value.int IntKind.i64 ↑wd := HL.old 2 (old_of' dl 2 (by decide))
          have s3 : slot aa 3 = Value.pointer (some ⟨w.heap.size, 0, none⟩) := HL.old 3 (old_of' dl 3 (by decide))
          have s4 : slot aa 4 = undef := HL.old 4 (old_of' dl 4 (by decide))
          have s5 : slot aa 5 = undef := HL.old 5 (old_of' dl 5 (by decide))
          have s6 : slot aa 6 = Value.slice none 0 0 := HL.old 6 (old_of' dl 6 (by decide))
          have s8 : slot aa 8 = Value.int IntKind.i64 ↑k := HL.old 8 (old_of' dl 8 (by decide))
          have s9 : slot aa 9 = Value.pointer (some ⟨w.heap.size, 2, none⟩) := HL.old 9 (old_of' dl 9 (by decide))
          have s10 : slot aa 10 = Value.int IntKind.i64 3 := HL.old 10 (old_of' dl 10 (by decide))
          have s11 : slot aa 11 = Value.bool false := HL.old 11 (old_of' dl 11 (by decide))
          have s12 : slot aa 12 = Value.bool false := HL.old 12 (old_of' dl 12 (by decide))
          have s13 : slot aa 13 = undef := HL.old 13 (old_of' dl 13 (by decide))
          have s14 : slot aa 14 = undef := HL.old 14 (old_of' dl 14 (by decide))
          have s15 : slot aa 15 = undef := HL.old 15 (old_of' dl 15 (by decide))
          have s16 : slot aa 16 = Value.bool true := HL.old 16 (old_of' dl 16 (by decide))
          have s17 : slot aa 17 = Value.bool true := HL.old 17 (old_of' dl 17 (by decide))
          have s18 : slot aa 18 = Value.int IntKind.i64 ↑k := HL.old 18 (old_of' dl 18 (by decide))
          have s19 : slot aa 19 = Value.slice (some ⟨b1, o1, none⟩) n yc := HL.old 19 (old_of' dl 19 (by decide))
          have s20 : slot aa 20 = Value.int IntKind.i64 ↑n := HL.old 20 (old_of' dl 20 (by decide))
          have s21 : slot aa 21 = Value.bool true := HL.old 21 (old_of' dl 21 (by decide))
          have s22 : slot aa 22 = u22 := HL.old 22 (old_of' dl 22 (by decide))
          have s23 : slot aa 23 = u23 := HL.old 23 (old_of' dl 23 (by decide))
          have s34 : slot aa 34 = undef := HL.old 34 (old_of' dl 34 (by decide))
          have s35 : slot aa 35 = undef := HL.old 35 (old_of' dl 35 (by decide))
          have s36 : slot aa 36 = undef := HL.old 36 (old_of' dl 36 (by decide))
          have s37 : slot aa 37 = undef := HL.old 37 (old_of' dl 37 (by decide))
          have s38 : slot aa 38 = undef := HL.old 38 (old_of' dl 38 (by decide))
          have s39 : slot aa 39 = undef := HL.old 39 (old_of' dl 39 (by decide))
          have e0 := HL.got 0 _ 24 rfl rfl (hall 0 (by decide))
          obtain ⟨b, e1, f1, f2⟩ := HL.got 8 _ 32 rfl rfl (hall 8 (by decide))
          obtain ⟨fr, hf, rfl⟩ := actlitf 40 aa (HL.frame.trans (by simp)) (HL.defers.trans rfl)
          rw [show List.range 40 = [0, 1, 2, 3, 4, 5, 6, 7, 8, 9, 10, 11, 12, 13, 14, 15, 16, 17, 18, 19, 20, 21, 22, 23, 24, 25, 26, 27, 28, 29, 30, 31, 32, 33, 34, 35, 36, 37, 38, 39] from rfl]
          simp only [List.map_cons, List.map_nil]
          have q0 := (hf 0).symm.trans s0
          have q1 := (hf 1).symm.trans s1
          have q2 := (hf 2).symm.trans s2
          have q3 := (hf 3).symm.trans s3
          have q4 := (hf 4).symm.trans s4
          have q5 := (hf 5).symm.trans s5
          have q6 := (hf 6).symm.trans s6
          have q8 := (hf 8).symm.trans s8
          have q9 := (hf 9).symm.trans s9
          have q10 := (hf 10).symm.trans s10
          have q11 := (hf 11).symm.trans s11
          have q12 := (hf 12).symm.trans s12
          have q13 := (hf 13).symm.trans s13
          have q14 := (hf 14).symm.trans s14
          have q15 := (hf 15).symm.trans s15
          have q16 := (hf 16).symm.trans s16
          have q17 := (hf 17).symm.trans s17
          have q18 := (hf 18).symm.trans s18
          have q19 := (hf 19).symm.trans s19
          have q20 := (hf 20).symm.trans s20
          have q21 := (hf 21).symm.trans s21
          have q22 := (hf 22).symm.trans s22
          have q23 := (hf 23).symm.trans s23
          have q34 := (hf 34).symm.trans s34
          have q35 := (hf 35).symm.trans s35
          have q36 := (hf 36).symm.trans s36
          have q37 := (hf 37).symm.trans s37
          have q38 := (hf 38).symm.trans s38
          have q39 := (hf 39).symm.trans s39
          have q24 : fr 24 = .slice P k pc := (hf 24).symm.trans e0
          have q32 : fr 32 = .slice (some ⟨b, 0, none⟩) 1 1 := (hf 32).symm.trans e1
          rw [q0, q1, q2, q3, q4, q5, q6, q8, q9, q10, q11, q12, q13, q14, q15, q16, q17, q18, q19, q20, q21, q22, q23, q34, q35, q36, q37, q38, q39, q24, q32]
          clear s0 s1 s2 s3 s4 s5 s6 s8 s9 s10 s11 s12 s13 s14 s15 s16 s17 s18 s19 s20 s21 s22 s23 s34 s35 s36 s37 s38 s39 q0 q1 q2 q3 q4 q5 q6 q8 q9 q10 q11 q12 q13 q14 q15 q16 q17 q18 q19 q20 q21 q22 q23 q34 q35 q36 q37 q38 q39 q24 q32
          have hb0 := HL.below
          have hO := OwnI.below HO.out hb0
          have HBW : Hid (Below Wa.heap.size Wa W) := st HBr.out hb0
          clear hf dl hall HL e0 e1
          refine wpList_appJ rfl (.tmp 24) (.tmp 32) rfl W (((digC e n t k : Nat) : Int) / (tl : Int)) Wa.heap.size (.slice P k pc) k _ rfl b rfl f2 hO (by omega) HBW.out.size ?_
          intro v' w2 hown hgr hat
          obtain ⟨P2, c2, rfl, -⟩ := hown.ints
          have HB9 : Hid (Below Wa.heap.size Wa w2) := HBW.out.grown hgr HBW.out.size (fun k hk => (hO.block hk).1)
          have HO9 : Hid (OwnI w2 Wa.heap.size (.slice P2 (k + 1) c2) (k + 1) fun j => ((digC e n t j : Nat) : Int) / (tl : Int)) := hown.congr fun j hj => by
            unfold updZ
            split
            · rename_i h; rw [h]
            · rfl
          clear hO hgr hat hown f1 f2 hb0
          go_wp2_with fail
          exact ⟨⟨k + 1, by omega, by go_num, HO9, HB9⟩, by simp [intOf]; omega⟩
      · obtain rfl : k = n := by omega
        have hz9 := HBr.out.size
        go_wp2_with (at_builtin; refine wpList_appIs rfl _ _ rfl wr Wa.heap.size (.slice P k pc) k _ rfl A k yc _ rfl (HA.out.below HBw.out) HO.out (by omega) hz9 ?_; intro v6 w6 hown6 hgr6 hat6; have HN6 := Lib.hid hown6.new; have HB6 : Hid (Below Wa.heap.size Wa w6) := HBr.out.grown hgr6 hz9 (fun g hg => (HO.out.block hg).1); clear hown6 hgr6 hat6)
        go_ret
        obtain ⟨P9, c9, e9, i9, n9⟩ := HN6.out
        refine ⟨NewI.congr (f := catI k (fun j => ((digC e k t j : Nat) : Int) / (tl : Int)) (fun j => ((digC e k t j : Nat) : Int))) ⟨P9, c9, e9, i9, fun a ha => Nat.le_trans HB1.out.size (n9 a ha)⟩ fun j hj => ?_, st HB1.out HB6.out⟩
        rfl
end Go.Proofs.YtogmbehomilalaaGreatDoor
end

/- A list more in a list of lists. -/
section
namespace Go.Proofs.YtogmbehomilalaaGreatDoor
open Go Go.RowKit Go.Deep

/-- One list more, in the walk. -/
theorem wpList_appL {ops : Array Oper} {rest : List Oper} {o : Oper} {a : Act} {Q : Exit → Act → World → Prop} (hgd : o.guard = none) (s x : Operand)
    (ho : o.op = .call { callee := .builtin .append, args := #[s, x], argTypes := #[48, 48] })
    (w : World) (B : Nat) (v : Value) (n : Nat) (ln : Nat → Nat) (f : Nat → Nat → Int) (hs : a.eval s = v) (hown : OwnL w B v n ln f) (b : Nat) (hx : a.eval x = .slice (some ⟨b, 0, none⟩) 1 1) (P : Option Addr) (m d : Nat) (g : Nat → Int) (hb : w.heap[b]? = some (.cells #[.slice P m d] 35 (0, 0))) (hi : IntsAt w P m g) (h0 : m = 0 → P = none ∧ d = 0) (hm : m ≤ 1000000) (hP : ∀ a, P = some a → a.block < w.heap.size ∧ v.ownBlock ≠ some a.block) (hn : n ≤ 1000000) (hB : B ≤ w.heap.size)
    (h : ∀ v' w', OwnL w' B v' (n + 1) (updNN ln n m) (updLL f n g) → w.grownBy w' v.ownBlock → (v'.ownBlock = v.ownBlock ∨ v'.ownBlock = some w.heap.size) → wpList Tryz.prog ops Q rest (a.put o.dst v') w') : wpList Tryz.prog ops Q (o :: rest) a w := by
  obtain ⟨v', w', hr, h2, h3, h4⟩ := run_appL w o.type B v n ln f hown b P m d g hb hi h0 hm hP hn hB
  exact Lib.wpList_append_run w hgd s x _ _ ho v _ hs hx v' w' hr (h v' w' h2 h3 h4)
end Go.Proofs.YtogmbehomilalaaGreatDoor
end

/- The reference's lists of all offsets, in order. -/
section
namespace Go.Proofs.YtogmbehomilalaaGreatDoor
open Go Go.RowKit Go.Deep

theorem OwnL.base' {w : World} {B B' n : Nat} {v : Value} {ln : Nat → Nat} {f : Nat → Nat → Int} (h : OwnL w B v n ln f) (hb : B' ≤ B) : OwnL w B' v n ln f := by
  obtain ⟨xs, ⟨hl, h1⟩, h2⟩ := h
  refine ⟨xs, ⟨hl, h1.imp id ?_⟩, h2⟩
  rintro ⟨g, cap, cur, e, hB, hr⟩
  exact ⟨g, cap, cur, e, Nat.le_trans hb hB, hr⟩
theorem vol_mono {e : Nat → Nat} {n : Nat} (he : ∀ k, k < n → 1 ≤ e k) : ∀ m i, i + m = n → volC e i 0 ≤ volC e n 0
  | 0, i, h => by rw [show i = n by omega]; exact Nat.le_refl _
  | m + 1, i, h => by
    refine Nat.le_trans ?_ (vol_mono he m (i + 1) (by omega))
    rw [volC_last e (Nat.zero_le i)]
    exact Nat.le_mul_of_pos_right _ (he i (by omega))
set_option maxRecDepth 100000 in
set_option maxHeartbeats 8000000 in
theorem r_rowMajor (w : World) (M : Option Addr) (n mc : Nat) (e : Nat → Nat) (hm : IntsAt w M n fun k => ((e k : Nat) : Int)) (hn : n ≤ 4) (he : ∀ k, k < n → 1 ≤ e k) (hv : volC e n 0 ≤ 4096) :
    Calls Tryz.prog 53 #[.slice M n mc] w fun e' w' => ∃ v, e' = .returned v ∧ OwnL w' w.heap.size v (volC e n 0) (fun _ => n) (fun t k => ((digC e n t k : Nat) : Int)) ∧ Below w.heap.size w w' := by
  have HM := Lib.hid hm
  have HE := Lib.hid he
  have HVm : Hid (∀ i, i ≤ n → volC e i 0 ≤ 4096) := fun i hi => Nat.le_trans (vol_mono he (n - i) i (by omega)) hv
  have v0 : volC e 0 0 = 1 := rfl
  have HO0 : Hid (OwnL (w.alloc (.cells #[.slice none 0 0] 35)) w.heap.size (.slice (some ⟨w.heap.size, 0, none⟩) 1 1) (volC e 0 0) (fun _ => 0) (fun t k => ((digC e 0 t k : Nat) : Int))) :=
    ⟨[.slice none 0 0], ⟨rfl, .inr ⟨w.heap.size, 1, #[.slice none 0 0], rfl, Nat.le_refl _, heap_alloc_new _ _, Nat.le_refl _, by unfold maxLen; omega, by simp, by rw [v0]; simp⟩⟩, fun k hk => by
      have hk0 : k = 0 := by rw [v0] at hk; omega
      subst hk0
      exact ⟨none, 0, rfl, fun h => absurd h (Nat.lt_irrefl 0), fun _ => ⟨rfl, rfl⟩, Nat.zero_le _, fun a ha => by cases ha⟩⟩
  have HB0 : Hid (Below w.heap.size w (w.alloc (.cells #[.slice none 0 0] 35))) := bel_nw _ _
  clear hm he hv
  go_enter Tryz.func53, Tryz.ntmps53
  go_wp2_with fail
  generalize w.alloc (.cells #[.slice none 0 0] 35) = w0 at *
  go_loopw [3, 4, 5, 6, 7, 8] (fun v i _ _ _ _ wr => ∃ k : Nat, k ≤ n ∧ i = .int .i64 k ∧ Hid (OwnL wr w.heap.size v (volC e k 0) (fun _ => k) (fun t j => ((digC e k t j : Nat) : Int))) ∧ Hid (Below w.heap.size w wr)) (fun _ i _ _ _ _ _ => n - (intOf i).toNat)
  case atStart => exact ⟨0, Nat.zero_le _, rfl, HO0, HB0⟩
  case round =>
    obtain ⟨i, hi, rfl, HO, HBr⟩ := hrel
    obtain ⟨A, ac, rfl⟩ := HO.out.sl
    by_cases hlt : i < n
    · obtain ⟨w1, rfl⟩ : ∃ w1, w1 = wr := ⟨_, rfl⟩
      have hei := HE.out i hlt
      have HVi : Hid (volC e (i + 1) 0 = volC e i 0 * e i) := volC_last e (Nat.zero_le i)
      have hvi := HVm.out (i + 1) hlt
      have hvi0 := HVm.out i hi
      rw [HVi.out] at hvi
      go_wp2_with fail
      obtain ⟨N, hN⟩ : ∃ N, volC e i 0 = N := ⟨_, rfl⟩
      rw [hN] at HO HVi hvi hvi0 ⊢
      clear hN
      go_loopw [5, 6, 7, 8] (fun v k _ _ wr => ∃ t : Nat, t ≤ N ∧ k = .int .i64 t ∧ Hid (OwnL wr w1.heap.size v (t * e i) (fun _ => i + 1) (fun t j => ((digC e (i + 1) t j : Nat) : Int))) ∧ Hid (Below w1.heap.size w1 wr)) (fun _ k _ _ _ => N - (intOf k).toNat)
      case atStart => exact ⟨0, Nat.zero_le _, rfl, by rw [Nat.zero_mul]; exact OwnL.nil _ _ _ _, Below.refl _ _⟩
      case round =>
        obtain ⟨t, ht, rfl, HOn, HBn⟩ := hrel
        by_cases hlt2 : t < N
        · obtain ⟨wo, rfl⟩ : ∃ wo, wo = wr := ⟨_, rfl⟩
          go_wp2_with fail
          go_loopw [5, 7, 8] (fun v x _ wr => ∃ r : Nat, r ≤ e i ∧ x = .int .i64 r ∧ Hid (OwnL wr w1.heap.size v (t * e i + r) (fun _ => i + 1) (fun t j => ((digC e (i + 1) t j : Nat) : Int))) ∧ Hid (Below w1.heap.size w1 wr)) (fun _ x _ _ => e i - (intOf x).toNat)
          case atStart => exact ⟨0, Nat.zero_le _, rfl, HOn, HBn⟩
          case round =>
            obtain ⟨r, hr, rfl, HOw, HBw⟩ := hrel
            obtain ⟨bm, om, rfl, hbm, hcm⟩ := (HM.out.below (st HBr.out HBw.out)) (by omega)
            have x0 : wr.cell? ⟨bm, om + i, none⟩ = some (.int .i64 ((e i : Nat) : Int)) := hcm i hlt
            clear hcm
            by_cases hlt3 : r < e i
            · obtain ⟨ba, rfl, hba0, hba, hra⟩ := (HO.out.below HBw.out).reads (by omega)
              obtain ⟨P, pc, hp1, hp2, hP0, _, hP⟩ := hra t hlt2
              clear hra
              obtain ⟨A5, c5, hv5⟩ := HOw.out.sl
              subst hv5
              have HP := Lib.hid hp2
              have HNew : Hid (∀ j, j < i + 1 → updZ (catI 0 (fun _ => 0) (fun j => ((digC e i t j : Nat) : Int))) i (r : Int) j = ((digC e (i + 1) (t * e i + r) j : Nat) : Int)) := fun j hj => by
                unfold updZ catI
                by_cases h : j = i
                · subst h
                  rw [if_pos (by omega), dig_more hlt3 (Nat.le_refl _), if_pos rfl]
                · rw [if_neg (by omega), if_neg (by omega), Nat.sub_zero, dig_more hlt3 (by omega), if_neg h]
              have hte : t * e i + r ≤ 1000000 := by
                have h9 : t * e i ≤ N * e i := Nat.mul_le_mul_right _ ht
                have h8 : e i ≤ N * e i := Nat.le_mul_of_pos_left _ (by omega)
                omega
              have HLit := Lib.hid (OwnI.lit wr wr.heap.size (Nat.le_refl _) fun _ => 0)
              have HBwl := Lib.hid (bel_nw wr (.cells #[] 3))
              have hp3 : (wr.alloc (.cells #[] 3)).cell? ⟨ba, t, none⟩ = some (.slice P i pc) := (HBwl.out.cell (p := ⟨ba, t, none⟩) hba).trans hp1
              have hlt3' : (r : Int) < ((e i : Nat) : Int) := by omega
              have hlt2' : (t : Int) < (N : Int) := by omega
              generalize hei9 : e i = ei at *
              have HEI := Lib.hid hei9
              clear hei9 hp2 hP0 hP
              go_wp2_with (first
                | (at_builtin; refine wpList_appIs rfl _ _ rfl (wr.alloc (.cells #[] 3)) wr.heap.size (.slice (some ⟨wr.heap.size, 0, none⟩) 0 0) 0 (fun _ => 0) rfl P i pc _ rfl (HP.out.below HBwl.out) HLit.out (by omega) HBwl.out.size ?_; intro v6 w6 hown6 hgr6 hat6; rw [Nat.zero_add] at hown6; obtain ⟨Py, cy, hv6, -⟩ := hown6.ints; subst hv6; have HO6 := Lib.hid hown6; have HB6 : Hid (Below wr.heap.size wr w6) := HBwl.out.grown hgr6 HBwl.out.size (fun g hg => (HLit.out.block hg).1); clear hown6 hgr6 hat6)
                | (at_builtin; refine wpList_appI rfl _ _ rfl w6 (r : Int) wr.heap.size (.slice Py i cy) i _ rfl w6.heap.size rfl rfl HO6.out (by omega) HB6.out.size ?_; intro v7 w7 hown7 hgr7 hat7; obtain ⟨P7, c7, hv7, hi7⟩ := hown7.ints; subst hv7; have HI7 := Lib.hid hi7; have HO7 := Lib.hid hown7; have HB7 : Hid (Below wr.heap.size wr w7) := HB6.out.grown hgr7 HB6.out.size (fun g hg => (HO6.out.block hg).1); clear hown7 hgr7 hat7 hi7)
                | (at_builtin; refine wpList_appL rfl _ _ rfl (w7.alloc (.cells #[.slice P7 (i + 1) c7] 35)) w1.heap.size (.slice A5 (t * ei + r) c5) (t * ei + r) (fun _ => i + 1) _ rfl (HOw.out.below (HB7.out.trans ((bel_nw w7 _).mono HB7.out.size))) w7.heap.size rfl P7 (i + 1) c7 _ (heap_alloc_new w7 _) (HI7.out.below (bel_nw w7 _)) (by omega) (by omega) (fun a ha => ⟨(by subst ha; have h8 := (HO7.out.block rfl).2; rw [World.size_alloc]; omega), fun hg => (by subst ha; have h8 := (HO7.out.block rfl).1; have h9 := (HOw.out.block hg).2; omega)⟩) hte (Nat.le_trans HBw.out.size (Nat.le_trans HB7.out.size (bel_nw w7 _).size)) ?_; intro v8 w8 hown8 hgr8 hat8; obtain ⟨A8, c8, hv8⟩ := hown8.sl; subst hv8; have HO8 := Lib.hid hown8; have HB8 : Hid (Below w1.heap.size w1 w8) := (HBw.out.trans ((HB7.out.trans ((bel_nw w7 _).mono HB7.out.size)).mono HBw.out.size)).grown hgr8 (Nat.le_trans HBw.out.size (Nat.le_trans HB7.out.size (bel_nw w7 _).size)) (fun g hg => (HOw.out.block hg).1); clear hown8 hgr8 hat8))
              refine ⟨⟨r + 1, by omega, by go_num, ?_, HB8⟩, by simp [intOf]; omega⟩
              exact HO8.out.congr (fun q hq => by unfold updNN; split <;> rfl) (fun q hq j hj => by
                unfold updLL
                have hj' : j < i + 1 := by
                  have h9 : updNN (fun _ => i + 1) (t * ei + r) (i + 1) q = i + 1 := by unfold updNN; split <;> rfl
                  omega
                split
                · rename_i h; rw [h, HNew.out j hj']
                · rfl)
            · have hre : r = e i := by omega
              have hlt3' : ¬ (r : Int) < ((e i : Nat) : Int) := by omega
              have h9 := HOw.out
              rw [hre, ← Nat.succ_mul] at h9
              have HOx := Lib.hid h9
              clear h9
              go_wp2_with fail
              exact ⟨⟨t + 1, by omega, by go_num, HOx.out, HBw⟩, by simp [intOf]; omega⟩
        · obtain rfl : t = N := by omega
          have h9 := HOn.out
          rw [← HVi.out] at h9
          have HOx := Lib.hid h9
          clear h9
          have HB9 : Hid (Below w.heap.size w wr) := st HBr.out HBn.out
          go_wp2_with fail
          exact ⟨⟨i + 1, by omega, by go_num, HOx.out.base' HBr.out.size, HB9⟩, by simp [intOf]; omega⟩
    · obtain rfl : i = n := by omega
      go_wp2_with fail
      go_ret
      exact ⟨_, rfl, HO.out, HBr.out⟩
end Go.Proofs.YtogmbehomilalaaGreatDoor
end

/- Coordinates of a box are in it. -/
section
namespace Go.Proofs.YtogmbehomilalaaGreatDoor
open Go Go.RowKit Go.Deep Go.Shelf

theorem crd_inB {lo hi : Nat → Int} {e : Nat → Nat} {n t : Nat} (he : ∀ k, k < n → 1 ≤ e k ∧ hi k = lo k + e k - 1) : inB lo hi (fun k => crdZ lo e n t k) n := fun k hk => by
  have hd := digC_lt (t := t) (fun k hk => (he k hk).1) hk
  have hk1 := he k hk
  show lo k ≤ crdZ lo e n t k ∧ crdZ lo e n t k ≤ hi k
  unfold crdZ
  omega
theorem hasTo_of {l h v : Nat → Int} : ∀ {n : Nat}, (∀ k, k < n → l k ≤ v k ∧ v k ≤ h k) → hasTo l h v n = true
  | 0, _ => rfl
  | n + 1, hk => by
    rw [hasTo, hasTo_of fun k h => hk k (by omega), Bool.true_and, decide_eq_true (hk n (Nat.lt_succ_self n)).1, Bool.true_and]
    unfold belB
    rw [decide_eq_true (hk n (Nat.lt_succ_self n)).2, Bool.true_or]
theorem has_crd {lo hi : Nat → Int} {e : Nat → Nat} {n t : Nat} (h1 : 1 ≤ n) (h4 : n ≤ 4) (he : ∀ k, k < n → 1 ≤ e k ∧ hi k = lo k + e k - 1) : hasB n n n lo hi (fun k => crdZ lo e n t k) = true := by
  unfold hasB formB
  rw [hasTo_of (crd_inB he)]
  simp [h1, h4]
/-- What is kept between the rounds of Rank's loop: the boxes of the rank, of the coordinates' own key and of the keys' function, and the box whose coordinates come. -/
structure RkAt (w : World) (bk bo br : Nat) (KV : Value) (own : Int) (Bb : Nat) (lv hv : Value) (p : Nat → Bool) (A k : Nat) (W : World) : Prop where
  rank : Boxed W br 3 (.int .i64 (cntTo p k : Nat))
  own : Boxed W bo 3 (.int .i64 own)
  key : Boxed W bk 95 KV
  box : W.heap[Bb]? = some (.cells #[lv, hv] 45 (0, 0))
  below : Below w.heap.size w W
  ge : bk < A ∧ bo < A ∧ br < A ∧ Bb < A
theorem cells_ne {W : World} {B : Nat} {cs : Array Value} {t : TypeId} (h : W.heap[B]? = some (.cells cs t (0, 0))) {A C : Nat} {row : Option Nat} (hA : B < A) (hr : ∀ r, row = some r → r = A ∨ (C ≤ r ∧ ∃ o : Obj, W.heap[r]? = some o ∧ o.isCells = false)) : some B ≠ row := fun e => by
  rcases hr B e.symm with h1 | ⟨_, o, ho, hc⟩
  · omega
  · rw [h] at ho; cases ho; cases hc
theorem apart_t {W : World} {b b' : Nat} {cs cs' : Array Value} {t t' : TypeId} (h : W.heap[b]? = some (.cells cs t (0, 0))) (h' : W.heap[b']? = some (.cells cs' t' (0, 0))) (ht : t ≠ t') : b ≠ b' := fun e => by
  rw [e, h'] at h
  injection h with h
  injection h with _ h2
  exact ht h2.symm
theorem rk_steps {w : World} {bk bo br : Nat} {KV : Value} {own : Int} {Bb : Nat} {lv hv : Value} {p : Nat → Bool} {B A k : Nat} (hB : w.heap.size ≤ B) (hA : w.heap.size ≤ A) : StepsC B A (RkAt w bk bo br KV own Bb lv hv p A k) := by
  intro W W' row ⟨h1, h2, h3, h4, h5, g1, g2, g3, g4⟩ hg hr
  have hl4 : Bb < W.heap.size := (Array.getElem?_eq_some_iff.1 h4).1
  refine ⟨h1.kept hg (boxed_ne h1 g3 hr), h2.kept hg (boxed_ne h2 g2 hr), h3.kept hg (boxed_ne h3 g1 hr), (hg.block Bb hl4 (cells_ne h4 g4 hr)).trans h4, h5.grown hg h5.size (fun r e => ?_), g1, g2, g3, g4⟩
  rcases hr r e with h | ⟨h, _⟩ <;> omega
namespace RW
attribute [local go_sem] Oper.semAt_some
section
variable {ops : Array Oper} {Q : Exit → Act → World → Prop} {l n : Nat} {K : Act → World → Prop} {a : Act} {w : World}
theorem oi_loadI {o : Oper} {d t b : Nat} {x : Int} (ho : o.op = .load 3 (.tmp t)) (hd : o.dst = some d) (hs : slot a t = .pointer (some ⟨b, 0, none⟩)) (hc : w.cell? ⟨b, 0, none⟩ = some (.int .i64 x)) (h : K (putS a d (.int .i64 x)) w) : o.wpIn (Fence.wide.inRound l) n Tryz.prog a w K Q := by
  obtain ⟨op, dst, ty, pos, after, guard⟩ := o
  dsimp only at ho hd
  subst ho hd
  have hs' : a.tmps[t]?.getD undef = .pointer (some ⟨b, 0, none⟩) := hs
  unfold Oper.wpIn
  go_simp
  exact h
theorem oi_lss {o : Oper} {d t t' : Nat} {x y : Int} (ho : o.op = .binOp .lss 3 (.tmp t) (.tmp t') 3) (hd : o.dst = some d) (hs : slot a t = .int .i64 x) (hs2 : slot a t' = .int .i64 y) (h : K (putS a d (.bool (decide (x < y)))) w) : o.wpIn (Fence.wide.inRound l) n Tryz.prog a w K Q := by
  obtain ⟨op, dst, ty, pos, after, guard⟩ := o
  dsimp only at ho hd
  subst ho hd
  have hs' : a.tmps[t]?.getD undef = .int .i64 x := hs
  have hs2' : a.tmps[t']?.getD undef = .int .i64 y := hs2
  unfold Oper.wpIn
  go_simp
  exact h
end
def lessT (g : Nat) (fr : Value) (vp : Option Addr) (vn vc : Nat) (ky own : Int) : Nat → Value → World → Prop
  | 0 => fun v _ => v = .func (.func g) #[fr] #[]
  | 1 => fun v _ => v = .slice vp vn vc
  | 2 => fun v _ => v = .int .i64 ky
  | 3 => fun v _ => v = .int .i64 own
  | 4 => fun v _ => v = .bool (decide (ky < own))
  | _ => fun _ _ => True
theorem lessT_stays {g : Nat} {fr : Value} {vp : Option Addr} {vn vc : Nat} {ky own : Int} : ∀ i v x y, lessT g fr vp vn vc ky own i v x → Below x.heap.size x y → lessT g fr vp vn vc ky own i v y := by
  intro i v x y h _
  match i with
  | 0 => exact h
  | 1 => exact h
  | 2 => exact h
  | 3 => exact h
  | 4 => exact h
  | i + 5 => trivial
set_option maxRecDepth 100000 in
set_option maxHeartbeats 4000000 in
theorem r_less {ops : Array Oper} {Q : Exit → Act → World → Prop} {id l n : Nat} {a0 : Act} {w0 : World} {g : Nat} {fr : Value} {vp : Option Addr} {vn vc : Nat} {ky own : Int} {Bk Bo : Nat} (size : ops.size = 5) (hn : a0.tmps.size = 42)
    (dl : ops.toList.map (·.dst) = [some 34, some 35, some 36, some 37, some 38]) (dag : ∀ (i : Nat) (o : Oper), ops[i]? = some o → ∀ e : Edge, e ∈ o.after → e.on < i)
    (rd5 : Region.ready .any ops (firsts 5 5) = [])
    {o0 : Oper} (e0 : ops[0]? = some o0) (k0 : o0.op = .load 95 (.tmp 9)) (g0 : o0.guard = none)
    {o1 : Oper} (e1 : ops[1]? = some o1) (k1 : o1.op = .move (.tmp 12)) (g1 : o1.guard = none)
    {o2 : Oper} (e2 : ops[2]? = some o2) (k2 : o2.op = .call { callee := .value (.tmp 34), args := #[.tmp 35], argTypes := #[35] }) (g2 : o2.guard = none) (f2_0 : (o2.after.any fun e => e.on == 0 && Region.binds .any e) = true) (f2_1 : (o2.after.any fun e => e.on == 1 && Region.binds .any e) = true)
    {o3 : Oper} (e3 : ops[3]? = some o3) (k3 : o3.op = .load 3 (.tmp 10)) (g3 : o3.guard = none)
    {o4 : Oper} (e4 : ops[4]? = some o4) (k4 : o4.op = .binOp .lss 3 (.tmp 36) (.tmp 37) 3) (g4 : o4.guard = none) (f4_2 : (o4.after.any fun e => e.on == 2 && Region.binds .any e) = true) (f4_3 : (o4.after.any fun e => e.on == 3 && Region.binds .any e) = true)
    (s9 : slot a0 9 = .pointer (some ⟨Bk, 0, none⟩)) (s10 : slot a0 10 = .pointer (some ⟨Bo, 0, none⟩)) (s12 : slot a0 12 = .slice vp vn vc)
    (hc9 : ∀ W, Below w0.heap.size w0 W → W.cell? ⟨Bk, 0, none⟩ = some (.func (.func g) #[fr] #[])) (hc10 : ∀ W, Below w0.heap.size w0 W → W.cell? ⟨Bo, 0, none⟩ = some (.int .i64 own))
    (he : ∀ args w, (callFunc g args).run Tryz.prog w = .ok (.enter g args) w)
    (HK : ∀ W, Below w0.heap.size w0 W → Calls Tryz.prog g #[fr, .slice vp vn vc] W fun e w' => e = .returned (.int .i64 ky) ∧ Below W.heap.size W w')
    (tail : ∀ a W, Below w0.heap.size w0 W → a.tmps.size = 42 → a.defers = a0.defers → slot a 38 = .bool (decide (ky < own)) → slot a 11 = slot a0 11 → Q .normal a W) :
    (Code.region id ops true).wpIn (Fence.wide.inRound l) n Tryz.prog Q a0 w0 := by
  have get : ∀ i : Nat, ∀ o : Oper, ops[i]? = some o → (ops.toList.map (·.dst))[i]? = some o.dst := fun i o h => by
    rw [List.getElem?_map, Array.getElem?_toList, h]; rfl
  have d0 : o0.dst = some 34 := by have := get 0 _ e0; rw [dl] at this; exact (Option.some.inj this).symm
  have d1 : o1.dst = some 35 := by have := get 1 _ e1; rw [dl] at this; exact (Option.some.inj this).symm
  have d2 : o2.dst = some 36 := by have := get 2 _ e2; rw [dl] at this; exact (Option.some.inj this).symm
  have d3 : o3.dst = some 37 := by have := get 3 _ e3; rw [dl] at this; exact (Option.some.inj this).symm
  have d4 : o4.dst = some 38 := by have := get 4 _ e4; rw [dl] at this; exact (Option.some.inj this).symm
  have ap : ∀ (i j : Nat) (x y : Oper) (t : Nat), ops[i]? = some x → ops[j]? = some y → x.dst = some t → y.dst = some t → i = j := apart_ofS dl (by decide)
  have old : ∀ t, [some 34, some 35, some 36, some 37, some 38].contains (some t) = false → ∀ {listed : Array Bool} {a : Act} {w : World}, Held ops a0 w0 (lessT g fr vp vn vc ky own) listed a w → slot a t = slot a0 t := by
    intro t ht listed a w H
    refine H.old t fun i o hi hd => ?_
    exfalso
    have h1 : (ops.toList.map (·.dst))[i]? = some (some t) := by rw [List.getElem?_map, Array.getElem?_toList, hi]; simp [hd]
    rw [dl] at h1
    have h2 := List.mem_of_getElem? h1
    rw [← List.elem_iff] at h2
    rw [show List.elem (some t) _ = List.contains _ (some t) from rfl, ht] at h2
    cases h2
  refine wpIn_region_any (by kernel_rfl) (wpAnyIn_head (n1 := 5) (by omega) (fun listed a w => Held ops a0 w0 (lessT g fr vp vn vc ky own) listed a w ∧ (∀ i, 5 ≤ i → listed.getD i false = false) ∧ CL ops listed) (fun listed a w h => ⟨h.1.size, h.2.1⟩) ?late dag ?_ ?_ _ _ _ _ ?_ ?_)
  case late =>
    intro listed a w i h hm hi j hj
    have hlt := (mem_ready hm).1
    omega
  · intro listed a w i ⟨H, hl, hcl⟩ hm hi
    have hput : ∀ {o : Oper} {d : Nat} {v : Value} {w' : World}, i < 5 → ops[i]? = some o → o.dst = some d → d < 42 → Below w.heap.size w w' → lessT g fr vp vn vc ky own i v w' → Held ops a0 w0 (lessT g fr vp vn vc ky own) (listed.setIfInBounds i true) (putS a d v) w' ∧ (∀ j, 5 ≤ j → (listed.setIfInBounds i true).getD j false = false) ∧ CL ops (listed.setIfInBounds i true) :=
      fun {o d v w'} hj ho hd hsz hb hv => ⟨H.put lessT_stays ap ho hd (by omega) hb hv, fun j hj => by
        rw [Array.getD_eq_getD_getElem?, Array.getElem?_setIfInBounds, if_neg (by omega), ← Array.getD_eq_getD_getElem?]
        exact hl j hj, hcl.set hm⟩
    have got : ∀ {j : Nat} {x : Oper} {t : Nat} {o : Oper}, ops[i]? = some o → (o.after.any fun e => e.on == j && Region.binds .any e) = true → ops[j]? = some x → x.dst = some t → lessT g fr vp vn vc ky own j (slot a t) w := fun {j x t o} ho ha hj hx => H.got j x t hj hx (ready_onS hm ho ha)
    rcases (by omega : i = 0 ∨ i = 1 ∨ i = 2 ∨ i = 3 ∨ i = 4) with rfl | rfl | rfl | rfl | rfl
    · exact wpOpIn_of e0 g0 (oi_loadF k0 d0 ((old 9 (by decide) H).trans s9) (hc9 w H.below) (hput (by omega) e0 d0 (by omega) (Below.refl _ _) rfl))
    · exact wpOpIn_of e1 g1 (oi_move k1 d1 ((old 12 (by decide) H).trans s12) (hput (by omega) e1 d1 (by omega) (Below.refl _ _) rfl))
    · exact wpOpIn_of e2 g2 (oi_call k2 d2 (got e2 f2_0 e0 d0) (got e2 f2_1 e1 d1) he ((HK w H.below).mono fun e w' h => ⟨_, h.1, hput (by omega) e2 d2 (by omega) h.2 rfl⟩))
    · exact wpOpIn_of e3 g3 (oi_loadI k3 d3 ((old 10 (by decide) H).trans s10) (hc10 w H.below) (hput (by omega) e3 d3 (by omega) (Below.refl _ _) rfl))
    · exact wpOpIn_of e4 g4 (oi_lss k4 d4 (got e4 f4_2 e2 d2) (got e4 f4_3 e3 d3) (hput (by omega) e4 d4 (by omega) (Below.refl _ _) rfl))
  · rintro fuel a w ⟨H, -⟩ hf
    rw [size] at H hf ⊢
    have h38 : slot a 38 = .bool (decide (ky < own)) := H.got 4 o4 38 e4 d4 (by decide)
    exact wpAnyIn_done rd5 (tail a w H.below (H.frame.trans hn) H.defers h38 (old 11 (by decide) H)) fuel
  · unfold leftOf
    simp
  · have hf : ∀ j, (Array.replicate ops.size false).getD j false = false := by
      intro j
      rw [Array.getD_eq_getD_getElem?, Array.getElem?_replicate]
      split <;> rfl
    exact ⟨⟨by simp, rfl, rfl, Below.drew (Below.refl _ _), fun _ _ => rfl, fun i o t _ _ hl => by rw [hf] at hl; cases hl⟩, fun i _ => hf i, fun j oj _ hl => by rw [hf] at hl; cases hl⟩
end RW
end Go.Proofs.YtogmbehomilalaaGreatDoor
end

/- Operations of the region that makes a list with its key. -/
section
namespace Go.Proofs.YtogmbehomilalaaGreatDoor
open Go Go.RowKit Go.Deep

section
variable {ops : Array Oper} {Q : Exit → Act → World → Prop} {K : Act → World → Prop} {a : Act} {w : World}
set_option maxRecDepth 100000 in
theorem op_ldYs {o : Oper} {d t b : Nat} {S O : Option Addr} {s sc oo oc : Nat} {ord tile form codec : Int} (ho : o.op = .load 43 (.tmp t)) (hd : o.dst = some d) (hs : slot a t = .pointer (some ⟨b, 0, none⟩))
    (hc : w.cell? ⟨b, 0, none⟩ = some (.slice S s sc) ∧ w.cell? ⟨b, 1, none⟩ = some (.slice O oo oc) ∧ w.cell? ⟨b, 2, none⟩ = some (.int .i64 ord) ∧ w.cell? ⟨b, 3, none⟩ = some (.int .i64 tile) ∧ w.cell? ⟨b, 4, none⟩ = some (.int .i64 form) ∧ w.cell? ⟨b, 5, none⟩ = some (.int .i64 codec))
    (h : K (putSlot a d (LayV S s sc O oo oc ord tile form codec)) w) : o.wp Tryz.prog a w K Q := by
  obtain ⟨op, dst, ty, pos, after, guard⟩ := o
  dsimp only at ho hd
  subst ho hd
  have hs' : a.tmps[t]?.getD undef = .pointer (some ⟨b, 0, none⟩) := hs
  obtain ⟨c0, c1, c2, c3, c4, c5⟩ := hc
  unfold Oper.wp
  go_simp
  exact h
set_option maxRecDepth 100000 in
theorem op_ixLs {o : Oper} {d t i b off n c k : Nat} (ho : o.op = .indexAddr 48 (.tmp t) (.tmp i)) (hd : o.dst = some d) (hs : slot a t = .slice (some ⟨b, off, none⟩) n c) (hi : slot a i = .int .i64 (k : Int)) (hk : k < n) (h : K (putSlot a d (.pointer (some ⟨b, off + k, none⟩))) w) : o.wp Tryz.prog a w K Q := by
  obtain ⟨op, dst, ty, pos, after, guard⟩ := o
  dsimp only at ho hd
  subst ho hd
  have hs' : a.tmps[t]?.getD undef = .slice (some ⟨b, off, none⟩) n c := hs
  have hi' : a.tmps[i]?.getD undef = .int .i64 (k : Int) := hi
  have h0 : (0 : Int) ≤ (k : Int) := by omega
  have h1 : (k : Int) < (n : Int) := by omega
  unfold Oper.wp
  go_simp
  exact h
set_option maxRecDepth 100000 in
theorem op_T3 {o : Oper} {d t1 t2 t3 g : Nat} {s1 s2 s3 : Value} {tys : Array TypeId} (ho : o.op = .call { callee := .value (.func g), args := #[.tmp t1, .tmp t2, .tmp t3], argTypes := tys }) (hd : o.dst = some d) (h1 : slot a t1 = s1) (h2 : slot a t2 = s2) (h3 : slot a t3 = s3)
    (he : ∀ args w, (callFunc g args).run Tryz.prog w = .ok (.enter g args) w) (h : Calls Tryz.prog g #[s1, s2, s3] w fun e w' => ∃ v, e = .returned v ∧ K (putSlot a d v) w') : o.wp Tryz.prog a w K Q := by
  obtain ⟨op, dst, ty, pos, after, guard⟩ := o
  dsimp only at ho hd
  subst ho hd
  have h1' : a.tmps[t1]?.getD undef = s1 := h1
  have h2' : a.tmps[t2]?.getD undef = s2 := h2
  have h3' : a.tmps[t3]?.getD undef = s3 := h3
  have he' := he #[s1, s2, s3] w
  unfold Oper.wp
  go_simp
  exact h.mono fun e w' ⟨v, h1, h2⟩ => by subst h1; exact h2
set_option maxRecDepth 100000 in
theorem op_bdK {o : Oper} {d t1 t2 : Nat} {p q : Option Addr} {n c n' c' : Nat} (ho : o.op = .build 103 #[(0, .tmp t1), (1, .tmp t2)]) (hd : o.dst = some d) (h1 : slot a t1 = .slice p n c) (h2 : slot a t2 = .slice q n' c') (h : K (putSlot a d (.agg #[.slice p n c, .slice q n' c'])) w) : o.wp Tryz.prog a w K Q := by
  obtain ⟨op, dst, ty, pos, after, guard⟩ := o
  dsimp only at ho hd
  subst ho hd
  have h1' : a.tmps[t1]?.getD undef = .slice p n c := h1
  have h2' : a.tmps[t2]?.getD undef = .slice q n' c' := h2
  unfold Oper.wp
  go_simp
  exact h
set_option maxRecDepth 100000 in
theorem op_bsK {o : Oper} {d t : Nat} {p q : Option Addr} {n c n' c' : Nat} (ho : o.op = .buildSlice 100 1 #[(0, .tmp t)]) (hd : o.dst = some d) (hs : slot a t = .agg #[.slice p n c, .slice q n' c']) (h : K (putSlot a d (.slice (some ⟨w.heap.size, 0, none⟩) 1 1)) (w.alloc (.cells #[.slice p n c, .slice q n' c'] 103))) : o.wp Tryz.prog a w K Q := by
  obtain ⟨op, dst, ty, pos, after, guard⟩ := o
  dsimp only at ho hd
  subst ho hd
  have hs' : a.tmps[t]?.getD undef = .agg #[.slice p n c, .slice q n' c'] := hs
  unfold Oper.wp
  go_simp
  exact h
end
/-- A list in blocks from B on; an element that bears it as its key; a slice of one such element. -/
def KeyI (B n : Nat) (f : Nat → Int) : Value → World → Prop := fun v W => ∃ P c, v = .slice P n c ∧ IntsAt W P n f ∧ (0 < n → ∀ a, P = some a → B ≤ a.block ∧ a.block < W.heap.size)
theorem keyI_mono (B n : Nat) (f : Nat → Int) : Mono (KeyI B n f) := by
  rintro v w w' ⟨P, c, h1, h2, h3⟩ hb; exact ⟨P, c, h1, h2.below hb, fun hn a ha => ⟨(h3 hn a ha).1, Nat.lt_of_lt_of_le (h3 hn a ha).2 hb.size⟩⟩
def KeyA (B n : Nat) (f : Nat → Int) (Q : Option Addr) (m qc : Nat) : Value → World → Prop := fun v W => ∃ P c, v = .agg #[.slice P n c, .slice Q m qc] ∧ IntsAt W P n f ∧ (0 < n → ∀ a, P = some a → B ≤ a.block ∧ a.block < W.heap.size)
theorem keyA_mono (B n : Nat) (f : Nat → Int) (Q : Option Addr) (m qc : Nat) : Mono (KeyA B n f Q m qc) := by
  rintro v w w' ⟨P, c, h1, h2, h3⟩ hb; exact ⟨P, c, h1, h2.below hb, fun hn a ha => ⟨(h3 hn a ha).1, Nat.lt_of_lt_of_le (h3 hn a ha).2 hb.size⟩⟩
def KeyS (B n : Nat) (f : Nat → Int) (Q : Option Addr) (m qc : Nat) : Value → World → Prop := fun v W => ∃ b P c, v = .slice (some ⟨b, 0, none⟩) 1 1 ∧ W.heap[b]? = some (.cells #[.slice P n c, .slice Q m qc] 103 (0, 0)) ∧ IntsAt W P n f ∧ (0 < n → ∀ a, P = some a → B ≤ a.block ∧ a.block < W.heap.size)
theorem keyS_mono (B n : Nat) (f : Nat → Int) (Q : Option Addr) (m qc : Nat) : Mono (KeyS B n f Q m qc) := by
  rintro v w w' ⟨b, P, c, h1, h0, h2, h3⟩ hb; exact ⟨b, P, c, h1, (hb.block b (Array.getElem?_eq_some_iff.1 h0).1).trans h0, h2.below hb, fun hn a ha => ⟨(h3 hn a ha).1, Nat.lt_of_lt_of_le (h3 hn a ha).2 hb.size⟩⟩
end Go.Proofs.YtogmbehomilalaaGreatDoor
end

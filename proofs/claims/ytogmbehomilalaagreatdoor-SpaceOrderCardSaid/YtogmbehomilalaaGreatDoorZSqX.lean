/- The reference's Seq. -/
import Derived.Test.YtogmbehomilalaaGreatDoorZOpSq
import Derived.Test.YtogmbehomilalaaGreatDoorZExtR
import Derived.BigQuiet
namespace Go.Proofs.YtogmbehomilalaaGreatDoor
open Go Go.RowKit Go.Deep

/-- The coordinates of a box with their keys. -/
def seqT (ord tile : Int) (n wd : Nat) (lo : Nat → Int) (e : Nat → Nat) : KyD := ⟨fun _ => keyLen ord n wd, fun _ => n, fun t => keyX ord tile n wd e t, fun t k => crdZ lo e n t k⟩
theorem range_at {V k : Nat} (h : k < V) : (List.range V)[k]! = k := by rw [getElem!_pos _ k (by simpa using h)]; simp
/-- What Seq returns. -/
def SeqX (ord tile : Int) (n : Nat) (lo hi : Nat → Int) (e : Nat → Nat) (r : Ending) (w' : World) : Prop :=
  ∃ A cap L, r = .returned (.tuple #[.slice A (volC e n 0) cap, .int .i64 0]) ∧ ListsAt w' A (volC e n 0) (fun _ => n) (fun t k => crdZ lo e n (L[t]!) k) ∧ L.Perm (List.range (volC e n 0)) ∧ InOrdY (seqT ord tile n (wdTo lo hi n) lo e) L

set_option maxRecDepth 100000 in
set_option maxHeartbeats 8000000 in
theorem r_Seq_ok (w : World) (S O L H : Option Addr) (s sc o oc n c d : Nat) (ord tile form codec : Int) (lo hi : Nat → Int) (e : Nat → Nat) (hl : IntsAt w L n lo) (hh : IntsAt w H n hi) (h1 : 1 ≤ n) (h4 : n ≤ 4) (ho : ordB ord tile = true)
    (hb : ∀ k, k < n → I64 (lo k) ∧ I64 (hi k)) (hx : ordX lo hi n = 0) (he : ∀ k, k < n → 1 ≤ e k ∧ hi k = lo k + e k - 1 ∧ e k ≤ 4096) (hv : volC e n 0 ≤ 4096) (hw : wdTo lo hi n ≤ 15) (hY : ∀ t, LtN n (wdTo lo hi n) (offN e n t)) :
    Calls Tryz.prog 15 #[LayV S s sc O o oc ord tile form codec, BoxW L H n c n d] w fun r w' => SeqX ord tile n lo hi e r w' ∧ Below w.heap.size w w' := by
  have HOr : Hid (∀ W, Calls Tryz.prog 51 #[LayV S s sc O o oc ord tile form codec] W fun r w' => r = .returned (.bool true) ∧ Below W.heap.size W w') := fun W => by rw [← ho]; exact r_order S O s sc o oc ord tile form codec W
  have hwf : formB n n = true := by unfold formB; simp [h1, h4]
  have HFm : Hid (∀ W, Calls Tryz.prog 45 #[BoxW L H n c n d] W fun r w' => r = .returned (.bool true) ∧ Below W.heap.size W w') := fun W => by rw [← hwf]; exact r_formed W L H n c n d
  have HEx : Hid (∀ W, Below w.heap.size w W → Calls Tryz.prog 52 #[BoxW L H n c n d] W fun r w' => (∃ P c, r = .returned (.tuple #[.slice P n c, .int .i64 0]) ∧ IntsAt w' P n fun k => ((e k : Nat) : Int)) ∧ Below W.heap.size W w') := fun W hW => (r_extents W L H n c d lo hi (hl.below hW) (hh.below hW) h4 hb).mono fun r w' h => by
    obtain ⟨h2 | ⟨_, P, c, h3, h5⟩, h6⟩ := h
    · exact absurd hx h2.1
    · exact ⟨⟨P, c, h3, h5.congrK fun k hk => by have := (he k hk).2.1; omega⟩, h6⟩
  have HLo := Lib.hid hl
  have HBd : Hid (∀ k, k < n → -9223372036854775808 ≤ lo k ∧ hi k ≤ 9223372036854775807) := fun k hk => ⟨(hb k hk).1.1, (hb k hk).2.2⟩
  have HE := Lib.hid he
  have HYb := Lib.hid hY
  have KB := Lib.hid (lay_box w S O s sc o oc ord tile form codec)
  have HB1 : Hid (Below w.heap.size w (w.alloc (.cells #[.slice S s sc, .slice O o oc, .int .i64 ord, .int .i64 tile, .int .i64 form, .int .i64 codec] 43))) := (Below.refl _ _).alloc (Nat.le_refl _) _
  have hz1 : (w.alloc (.cells #[.slice S s sc, .slice O o oc, .int .i64 ord, .int .i64 tile, .int .i64 form, .int .i64 codec] 43)).heap.size = w.heap.size + 1 := by simp
  clear hl hh hb hx he hY hwf
  go_enter Tryz.func15, Tryz.ntmps15
  go_wp2_with fail
  generalize w.alloc (.cells #[.slice S s sc, .slice O o oc, .int .i64 ord, .int .i64 tile, .int .i64 form, .int .i64 codec] 43) = Wa at *
  have K2 := Lib.hid (box_two Wa (.slice L n c) (.slice H n d) 45)
  have HB2 : Hid (Below Wa.heap.size Wa (Wa.alloc (.cells #[.slice L n c, .slice H n d] 45))) := (Below.refl _ _).alloc (Nat.le_refl _) _
  rw [hz1] at K2 HB2 KB
  have HB3 : Hid (Below w.heap.size w (Wa.alloc (.cells #[.slice L n c, .slice H n d] 45))) := Below.trans HB1.out (HB2.out.mono (by omega))
  generalize hWb : Wa.alloc (.cells #[.slice L n c, .slice H n d] 45) = Wb at *
  clear hWb
  obtain ⟨l0, l1, l2, l3, l4, l5⟩ := KB.out Wb HB2.out
  have HK : Hid (∀ W, Below Wb.heap.size Wb W → (W.cell? ⟨w.heap.size, 0, none⟩ = some (.slice S s sc) ∧ W.cell? ⟨w.heap.size, 1, none⟩ = some (.slice O o oc) ∧ W.cell? ⟨w.heap.size, 2, none⟩ = some (.int .i64 ord) ∧ W.cell? ⟨w.heap.size, 3, none⟩ = some (.int .i64 tile) ∧ W.cell? ⟨w.heap.size, 4, none⟩ = some (.int .i64 form) ∧ W.cell? ⟨w.heap.size, 5, none⟩ = some (.int .i64 codec)) ∧ W.cell? ⟨w.heap.size + 1, 0, none⟩ = some (.slice L n c) ∧ W.cell? ⟨w.heap.size + 1, 1, none⟩ = some (.slice H n d)) := fun W hW => ⟨KB.out W (HB2.out.trans (hW.mono (by have := HB2.out.size; omega))), K2.out W hW⟩
  go_wp2_with (first
    | (go_at_call 51; refine (HOr.out _).mono ?_; rintro e w1 ⟨rfl, hb1⟩; obtain ⟨-, m0, m1⟩ := HK.out w1 hb1)
    | (go_at_call 45; refine (HFm.out _).mono ?_; rintro e w2 ⟨rfl, hb2⟩; have hb12 := st hb1 hb2; obtain ⟨-, n0, n1⟩ := HK.out w2 hb12)
    | (go_at_call 52; refine (HEx.out w2 (st HB3.out hb12)).mono ?_; rintro e w3 ⟨⟨P3, c3, rfl, hi3⟩, hb3⟩; have HI3 := Lib.hid hi3; have HB4 : Hid (Below Wb.heap.size Wb w3) := st hb12 hb3; clear hi3 hb3 hb12 hb1 hb2 m0 m1 n0 n1))
  refine (r_rowMajor w3 P3 n c3 e HI3.out h4 (fun k hk => (HE.out k hk).1) hv).mono ?_
  rintro r w4 ⟨v4, rfl, hown4, hb4⟩
  have HO4 := Lib.hid hown4
  have HB5 : Hid (Below Wb.heap.size Wb w4) := st HB4.out hb4
  have HI4 := Lib.hid (HI3.out.below hb4)
  obtain ⟨A4, c4, hv4⟩ := hown4.sl
  subst hv4
  clear hown4 hb4 HI3
  go_wp2_with fail
  refine (r_bits w4 P3 n c3 lo hi e HI4.out (by omega) (fun k hk => HE.out k hk)).mono ?_
  rintro r w5 ⟨rfl, hb5⟩
  have HO5 := Lib.hid (HO4.out.below hb5)
  have HB6 : Hid (Below Wb.heap.size Wb w5) := st HB5.out hb5
  clear hb5 HO4 HI4 HB5 HOr HFm HEx
  obtain ⟨V, hV⟩ : ∃ V, volC e n 0 = V := ⟨_, rfl⟩
  rw [hV] at hv HO5
  have HV := Lib.hid hV
  clear hV
  go_wp2_with fail
  rw [HV.out]
  obtain ⟨wd, hwd⟩ : ∃ wd, wdTo lo hi n = wd := ⟨_, rfl⟩
  rw [hwd] at hw HYb ⊢
  have HWd := Lib.hid hwd
  clear hwd
  go_loopw [10, 11, 12, 13] (fun v i _ _ wr => ∃ t : Nat, t ≤ V ∧ i = .int .i64 t ∧ Hid (OwnY (fun _ => True) wr w5.heap.size v t ((seqT ord tile n wd lo e).of (List.range V))) ∧ Hid (Below w5.heap.size w5 wr)) (fun _ i _ _ _ => V - (intOf i).toNat)
  case atStart => exact ⟨0, Nat.zero_le _, rfl, OwnY.nil _ _ _ _, Below.refl _ _⟩
  case round =>
    obtain ⟨t, ht, rfl, HO, HBr⟩ := hrel
    by_cases hlt : t < V
    · have HBw : Hid (Below Wb.heap.size Wb wr) := st HB6.out HBr.out
      obtain ⟨ba, rfl, hba0, hba, hra⟩ := (HO5.out.below HBr.out).reads (by omega)
      obtain ⟨P, pc, hp1, hp2, hP0, _, hP⟩ := hra t hlt
      obtain ⟨VA, vc, hv, -⟩ := HO.out.row
      subst hv
      have HP := Lib.hid hp2
      have HPb := Lib.hid hP
      have HBwl := Lib.hid (bel_nw wr (.cells #[] 3))
      have HLit := Lib.hid (OwnI.lit wr wr.heap.size (Nat.le_refl _) fun _ => 0)
      have hp3 : (wr.alloc (.cells #[] 3)).cell? ⟨ba, t, none⟩ = some (.slice P n pc) := (HBwl.out.cell (p := ⟨ba, t, none⟩) hba).trans hp1
      have hlt' : (t : Int) < (V : Int) := by omega
      clear hra hp2 hP0 hP
      go_wp2_with (at_builtin; refine wpList_appIs rfl _ _ rfl (wr.alloc (.cells #[] 3)) wr.heap.size (.slice (some ⟨wr.heap.size, 0, none⟩) 0 0) 0 (fun _ => 0) rfl P n pc _ rfl (HP.out.below HBwl.out) HLit.out (by omega) HBwl.out.size ?_; intro v6 w6 hown6 hgr6 hat6; rw [Nat.zero_add] at hown6; obtain ⟨g6, c6, hv6, hg6, -⟩ := hown6.put (by omega); subst hv6; have HO6 : Hid (OwnI w6 wr.heap.size (.slice (some ⟨g6, 0, none⟩) n c6) n fun j => ((digC e n t j : Nat) : Int)) := OwnI.congr hown6 (fun j _ => by unfold catI; rw [if_neg (by omega), Nat.sub_zero]); have HB7 : Hid (Below wr.heap.size wr w6) := HBwl.out.grown hgr6 HBwl.out.size (fun g hg => (HLit.out.block hg).1); clear hown6 hgr6 hat6)
      obtain ⟨wo, rfl⟩ : ∃ wo, wo = wr := ⟨_, rfl⟩
      go_loopw [13] (fun i wz => ∃ j : Nat, j ≤ n ∧ i = .int .i64 j ∧ Hid (OwnI wz wo.heap.size (.slice (some ⟨g6, 0, none⟩) n c6) n fun q => if q < j then crdZ lo e n t q else ((digC e n t q : Nat) : Int)) ∧ Hid (Below wo.heap.size wo wz)) (fun i _ => n - (intOf i).toNat)
      case atStart => exact ⟨0, Nat.zero_le _, rfl, OwnI.congr HO6.out fun q _ => by rw [if_neg (by omega)], HB7⟩
      case round =>
        obtain ⟨j, hj, rfl, HOj, HBj⟩ := hrel
        obtain ⟨-, l0, l1⟩ := HK.out wr (st HBw.out HBj.out)
        by_cases hlt2 : j < n
        · obtain ⟨g9, c9, e9, hge, -, hcel, hfrz, hput⟩ := HOj.out.put (by omega)
          injection e9 with e9 _ e10
          subst e10
          injection e9 with e9
          injection e9 with e9 _ _
          subst e9
          have x0 := hcel j hlt2
          rw [if_neg (Nat.lt_irrefl j)] at x0
          have z0 := hfrz j
          obtain ⟨b2, o2, rfl, _, hc2⟩ := (HLo.out.below (st HB3.out (st HBw.out HBj.out))) (by omega)
          have y0 := hc2 j hlt2
          have hcr : IntKind.i64.wrap (((digC e n t j : Nat) : Int) + lo j) = crdZ lo e n t j := by
            have h1 := HBd.out j hlt2
            have h2 := HE.out j hlt2
            have h3 := digC_lt (t := t) (fun k hk => (HE.out k hk).1) hlt2
            unfold crdZ
            rw [w64 (by omega) (by omega)]
            omega
          have HOq : Hid (OwnI (wr.setCell ⟨g6, j, none⟩ (.int .i64 (crdZ lo e n t j))) wo.heap.size (.slice (some ⟨g6, 0, none⟩) n c6) n fun q => if q < j + 1 then crdZ lo e n t q else ((digC e n t q : Nat) : Int)) := OwnI.congr (hput j (crdZ lo e n t j) hlt2) fun q _ => by
            unfold updZ
            by_cases h : q = j
            · rw [if_pos h, if_pos (by omega), h]
            · rw [if_neg h]
              dsimp only
              by_cases h2 : q < j
              · rw [if_pos h2, if_pos (by omega)]
              · rw [if_neg h2, if_neg (by omega)]
          have hj2 : (j : Int) < (n : Int) := by omega
          generalize crdZ lo e n t j = cz at *
          generalize hdg : digC e n t j = dg at *
          have HDg := Lib.hid hdg
          clear hdg hcel hfrz hput hc2
          generalize lo j = lj at *
          go_wp2_with fail
          go_region
          go_wp2
          go_roundw
          case rel => exact ⟨j + 1, by omega, by go_num, OwnI.below HOq.out (Below.drew (Below.refl _ _)), (HBj.out.setCell (p := ⟨g6, j, none⟩) hge _).drew⟩
          case measure => simp [intOf]; omega
        · obtain rfl : j = n := by omega
          have HBq : Hid (Below Wb.heap.size Wb wr) := st HBw.out HBj.out
          obtain ⟨hba2, hp4, hp5⟩ : ba < wr.heap.size ∧ wr.cell? ⟨ba, t, none⟩ = some (.slice P j pc) ∧ IntsAt wr P j (fun q => ((digC e j t q : Nat) : Int)) := ⟨Nat.lt_of_lt_of_le hba HBj.out.size, (HBj.out.cell (p := ⟨ba, t, none⟩) hba).trans hp1, HP.out.below HBj.out⟩
          have HP5 := Lib.hid hp5
          have HAt : Hid (IntsAt wr (some ⟨g6, 0, none⟩) j (fun q => crdZ lo e j t q)) := by
            obtain ⟨P9, c9, e9, h9⟩ := HOj.out.ints
            injection e9 with e9 _ _
            subst e9
            exact h9.congrK fun q hq => if_pos hq
          have HKq : Hid (∀ W, Below wr.heap.size wr W → (W.cell? ⟨w.heap.size, 0, none⟩ = some (.slice S s sc) ∧ W.cell? ⟨w.heap.size, 1, none⟩ = some (.slice O o oc) ∧ W.cell? ⟨w.heap.size, 2, none⟩ = some (.int .i64 ord) ∧ W.cell? ⟨w.heap.size, 3, none⟩ = some (.int .i64 tile) ∧ W.cell? ⟨w.heap.size, 4, none⟩ = some (.int .i64 form) ∧ W.cell? ⟨w.heap.size, 5, none⟩ = some (.int .i64 codec)) ∧ W.cell? ⟨ba, 0 + t, none⟩ = some (.slice P j pc)) := fun W hW => ⟨(HK.out W (st HBq.out hW)).1, by rw [Nat.zero_add]; exact (hW.cell (p := ⟨ba, t, none⟩) hba2).trans hp4⟩
          have HSk : Hid (∀ W, Below wr.heap.size wr W → Calls Tryz.prog 55 #[LayV S s sc O o oc ord tile form codec, .slice P j pc, .int .i64 wd] W fun r w' => NewI w' W.heap.size (keyLen ord j wd) (keyX ord tile j wd e t) r ∧ Below W.heap.size W w') := fun W hW => r_sortKey W S O P s sc o oc j pc wd t ord tile form codec e (HP5.out.below hW) ho h1 h4 hw (HYb.out t) (fun k hk => ⟨(HE.out k hk).1, (HE.out k hk).2.2⟩)
          clear hp4 hp5
          go_wp2_with fail
          rename_i K2 hK2
          refine wp_region_TK (n1 := 11) (T := TL [isW (.slice VA t vc), isW (LayV S s sc O o oc ord tile form codec), isW (.slice (some ⟨ba, 0, none⟩) V c4), isW (.int .i64 (t : Nat)), isW (.pointer (some ⟨ba, 0 + t, none⟩)), isW (.slice P j pc), isW (.int .i64 (wd : Nat)), KeyI wr.heap.size (keyLen ord j wd) (keyX ord tile j wd e t), isW (.slice (some ⟨g6, 0, none⟩) j c6), KeyA wr.heap.size (keyLen ord j wd) (keyX ord tile j wd e t) (some ⟨g6, 0, none⟩) j c6, KeyS wr.heap.size (keyLen ord j wd) (keyX ord tile j wd e t) (some ⟨g6, 0, none⟩) j c6, (fun _ _ => True), (fun _ _ => False)]) (by kernel_rfl) (by decide) (by kernel_rfl) (by kernel_rfl) ?step ?tail
          case step =>
            intro listed aa W ix HL hi9 hilt
            have dl := HL.dl (l := [some 65, some 66, some 67, some 68, some 69, some 70, some 71, some 72, some 73, some 74, some 75, some 76, some 10]) rfl
            have ap := apart_of dl (by decide)
            obtain ⟨q1, q2⟩ := HKq.out W HL.below
            have hBW := HL.below.size
            have mono : ∀ p' ∈ [isW (.slice VA t vc), isW (LayV S s sc O o oc ord tile form codec), isW (.slice (some ⟨ba, 0, none⟩) V c4), isW (.int .i64 (t : Nat)), isW (.pointer (some ⟨ba, 0 + t, none⟩)), isW (.slice P j pc), isW (.int .i64 (wd : Nat)), KeyI wr.heap.size (keyLen ord j wd) (keyX ord tile j wd e t), isW (.slice (some ⟨g6, 0, none⟩) j c6), KeyA wr.heap.size (keyLen ord j wd) (keyX ord tile j wd e t) (some ⟨g6, 0, none⟩) j c6, KeyS wr.heap.size (keyLen ord j wd) (keyX ord tile j wd e t) (some ⟨g6, 0, none⟩) j c6, (fun _ _ => True), (fun _ _ => False)], Mono p' := by
              intro p' hp
              simp only [List.mem_cons, List.not_mem_nil, or_false] at hp
              rcases hp with rfl | rfl | rfl | rfl | rfl | rfl | rfl | rfl | rfl | rfl | rfl | rfl | rfl
              · exact isW_mono _
              · exact isW_mono _
              · exact isW_mono _
              · exact isW_mono _
              · exact isW_mono _
              · exact isW_mono _
              · exact isW_mono _
              · exact keyI_mono _ _ _
              · exact isW_mono _
              · exact keyA_mono _ _ _ _ _ _
              · exact keyS_mono _ _ _ _ _ _
              · exact fun _ _ _ h _ => h
              · exact fun _ _ _ h _ => h
            rcases (by omega : ix = 0 ∨ ix = 1 ∨ ix = 2 ∨ ix = 3 ∨ ix = 4 ∨ ix = 5 ∨ ix = 6 ∨ ix = 7 ∨ ix = 8 ∨ ix = 9 ∨ ix = 10) with rfl | rfl | rfl | rfl | rfl | rfl | rfl | rfl | rfl | rfl | rfl
            · exact wpOp_of rfl (.inl rfl) (op_mv rfl rfl (HL.over mono ap rfl rfl (by simp) (Below.refl _ _) (HL.old 10 (old_end HL dl 10 12 (by decide) rfl (fun _ _ h => h)))))
            · exact wpOp_of rfl (.inl rfl) (op_ldYs rfl rfl (HL.old 2 (old_of' dl 2 (by decide))) q1 (HL.over mono ap rfl rfl (by simp) (Below.refl _ _) rfl))
            · exact wpOp_of rfl (.inl rfl) (op_mv rfl rfl (HL.over mono ap rfl rfl (by simp) (Below.refl _ _) (HL.old 8 (old_of' dl 8 (by decide)))))
            · exact wpOp_of rfl (.inl rfl) (op_mv rfl rfl (HL.over mono ap rfl rfl (by simp) (Below.refl _ _) (HL.old 11 (old_of' dl 11 (by decide)))))
            · exact wpOp_of rfl (.inl rfl) (op_ixLs rfl rfl (HL.got' hi9 (j := 2) (t := 67) rfl (by kernel_rfl) rfl rfl) (HL.got' hi9 (j := 3) (t := 68) rfl (by kernel_rfl) rfl rfl) hlt (HL.over mono ap rfl rfl (by simp) (Below.refl _ _) rfl))
            · exact wpOp_of rfl (.inl rfl) (op_lsl (.inl rfl) rfl rfl (HL.got' hi9 (j := 4) (t := 69) rfl (by kernel_rfl) rfl rfl) q2 (HL.over mono ap rfl rfl (by simp) (Below.refl _ _) rfl))
            · exact wpOp_of rfl (.inl rfl) (op_mv rfl rfl (HL.over mono ap rfl rfl (by simp) (Below.refl _ _) (HL.old 9 (old_of' dl 9 (by decide)))))
            · exact wpOp_of rfl (.inl rfl) (op_T3 rfl rfl (HL.got' hi9 (j := 1) (t := 66) rfl (by kernel_rfl) rfl rfl) (HL.got' hi9 (j := 5) (t := 70) rfl (by kernel_rfl) rfl rfl) (HL.got' hi9 (j := 6) (t := 71) rfl (by kernel_rfl) rfl rfl) (enters_of Tryz.func55 (by kernel_rfl) rfl) ((HSk.out W HL.below).mono (by rintro r w7 ⟨⟨P7, c7, rfl, i7, n7⟩, hb7⟩; exact ⟨_, rfl, HL.over mono ap rfl rfl (by simp) hb7 ⟨P7, c7, rfl, i7, fun h0 a ha => ⟨Nat.le_trans hBW (n7 a ha), i7.row.lt h0 ha⟩⟩⟩)))
            · exact wpOp_of rfl (.inl rfl) (op_mv rfl rfl (HL.over mono ap rfl rfl (by simp) (Below.refl _ _) (HL.old 12 (old_of' dl 12 (by decide)))))
            · exact wpOp_of rfl (.inl rfl) (by obtain ⟨P7, c7, e7, i7, n7⟩ := HL.got' hi9 (j := 7) (t := 72) rfl (by kernel_rfl) rfl rfl; exact op_bdK rfl rfl e7 (HL.got' hi9 (j := 8) (t := 73) rfl (by kernel_rfl) rfl rfl) (HL.over mono ap rfl rfl (by simp) (Below.refl _ _) ⟨P7, c7, rfl, i7, n7⟩))
            · exact wpOp_of rfl (.inl rfl) (by obtain ⟨P7, c7, e7, i7, n7⟩ := HL.got' hi9 (j := 9) (t := 74) rfl (by kernel_rfl) rfl rfl; exact op_bsK rfl rfl e7 (HL.over mono ap rfl rfl (by simp) (bel_nw W _) ⟨_, P7, c7, rfl, heap_alloc_new W _, i7.below (bel_nw W _), fun h0 a ha => ⟨(n7 h0 a ha).1, Nat.lt_of_lt_of_le (n7 h0 a ha).2 (bel_nw W _).size⟩⟩))
          case tail =>
            intro listed aa W HL hall
            have dl := HL.dl (l := [some 65, some 66, some 67, some 68, some 69, some 70, some 71, some 72, some 73, some 74, some 75, some 76, some 10]) rfl
            have s0 : slot aa 0 = LayV S s sc O o oc ord tile form codec := HL.old 0 (old_of' dl 0 (by decide))
            have s1 : slot aa 1 = BoxW L H j c j d := HL.old 1 (old_of' dl 1 (by decide))
            have s2 : slot aa 2 = Value.pointer (some ⟨w.heap.size, 0, none⟩) := HL.old 2 (old_of' dl 2 (by decide))
            have s3 : slot aa 3 = Value.pointer (some ⟨w.heap.size + 1, 0, none⟩) := HL.old 3 (old_of' dl 3 (by decide))
            have s4 : slot aa 4 = Value.slice none 0 0 := HL.old 4 (old_of' dl 4 (by decide))
            have s5 : slot aa 5 = Value.int IntKind.i64 0 := HL.old 5 (old_of' dl 5 (by decide))
            have s6 : slot aa 6 = Value.slice P3 j c3 := HL.old 6 (old_of' dl 6 (by decide))
            have s7 : slot aa 7 = Value.int IntKind.i64 0 := HL.old 7 (old_of' dl 7 (by decide))
            have s8 : slot aa 8 = Value.slice (some ⟨ba, 0, none⟩) V c4 := HL.old 8 (old_of' dl 8 (by decide))
            have s9 : slot aa 9 = Value.int IntKind.i64 ↑wd := HL.old 9 (old_of' dl 9 (by decide))
            have s11 : slot aa 11 = Value.int IntKind.i64 ↑t := HL.old 11 (old_of' dl 11 (by decide))
            have s12 : slot aa 12 = Value.slice (some ⟨g6, 0, none⟩) j c6 := HL.old 12 (old_of' dl 12 (by decide))
            have s13 : slot aa 13 = Value.int IntKind.i64 ↑j := HL.old 13 (old_of' dl 13 (by decide))
            have s14 : slot aa 14 = undef := HL.old 14 (old_of' dl 14 (by decide))
            have s15 : slot aa 15 = undef := HL.old 15 (old_of' dl 15 (by decide))
            have s16 : slot aa 16 = Value.agg #[Value.slice S s sc, Value.slice O o oc, Value.int IntKind.i64 ord, Value.int IntKind.i64 tile, Value.int IntKind.i64 form, Value.int IntKind.i64 codec] := HL.old 16 (old_of' dl 16 (by decide))
            have s17 : slot aa 17 = Value.bool true := HL.old 17 (old_of' dl 17 (by decide))
            have s18 : slot aa 18 = Value.bool false := HL.old 18 (old_of' dl 18 (by decide))
            have s19 : slot aa 19 = Value.agg #[Value.slice L j c, Value.slice H j d] := HL.old 19 (old_of' dl 19 (by decide))
            have s20 : slot aa 20 = Value.bool true := HL.old 20 (old_of' dl 20 (by decide))
            have s21 : slot aa 21 = Value.bool false := HL.old 21 (old_of' dl 21 (by decide))
            have s22 : slot aa 22 = Value.tuple #[Value.slice P3 j c3, Value.int IntKind.i64 0] := HL.old 22 (old_of' dl 22 (by decide))
            have s23 : slot aa 23 = Value.agg #[Value.slice L j c, Value.slice H j d] := HL.old 23 (old_of' dl 23 (by decide))
            have s24 : slot aa 24 = Value.tuple #[Value.slice P3 j c3, Value.int IntKind.i64 0] := HL.old 24 (old_of' dl 24 (by decide))
            have s25 : slot aa 25 = Value.slice P3 j c3 := HL.old 25 (old_of' dl 25 (by decide))
            have s26 : slot aa 26 = Value.int IntKind.i64 0 := HL.old 26 (old_of' dl 26 (by decide))
            have s27 : slot aa 27 = Value.int IntKind.i64 0 := HL.old 27 (old_of' dl 27 (by decide))
            have s28 : slot aa 28 = Value.bool false := HL.old 28 (old_of' dl 28 (by decide))
            have s29 : slot aa 29 = undef := HL.old 29 (old_of' dl 29 (by decide))
            have s30 : slot aa 30 = Value.slice P3 j c3 := HL.old 30 (old_of' dl 30 (by decide))
            have s31 : slot aa 31 = Value.slice (some ⟨ba, 0, none⟩) V c4 := HL.old 31 (old_of' dl 31 (by decide))
            have s32 : slot aa 32 = Value.slice P3 j c3 := HL.old 32 (old_of' dl 32 (by decide))
            have s33 : slot aa 33 = Value.int IntKind.i64 ↑wd := HL.old 33 (old_of' dl 33 (by decide))
            have s34 : slot aa 34 = Value.int IntKind.i64 ↑t := HL.old 34 (old_of' dl 34 (by decide))
            have s35 : slot aa 35 = Value.slice (some ⟨ba, 0, none⟩) V c4 := HL.old 35 (old_of' dl 35 (by decide))
            have s36 : slot aa 36 = Value.int IntKind.i64 ↑V := HL.old 36 (old_of' dl 36 (by decide))
            have s37 : slot aa 37 = Value.bool true := HL.old 37 (old_of' dl 37 (by decide))
            have s38 : slot aa 38 = u38 := HL.old 38 (old_of' dl 38 (by decide))
            have s39 : slot aa 39 = u39 := HL.old 39 (old_of' dl 39 (by decide))
            have s40 : slot aa 40 = Value.slice (some ⟨wo.heap.size, 0, none⟩) 0 0 := HL.old 40 (old_of' dl 40 (by decide))
            have s41 : slot aa 41 = Value.slice (some ⟨ba, 0, none⟩) V c4 := HL.old 41 (old_of' dl 41 (by decide))
            have s42 : slot aa 42 = Value.int IntKind.i64 ↑t := HL.old 42 (old_of' dl 42 (by decide))
            have s43 : slot aa 43 = Value.pointer (some ⟨ba, t, none⟩) := HL.old 43 (old_of' dl 43 (by decide))
            have s44 : slot aa 44 = Value.slice P j pc := HL.old 44 (old_of' dl 44 (by decide))
            have s45 : slot aa 45 = Value.slice (some ⟨g6, 0, none⟩) j c6 := HL.old 45 (old_of' dl 45 (by decide))
            have s46 : slot aa 46 = Value.int IntKind.i64 ↑j := HL.old 46 (old_of' dl 46 (by decide))
            have s47 : slot aa 47 = Value.slice (some ⟨g6, 0, none⟩) j c6 := HL.old 47 (old_of' dl 47 (by decide))
            have s48 : slot aa 48 = Value.int IntKind.i64 ↑j := HL.old 48 (old_of' dl 48 (by decide))
            have s49 : slot aa 49 = Value.bool false := HL.old 49 (old_of' dl 49 (by decide))
            have s50 : slot aa 50 = u50 := HL.old 50 (old_of' dl 50 (by decide))
            have s51 : slot aa 51 = u51 := HL.old 51 (old_of' dl 51 (by decide))
            have s52 : slot aa 52 = u52 := HL.old 52 (old_of' dl 52 (by decide))
            have s53 : slot aa 53 = u53 := HL.old 53 (old_of' dl 53 (by decide))
            have s54 : slot aa 54 = u54 := HL.old 54 (old_of' dl 54 (by decide))
            have s55 : slot aa 55 = u55 := HL.old 55 (old_of' dl 55 (by decide))
            have s56 : slot aa 56 = u56 := HL.old 56 (old_of' dl 56 (by decide))
            have s57 : slot aa 57 = u57 := HL.old 57 (old_of' dl 57 (by decide))
            have s58 : slot aa 58 = u58 := HL.old 58 (old_of' dl 58 (by decide))
            have s59 : slot aa 59 = u59 := HL.old 59 (old_of' dl 59 (by decide))
            have s60 : slot aa 60 = u60 := HL.old 60 (old_of' dl 60 (by decide))
            have s61 : slot aa 61 = u61 := HL.old 61 (old_of' dl 61 (by decide))
            have s62 : slot aa 62 = u62 := HL.old 62 (old_of' dl 62 (by decide))
            have s63 : slot aa 63 = u63 := HL.old 63 (old_of' dl 63 (by decide))
            have s64 : slot aa 64 = u64 := HL.old 64 (old_of' dl 64 (by decide))
            have s77 : slot aa 77 = undef := HL.old 77 (old_of' dl 77 (by decide))
            have s78 : slot aa 78 = undef := HL.old 78 (old_of' dl 78 (by decide))
            have s79 : slot aa 79 = undef := HL.old 79 (old_of' dl 79 (by decide))
            have s80 : slot aa 80 = undef := HL.old 80 (old_of' dl 80 (by decide))
            have s81 : slot aa 81 = undef := HL.old 81 (old_of' dl 81 (by decide))
            have s82 : slot aa 82 = undef := HL.old 82 (old_of' dl 82 (by decide))
            have s83 : slot aa 83 = undef := HL.old 83 (old_of' dl 83 (by decide))
            have s84 : slot aa 84 = undef := HL.old 84 (old_of' dl 84 (by decide))
            have s85 : slot aa 85 = undef := HL.old 85 (old_of' dl 85 (by decide))
            have s86 : slot aa 86 = undef := HL.old 86 (old_of' dl 86 (by decide))
            have s87 : slot aa 87 = undef := HL.old 87 (old_of' dl 87 (by decide))
            have s88 : slot aa 88 = undef := HL.old 88 (old_of' dl 88 (by decide))
            have s89 : slot aa 89 = undef := HL.old 89 (old_of' dl 89 (by decide))
            have s90 : slot aa 90 = undef := HL.old 90 (old_of' dl 90 (by decide))
            have s91 : slot aa 91 = undef := HL.old 91 (old_of' dl 91 (by decide))
            have s92 : slot aa 92 = undef := HL.old 92 (old_of' dl 92 (by decide))
            have s93 : slot aa 93 = undef := HL.old 93 (old_of' dl 93 (by decide))
            have e0 := HL.got 0 _ 65 rfl rfl (hall 0 (by decide))
            obtain ⟨b, P7, c7, e1, f1, f2, f3⟩ := HL.got 10 _ 75 rfl rfl (hall 10 (by decide))
            obtain ⟨fr, hf, rfl⟩ := actlitf 94 aa (HL.frame.trans (by simp)) (HL.defers.trans rfl)
            rw [show List.range 94 = [0, 1, 2, 3, 4, 5, 6, 7, 8, 9, 10, 11, 12, 13, 14, 15, 16, 17, 18, 19, 20, 21, 22, 23, 24, 25, 26, 27, 28, 29, 30, 31, 32, 33, 34, 35, 36, 37, 38, 39, 40, 41, 42, 43, 44, 45, 46, 47, 48, 49, 50, 51, 52, 53, 54, 55, 56, 57, 58, 59, 60, 61, 62, 63, 64, 65, 66, 67, 68, 69, 70, 71, 72, 73, 74, 75, 76, 77, 78, 79, 80, 81, 82, 83, 84, 85, 86, 87, 88, 89, 90, 91, 92, 93] from rfl]
            simp only [List.map_cons, List.map_nil]
            have q0 := (hf 0).symm.trans s0
            have q1 := (hf 1).symm.trans s1
            have q2 := (hf 2).symm.trans s2
            have q3 := (hf 3).symm.trans s3
            have q4 := (hf 4).symm.trans s4
            have q5 := (hf 5).symm.trans s5
            have q6 := (hf 6).symm.trans s6
            have q7 := (hf 7).symm.trans s7
            have q8 := (hf 8).symm.trans s8
            have q9 := (hf 9).symm.trans s9
            have q11 := (hf 11).symm.trans s11
            have q12 := (hf 12).symm.trans s12
            have q13 := (hf 13).symm.trans s13
            have q14 := (hf 14).symm.trans s14
            have q15 := (hf 15).symm.trans s15
            have q16 := (hf 16).symm.trans s16
            have q17 := (hf 17).symm.trans s17
            have q18 := (hf 18).symm.trans s18
            have q19 := (hf 19).symm.trans s19
            have q20 := (hf 20).symm.trans s20
            have q21 := (hf 21).symm.trans s21
            have q22 := (hf 22).symm.trans s22
            have q23 := (hf 23).symm.trans s23
            have q24 := (hf 24).symm.trans s24
            have q25 := (hf 25).symm.trans s25
            have q26 := (hf 26).symm.trans s26
            have q27 := (hf 27).symm.trans s27
            have q28 := (hf 28).symm.trans s28
            have q29 := (hf 29).symm.trans s29
            have q30 := (hf 30).symm.trans s30
            have q31 := (hf 31).symm.trans s31
            have q32 := (hf 32).symm.trans s32
            have q33 := (hf 33).symm.trans s33
            have q34 := (hf 34).symm.trans s34
            have q35 := (hf 35).symm.trans s35
            have q36 := (hf 36).symm.trans s36
            have q37 := (hf 37).symm.trans s37
            have q38 := (hf 38).symm.trans s38
            have q39 := (hf 39).symm.trans s39
            have q40 := (hf 40).symm.trans s40
            have q41 := (hf 41).symm.trans s41
            have q42 := (hf 42).symm.trans s42
            have q43 := (hf 43).symm.trans s43
            have q44 := (hf 44).symm.trans s44
            have q45 := (hf 45).symm.trans s45
            have q46 := (hf 46).symm.trans s46
            have q47 := (hf 47).symm.trans s47
            have q48 := (hf 48).symm.trans s48
            have q49 := (hf 49).symm.trans s49
            have q50 := (hf 50).symm.trans s50
            have q51 := (hf 51).symm.trans s51
            have q52 := (hf 52).symm.trans s52
            have q53 := (hf 53).symm.trans s53
            have q54 := (hf 54).symm.trans s54
            have q55 := (hf 55).symm.trans s55
            have q56 := (hf 56).symm.trans s56
            have q57 := (hf 57).symm.trans s57
            have q58 := (hf 58).symm.trans s58
            have q59 := (hf 59).symm.trans s59
            have q60 := (hf 60).symm.trans s60
            have q61 := (hf 61).symm.trans s61
            have q62 := (hf 62).symm.trans s62
            have q63 := (hf 63).symm.trans s63
            have q64 := (hf 64).symm.trans s64
            have q77 := (hf 77).symm.trans s77
            have q78 := (hf 78).symm.trans s78
            have q79 := (hf 79).symm.trans s79
            have q80 := (hf 80).symm.trans s80
            have q81 := (hf 81).symm.trans s81
            have q82 := (hf 82).symm.trans s82
            have q83 := (hf 83).symm.trans s83
            have q84 := (hf 84).symm.trans s84
            have q85 := (hf 85).symm.trans s85
            have q86 := (hf 86).symm.trans s86
            have q87 := (hf 87).symm.trans s87
            have q88 := (hf 88).symm.trans s88
            have q89 := (hf 89).symm.trans s89
            have q90 := (hf 90).symm.trans s90
            have q91 := (hf 91).symm.trans s91
            have q92 := (hf 92).symm.trans s92
            have q93 := (hf 93).symm.trans s93
            have q65 : fr 65 = .slice VA t vc := (hf 65).symm.trans e0
            have q75 : fr 75 = .slice (some ⟨b, 0, none⟩) 1 1 := (hf 75).symm.trans e1
            rw [q0, q1, q2, q3, q4, q5, q6, q7, q8, q9, q11, q12, q13, q14, q15, q16, q17, q18, q19, q20, q21, q22, q23, q24, q25, q26, q27, q28, q29, q30, q31, q32, q33, q34, q35, q36, q37, q38, q39, q40, q41, q42, q43, q44, q45, q46, q47, q48, q49, q50, q51, q52, q53, q54, q55, q56, q57, q58, q59, q60, q61, q62, q63, q64, q77, q78, q79, q80, q81, q82, q83, q84, q85, q86, q87, q88, q89, q90, q91, q92, q93, q65, q75]
            clear s0 s1 s2 s3 s4 s5 s6 s7 s8 s9 s11 s12 s13 s14 s15 s16 s17 s18 s19 s20 s21 s22 s23 s24 s25 s26 s27 s28 s29 s30 s31 s32 s33 s34 s35 s36 s37 s38 s39 s40 s41 s42 s43 s44 s45 s46 s47 s48 s49 s50 s51 s52 s53 s54 s55 s56 s57 s58 s59 s60 s61 s62 s63 s64 s77 s78 s79 s80 s81 s82 s83 s84 s85 s86 s87 s88 s89 s90 s91 s92 s93 q0 q1 q2 q3 q4 q5 q6 q7 q8 q9 q11 q12 q13 q14 q15 q16 q17 q18 q19 q20 q21 q22 q23 q24 q25 q26 q27 q28 q29 q30 q31 q32 q33 q34 q35 q36 q37 q38 q39 q40 q41 q42 q43 q44 q45 q46 q47 q48 q49 q50 q51 q52 q53 q54 q55 q56 q57 q58 q59 q60 q61 q62 q63 q64 q77 q78 q79 q80 q81 q82 q83 q84 q85 q86 q87 q88 q89 q90 q91 q92 q93 q65 q75
            have hb0 := HL.below
            have hBo : Below wo.heap.size wo W := HBj.out.trans (hb0.mono HBj.out.size)
            have hO := HO.out.below hBo
            have HBW : Hid (Below w5.heap.size w5 W) := st HBr.out hBo
            clear hf dl hall HL e0 e1
            have hat := HAt.out.below hb0
            have hrg : ((List.range V)[t]!) = t := range_at hlt
            have hq : W.heap[b]? = some (.cells #[.slice P7 (((seqT ord tile j wd lo e).of (List.range V)).ln t) c7, .slice (some ⟨g6, 0, none⟩) (((seqT ord tile j wd lo e).of (List.range V)).vl t) c6] 103 (0, 0)) ∧ IntsAt W P7 (((seqT ord tile j wd lo e).of (List.range V)).ln t) (((seqT ord tile j wd lo e).of (List.range V)).x t) ∧ IntsAt W (some ⟨g6, 0, none⟩) (((seqT ord tile j wd lo e).of (List.range V)).vl t) (((seqT ord tile j wd lo e).of (List.range V)).y t) := by
              show _ ∧ IntsAt W P7 (keyLen ord j wd) (keyX ord tile j wd e ((List.range V)[t]!)) ∧ IntsAt W (some ⟨g6, 0, none⟩) j (fun k => crdZ lo e j ((List.range V)[t]!) k)
              rw [hrg]
              exact ⟨f1, f2, hat⟩
            refine wpList_appY rfl (.tmp 65) (.tmp 75) rfl W (fun _ => True) w5.heap.size (.slice VA t vc) t _ rfl b rfl P7 (some ⟨g6, 0, none⟩) c7 c6 hq.1 hq.2.1 hq.2.2 ⟨trivial, trivial⟩ ⟨fun h0 a ha h9 => ?_, fun h0 a ha h9 => ?_⟩ hO (by omega) HBW.out.size ?_
            · have h8 := (f3 h0 a ha).1
              have h7 := (HO.out.block h9).2
              have := HBj.out.size
              omega
            · injection ha with ha
              subst ha
              have h7 := (HO.out.block h9).2
              have h8 : wo.heap.size ≤ g6 := (HOj.out.block rfl).1
              exact absurd h7 (Nat.not_lt.2 h8)
            intro v' w2 hown hgr hat2
            obtain ⟨V8, c8, hv8, -⟩ := hown.row
            subst hv8
            have HO9 := Lib.hid hown
            have HB9 : Hid (Below w5.heap.size w5 w2) := HBW.out.grown hgr HBW.out.size (fun k hk => (hO.block hk).1)
            clear hO hgr hat2 hown f1 f2 f3 hb0 hat hq hBo
            go_wp2_with fail
            exact ⟨⟨t + 1, by omega, by go_num, HO9, HB9⟩, by simp [intOf]; omega⟩
    · obtain rfl : t = V := by omega
      have HKl : Hid (keyLen ord n wd ≤ 1000) := by
        have h9 : wd * n ≤ 15 * 4 := Nat.mul_le_mul hw h4
        show keyLen ord n wd ≤ 1000
        unfold keyLen
        split
        · omega
        · split <;> omega
      obtain ⟨VA, vc, hv9, hvc, hka⟩ := HO.out.at2 (fun _ => HKl.out)
      subst hv9
      have HKA := Lib.hid hka
      have HBw : Hid (Below w.heap.size w wr) := st HB3.out (st HB6.out HBr.out)
      clear hka
      go_wp2_with fail
      refine (r_sortedY (seqT ord tile n wd lo e) (keyLen ord n wd) (fun _ => rfl) HKl.out t wr VA t vc (List.range t) (Nat.le_refl _) (by omega) (by simp) HKA.out hvc).mono ?_
      rintro r w7 ⟨v7, rfl, hso, hb7⟩
      obtain ⟨A7, c7, L7, rfl, hc7, hp7, hi7, ha7⟩ := hso
      have HP7 := Lib.hid hp7
      have HI7 := Lib.hid hi7
      have HA7 := Lib.hid ha7
      have HB7 : Hid (Below w.heap.size w w7) := st HBw.out hb7
      clear hp7 hi7 ha7 hb7
      go_wp2_with fail
      go_loopw [14, 15] (fun v i wr => ∃ k : Nat, k ≤ t ∧ i = .int .i64 k ∧ Hid (OwnL wr w7.heap.size v k (fun _ => n) (fun q j => crdZ lo e n (L7[q]!) j)) ∧ Hid (Below w7.heap.size w7 wr)) (fun _ i _ => t - (intOf i).toNat)
      case atStart => exact ⟨0, Nat.zero_le _, rfl, OwnL.nil _ _ _ _, Below.refl _ _⟩
      case round =>
        obtain ⟨k, hk, rfl, HOk, HBk⟩ := hrel
        obtain ⟨A8, c8, rfl⟩ := HOk.out.sl
        by_cases hlt : k < t
        · obtain ⟨b, o, rfl, hb, hce⟩ := HA7.out (by omega)
          obtain ⟨P, pc, Q, qc, a1, a2, a3, a4, -⟩ := hce k hlt
          have x1 : wr.cell? ⟨b, o + k * 2 + 1, none⟩ = some (.slice Q n qc) := (HBk.out.cell (p := ⟨b, o + k * 2 + 1, none⟩) hb).trans a2
          have HQ : Hid (IntsAt w7 Q n fun j => crdZ lo e n (L7[k]!) j) := a4
          have hlt' : (k : Int) < (t : Int) := by omega
          have hzb := HBk.out.size
          clear hce a1 a2 a3 a4
          go_wp2_with (at_builtin; refine wpList_appL rfl _ _ rfl (wr.alloc (.cells #[.slice Q n qc] 35)) w7.heap.size (.slice A8 k c8) k (fun _ => n) _ rfl (HOk.out.below (bel_nw wr _)) wr.heap.size rfl Q n qc _ (heap_alloc_new wr _) (HQ.out.below (HBk.out.trans ((bel_nw wr _).mono HBk.out.size))) (by omega) (by omega) (fun a ha => ⟨(by have h9 := HQ.out.row.lt h1 ha; rw [World.size_alloc]; omega), fun hg => (by have h9 := HQ.out.row.lt h1 ha; have h8 := (HOk.out.block hg).1; omega)⟩) (by omega) (Nat.le_trans hzb (bel_nw wr _).size) ?_; intro v8 w8 hown8 hgr8 hat8; obtain ⟨A9, c9, hv8⟩ := hown8.sl; subst hv8; have HO8 := Lib.hid hown8; have HB8 : Hid (Below w7.heap.size w7 w8) := (HBk.out.trans ((bel_nw wr _).mono HBk.out.size)).grown hgr8 (Nat.le_trans hzb (bel_nw wr _).size) (fun g hg => (HOk.out.block hg).1); clear hown8 hgr8 hat8)
          refine ⟨⟨k + 1, by omega, by go_num, HO8.out.congr (fun q hq => by unfold updNN; split <;> rfl) (fun q hq j hj => ?_), HB8⟩, by simp [intOf]; omega⟩
          unfold updLL
          split
          · rename_i h; rw [h]
          · rfl
        · obtain rfl : k = t := by omega
          go_wp2_with fail
          go_ret2
          exact ⟨⟨A8, c8, L7, by rw [HV.out]; rfl, by rw [HV.out]; exact HOk.out.lists, by rw [HV.out]; exact HP7.out, by rw [HWd.out]; exact HI7.out⟩, st HB7.out HBk.out⟩
end Go.Proofs.YtogmbehomilalaaGreatDoor

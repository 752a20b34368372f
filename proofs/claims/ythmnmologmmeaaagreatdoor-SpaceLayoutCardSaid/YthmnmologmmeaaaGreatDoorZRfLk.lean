/- The reference's Homes. -/
import Derived.Test.YthmnmologmmeaaaGreatDoorZBxA
import Derived.Test.YthmnmologmmeaaaGreatDoorZOpH
namespace Go.Proofs.YthmnmologmmeaaaGreatDoor
open Go Go.RowKit Go.Deep

theorem has_ins {l h v : Nat → Int} {n : Nat} (hb : ∀ k, k < n → h k ≤ 1073741824) : hasTo l h v n = insTo l h v n := by
  induction n with
  | zero => rfl
  | succ n ih =>
    have h1 : belB (v n) (h n) = decide (v n ≤ h n) := by
      unfold belB
      have := hb n (by omega)
      rw [decide_eq_false (show ¬ 1073741825 ≤ h n by omega), Bool.or_false]
    rw [hasTo, insTo, ih fun k hk => hb k (by omega), h1]
set_option maxRecDepth 100000 in
set_option maxHeartbeats 8000000 in
theorem r_Homes (w : World) (A S O XA : Option Addr) (n cap s sc o oc m mc : Nat) (nm : Nat → ByteArray) (lo hi sd ov xs : Nat → Int) (ord tile form codec : Int) (hd : DimsAt w A n nm lo hi) (hs : IntsAt w S s sd) (ho : IntsAt w O o ov) (hx : IntsAt w XA m xs) (hns : ∀ k, k < n → (nm k).size ≤ 9223372036854775807) (hs1 : s ≤ 1000) (ho1 : o ≤ 1000) (hn1 : n ≤ 1000) (hm1 : m ≤ 1000)
    (he : atE nm lo hi n sd ov s o ord tile form codec xs m = 0) :
    Calls Tryz.prog 23 #[.slice A n cap, LayV S s sc O o oc ord tile form codec, .slice XA m mc] w fun e w' => ∃ P c, e = .returned (.tuple #[.slice P (volC (homeN lo hi sd ov xs) n 0) c, .int .i64 0]) ∧ ListsAt w' P (volC (homeN lo hi sd ov xs) n 0) (fun _ => n) (fun t => crdZ (homeLo lo sd ov xs) (homeN lo hi sd ov xs) n t) ∧ Below w.heap.size w w' := by
  have HC := Lib.hid (fun W (hW : Below w.heap.size w W) => r_Chunk W A S O XA n cap s sc o oc m mc nm lo hi sd ov xs ord tile form codec (hd.below hW) (hs.below hW) (ho.below hW) (hx.below hW) hns hs1 ho1 hn1 hm1 he)
  have KB := Lib.hid (lay_box w S O s sc o oc ord tile form codec)
  have HB := Lib.hid (lay_row w S O s sc o oc ord tile form codec)
  have hf := at_facts he
  have HW : Hid (∀ W (P : Option Addr) (pc : Nat) (v : Nat → Int), Below w.heap.size w W → IntsAt W P n v → Calls Tryz.prog 29 #[.slice A n cap, LayV S s sc O o oc ord tile form codec, .slice P n pc] W fun e w' => ∃ L H k c1 c2, e = .returned (.tuple #[BoxW L H k c1 k c2, .int .i64 (rangeE (cinTo lo hi sd v n))]) ∧ k = cntK (cinTo lo hi sd v n) n ∧ IntsAt w' L k (wideLo lo sd ov v) ∧ IntsAt w' H k (wideHi lo hi sd ov v) ∧ Below W.heap.size W w') := fun W P pc v hW hP => by
    have hl : layE nm lo hi n sd ov s o ord tile form codec = 0 := (at_zero he).1
    have e1 : coreE nm lo hi n sd ov s o ord tile form codec v n = rangeE (cinTo lo hi sd v n) := by unfold coreE; rw [if_neg (by omega), if_neg (by omega)]
    cases hc : cinTo lo hi sd v n
    · rw [hc] at e1
      have h9 := r_Wide_bad W A S O P n cap s sc o oc n pc nm lo hi sd ov v ord tile form codec (hd.below hW) (hs.below hW) (ho.below hW) hP hns hs1 ho1 hn1 hn1 (by rw [e1]; decide)
      rw [e1] at h9
      exact h9.mono fun e w' ⟨h1, h2⟩ => ⟨none, none, 0, 0, 0, h1, rfl, fun h => absurd h (by omega), fun h => absurd h (by omega), h2⟩
    · rw [hc] at e1
      exact (r_Wide W A S O P n cap s sc o oc n pc nm lo hi sd ov v ord tile form codec (hd.below hW) (hs.below hW) (ho.below hW) hP hns hs1 ho1 hn1 hn1 e1).mono fun e w' ⟨L, H, c1, c2, h1, h2, h3, h4⟩ => ⟨L, H, n, c1, c2, h1, rfl, h2, h3, h4⟩
  have HX := Lib.hid hx
  have HH := Lib.hid r_Has
  obtain ⟨rfl, rfl, rfl, hn1', hn4, hf'⟩ := hf
  have HCh : Hid (ChOk lo hi sd ov xs m) := Lib.hid hf'
  have HR : Hid (∀ W (C : Option Addr) (cc : Nat), IntsAt W C m (chZ lo sd xs) → Calls Tryz.prog 70 #[.slice C m cc, .int .i64 0] W fun e w' => ∃ v, e = .returned v ∧ OwnL w' W.heap.size v (3 ^ m) (fun _ => m) (arZ (chZ lo sd xs) 0 m) ∧ Below W.heap.size W w') := fun W C cc hC => r_around m W C m cc 0 (chZ lo sd xs) (by omega) hn4 hC fun k hk => by
    obtain ⟨f1, f2, f3, f4, f5, f6, f7, f8, f9, f10⟩ := hf' k hk
    have h1 : 0 ≤ (xs k - lo k) / sd k := Int.ediv_nonneg (by omega) (by omega)
    have h2 : (xs k - lo k) / sd k ≤ xs k - lo k := Int.ediv_le_self _ (by omega)
    unfold chZ
    omega
  clear hd hs ho hx hns he hf'
  go_enter Tryz.func23, Tryz.ntmps23
  go_wp2_with fail
  generalize w.alloc (.cells #[.slice S m sc, .slice O m oc, .int .i64 ord, .int .i64 tile, .int .i64 form, .int .i64 codec] 54) = W0 at *
  refine (HC.out _ HB.out).mono ?_
  rintro e w1 ⟨P, pc, rfl, hp, hb1⟩
  have HB1 : Hid (Below w.heap.size w w1) := st HB.out hb1
  have HC1 : Hid (Below W0.heap.size W0 w1) := hb1
  have HP := Lib.hid hp
  clear hb1 HC hp
  go_wp2_with fail
  refine (HR.out _ _ _ HP.out).mono ?_
  rintro e w2 ⟨v, rfl, hL, hb2⟩
  have HB2 : Hid (Below w.heap.size w w2) := st HB1.out hb2
  have HC2 : Hid (Below W0.heap.size W0 w2) := st HC1.out hb2
  obtain ⟨Al, ac, rfl⟩ := hL.sl
  have HL := Lib.hid hL
  clear hb2 hL HP HB1 HC1 HR
  have hN81 : 3 ^ m ≤ 81 := by
    have : 3 ^ m ≤ 3 ^ 4 := Nat.pow_le_pow_right (by omega) (by omega)
    simpa using this
  have HN81 := Lib.hid hN81
  go_wp2_with fail
  generalize hN : 3 ^ m = N at *
  have HNN := Lib.hid hN
  clear hN
  go_loopw [11, 12] (fun v i wr => ∃ k j : Nat, k ≤ N ∧ i = .int .i64 k ∧ Hid (HoSt lo hi sd ov xs m k j) ∧ Hid (OwnL wr w2.heap.size v j (fun _ => m) (fun t => crdZ (homeLo lo sd ov xs) (homeN lo hi sd ov xs) m t)) ∧ Hid (Below w2.heap.size w2 wr)) (fun _ i _ => N - (intOf i).toNat)
  case atStart => exact ⟨0, 0, Nat.zero_le _, rfl, HoSt.start _ _ _ _ _ _, OwnL.nil _ _ _ _, Below.refl _ _⟩
  case round =>
    obtain ⟨k, j, hk, rfl, HSt, HOw, HBr⟩ := hrel
    by_cases hlt : k < N
    · obtain ⟨ba, rfl, hba0, hba, hra⟩ := (HL.out.below HBr.out).reads (by omega)
      obtain ⟨P9, pc9, hp1, hp2, hP0, _, hP⟩ := hra k hlt
      clear hra
      have HPb : Hid (∀ a, P9 = some a → a.block < w2.heap.size) := fun a ha => by
        obtain ⟨ba', e, _, _, hra⟩ := HL.out.reads (by omega)
        injection e with e
        injection e with e
        subst e
        obtain ⟨P8, pc8, g1, _, _, _, g3⟩ := hra k hlt
        have g2 := (HBr.out.cell (p := ⟨ba, k, none⟩) (cell_lt' g1)).trans g1
        rw [hp1] at g2
        injection g2 with g2
        injection g2 with g2
        subst g2
        exact (g3 a ha).1
      obtain ⟨vv, hvv⟩ : ∃ vv, arZ (chZ lo sd xs) 0 m k = vv := ⟨_, rfl⟩
      rw [hvv] at hp2
      have HVV := Lib.hid hvv
      clear hvv
      have HKq : Hid (∀ W, Below wr.heap.size wr W → W.cell? ⟨ba, 0 + k, none⟩ = some (.slice P9 m pc9) ∧ IntsAt W P9 m vv ∧ Below w.heap.size w W ∧ Below W0.heap.size W0 W) := fun W hW => ⟨by rw [Nat.zero_add]; exact (hW.cell (p := ⟨ba, k, none⟩) hba).trans hp1, hp2.below hW, st (st HB2.out HBr.out) hW, st (st HC2.out HBr.out) hW⟩
      clear hp1 hp2 hP
      go_wp2_with fail
      have HCK : Hid (∀ W, Below wr.heap.size wr W → (W.cell? ⟨w.heap.size, 0, none⟩ = some (.slice S m sc) ∧ W.cell? ⟨w.heap.size, 1, none⟩ = some (.slice O m oc) ∧ W.cell? ⟨w.heap.size, 2, none⟩ = some (.int .i64 ord) ∧ W.cell? ⟨w.heap.size, 3, none⟩ = some (.int .i64 tile) ∧ W.cell? ⟨w.heap.size, 4, none⟩ = some (.int .i64 form) ∧ W.cell? ⟨w.heap.size, 5, none⟩ = some (.int .i64 codec)) ∧ W.cell? ⟨ba, k, none⟩ = some (.slice P9 m pc9)) := fun W hW => by
        obtain ⟨q1, _, _, q4⟩ := HKq.out W hW
        rw [Nat.zero_add] at q1
        exact ⟨KB.out W q4, q1⟩
      obtain ⟨⟨l0, l1, l2, l3, l4, l5⟩, a0⟩ := HCK.out wr (Below.refl _ _)
      have B0d : Below wr.heap.size wr wr.drew := Below.drew (Below.refl _ _)
      have B0a : Below wr.heap.size wr (wr.drew.alloc (.cells #[.slice none 0 0, .slice none 0 0] 66)) := B0d.alloc (Nat.le_refl _) _
      cases hc : cinTo lo hi sd vv m
      · have HN2 : Hid (HoSt lo hi sd ov xs m (k + 1) j) := (HoSt.step HCh.out HSt.out).2 (by rw [HVV.out]; unfold keptB; rw [hc]; rfl)
        have HWk : Hid (∀ W, Below wr.heap.size wr W → Calls Tryz.prog 29 #[.slice A m cap, LayV S m sc O m oc ord tile form codec, .slice P9 m pc9] W fun e w' => ∃ L H c1 c2, e = .returned (.tuple #[.agg #[.slice L 0 c1, .slice H 0 c2], .int .i64 3]) ∧ (IntsAt w' L 0 (wideLo lo sd ov vv) ∧ IntsAt w' H 0 (wideHi lo hi sd ov vv)) ∧ Below W.heap.size W w') := fun W hW => by
          obtain ⟨_, q2, q3, _⟩ := HKq.out W hW
          refine (HW.out W P9 pc9 vv q3 q2).mono ?_
          rintro e w' ⟨L, H, kv, c1, c2, h1, h2, h3, h4, h5⟩
          rw [hc] at h1 h2
          subst h2
          exact ⟨L, H, c1, c2, h1, ⟨h3, h4⟩, h5⟩
        clear hc
        go_region_held3 (fun W => (W.cell? ⟨w.heap.size, 0, none⟩ = some (.slice S m sc) ∧ W.cell? ⟨w.heap.size, 1, none⟩ = some (.slice O m oc) ∧ W.cell? ⟨w.heap.size, 2, none⟩ = some (.int .i64 ord) ∧ W.cell? ⟨w.heap.size, 3, none⟩ = some (.int .i64 tile) ∧ W.cell? ⟨w.heap.size, 4, none⟩ = some (.int .i64 form) ∧ W.cell? ⟨w.heap.size, 5, none⟩ = some (.int .i64 codec)) ∧ W.cell? ⟨ba, k, none⟩ = some (.slice P9 m pc9))
          (first | exact HCK.out _ (((B1.alloc B1.size _).setCell (by show wr.heap.size ≤ w5.heap.size; exact B1.size) _).setCell (by show wr.heap.size ≤ w5.heap.size; exact B1.size) _) | exact HCK.out _ ((B1.setCell (by show wr.heap.size ≤ wr.heap.size; exact Nat.le_refl _) _).setCell (by show wr.heap.size ≤ wr.heap.size; exact Nat.le_refl _) _) | exact HCK.out _ (B1.alloc B1.size _) | exact HCK.out _ B1 | exact HCK.out _ B0a | exact HCK.out _ B0d | exact HCK.out _ (Below.refl _ _))
          (first
            | (go_at_call 29; refine (HWk.out _ B0d).mono ?_; rintro e w5 ⟨L, H, c1, c2, rfl, U1, hb5⟩; have B1 : Below wr.heap.size wr w5 := st B0d hb5; obtain ⟨zr0, zr1, zz0, zz1⟩ := box_at (heap_alloc_new w5 (.cells #[.slice none 0 0, .slice none 0 0] 66)))
            | (go_at_call 29; refine (HWk.out _ B0a).mono ?_; rintro e w5 ⟨L, H, c1, c2, rfl, U1, hb5⟩; have B1 : Below wr.heap.size wr w5 := st B0a hb5; have hzz := (hb5.block wr.heap.size (by simp)).trans (heap_alloc_new wr.drew (.cells #[.slice none 0 0, .slice none 0 0] 66)); obtain ⟨zr0, zr1, zz0, zz1⟩ := box_at hzz))
        all_goals
          have HU1 := Lib.hid U1
          first
          | (have hz9 := hzz
             have HB5 : Hid (Below wr.heap.size wr ((w5.setCell ⟨wr.heap.size, 0, none⟩ (.slice L 0 c1)).setCell ⟨wr.heap.size, 1, none⟩ (.slice H 0 c2))) := (B1.setCell (by show wr.heap.size ≤ wr.heap.size; exact Nat.le_refl _) _).setCell (by show wr.heap.size ≤ wr.heap.size; exact Nat.le_refl _) _
             have HX5 : Hid (((w5.setCell ⟨wr.heap.size, 0, none⟩ (.slice L 0 c1)).setCell ⟨wr.heap.size, 1, none⟩ (.slice H 0 c2)).heap[wr.heap.size]? = some (.cells #[.slice L 0 c1, .slice H 0 c2] 66 (0, 0))) := box_set1 (box_set0 hzz _) _
             have HU5 : Hid (IntsAt ((w5.setCell ⟨wr.heap.size, 0, none⟩ (.slice L 0 c1)).setCell ⟨wr.heap.size, 1, none⟩ (.slice H 0 c2)) L 0 (wideLo lo sd ov vv) ∧ IntsAt ((w5.setCell ⟨wr.heap.size, 0, none⟩ (.slice L 0 c1)).setCell ⟨wr.heap.size, 1, none⟩ (.slice H 0 c2)) H 0 (wideHi lo hi sd ov vv)) := ⟨ints_setB (ints_setB HU1.out.1 hzz rfl rfl) (box_set0 hzz _) rfl rfl, ints_setB (ints_setB HU1.out.2 hzz rfl rfl) (box_set0 hzz _) rfl rfl⟩
             clear hz9 hzz zr0 zr1 zz0 zz1 U1 HU1 hb5 B0d B0a l0 l1 l2 l3 l4 l5 a0 B1
             generalize (w5.setCell ⟨wr.heap.size, 0, none⟩ (.slice L 0 c1)).setCell ⟨wr.heap.size, 1, none⟩ (.slice H 0 c2) = W5 at *
             generalize wr.heap.size = bb at HX5 ⊢)
          | (have HB5 : Hid (Below wr.heap.size wr (w5.alloc (.cells #[.slice L 0 c1, .slice H 0 c2] 66))) := B1.alloc B1.size _
             have HX5 : Hid ((w5.alloc (.cells #[.slice L 0 c1, .slice H 0 c2] 66)).heap[w5.heap.size]? = some (.cells #[.slice L 0 c1, .slice H 0 c2] 66 (0, 0))) := heap_alloc_new w5 _
             have HU5 : Hid (IntsAt (w5.alloc (.cells #[.slice L 0 c1, .slice H 0 c2] 66)) L 0 (wideLo lo sd ov vv) ∧ IntsAt (w5.alloc (.cells #[.slice L 0 c1, .slice H 0 c2] 66)) H 0 (wideHi lo hi sd ov vv)) := ⟨HU1.out.1.below (bel_nw w5 _), HU1.out.2.below (bel_nw w5 _)⟩
             clear zr0 zr1 zz0 zz1 U1 HU1 hb5 B0d B0a l0 l1 l2 l3 l4 l5 a0 B1
             generalize w5.alloc (.cells #[.slice L 0 c1, .slice H 0 c2] 66) = W5 at *
             generalize w5.heap.size = bb at HX5 ⊢)
          go_wp2_with fail
          have HO5 := Lib.hid (HOw.out.below HB5.out)
          go_roundw
          case rel => exact ⟨k + 1, j, by omega, by go_num, HN2.out, HO5.out, st HBr.out HB5.out⟩
          case measure => simp [intOf]; omega
      · have HWk : Hid (∀ W, Below wr.heap.size wr W → Calls Tryz.prog 29 #[.slice A m cap, LayV S m sc O m oc ord tile form codec, .slice P9 m pc9] W fun e w' => ∃ L H c1 c2, e = .returned (.tuple #[.agg #[.slice L m c1, .slice H m c2], .int .i64 0]) ∧ (IntsAt w' L m (wideLo lo sd ov vv) ∧ IntsAt w' H m (wideHi lo hi sd ov vv)) ∧ Below W.heap.size W w') := fun W hW => by
          obtain ⟨_, q2, q3, _⟩ := HKq.out W hW
          refine (HW.out W P9 pc9 vv q3 q2).mono ?_
          rintro e w' ⟨L, H, kv, c1, c2, h1, h2, h3, h4, h5⟩
          rw [hc] at h1 h2
          subst h2
          exact ⟨L, H, c1, c2, h1, ⟨h3, h4⟩, h5⟩
        have hkb : keptB lo hi sd ov xs vv m = hasB m m m (wideLo lo sd ov vv) (wideHi lo hi sd ov vv) xs := by
          unfold keptB hasB formB
          rw [hc, beq_self_eq_true, decide_eq_true hn1', decide_eq_true hn4, has_ins fun k _ => ?_]
          · rfl
          · unfold wideHi
            have := lastZ_le (hi k)
            omega
        have HKB := Lib.hid hkb
        have HST := Lib.hid (HoSt.step HCh.out HSt.out)
        rw [HVV.out] at HST
        clear hc hkb
        go_region_held3 (fun W => (W.cell? ⟨w.heap.size, 0, none⟩ = some (.slice S m sc) ∧ W.cell? ⟨w.heap.size, 1, none⟩ = some (.slice O m oc) ∧ W.cell? ⟨w.heap.size, 2, none⟩ = some (.int .i64 ord) ∧ W.cell? ⟨w.heap.size, 3, none⟩ = some (.int .i64 tile) ∧ W.cell? ⟨w.heap.size, 4, none⟩ = some (.int .i64 form) ∧ W.cell? ⟨w.heap.size, 5, none⟩ = some (.int .i64 codec)) ∧ W.cell? ⟨ba, k, none⟩ = some (.slice P9 m pc9))
          (first | exact HCK.out _ (((B1.alloc B1.size _).setCell (by show wr.heap.size ≤ w5.heap.size; exact B1.size) _).setCell (by show wr.heap.size ≤ w5.heap.size; exact B1.size) _) | exact HCK.out _ ((B1.setCell (by show wr.heap.size ≤ wr.heap.size; exact Nat.le_refl _) _).setCell (by show wr.heap.size ≤ wr.heap.size; exact Nat.le_refl _) _) | exact HCK.out _ (B1.alloc B1.size _) | exact HCK.out _ B1 | exact HCK.out _ B0a | exact HCK.out _ B0d | exact HCK.out _ (Below.refl _ _))
          (first
            | (go_at_call 29; refine (HWk.out _ B0d).mono ?_; rintro e w5 ⟨L, H, c1, c2, rfl, U1, hb5⟩; have B1 : Below wr.heap.size wr w5 := st B0d hb5; obtain ⟨zr0, zr1, zz0, zz1⟩ := box_at (heap_alloc_new w5 (.cells #[.slice none 0 0, .slice none 0 0] 66)))
            | (go_at_call 29; refine (HWk.out _ B0a).mono ?_; rintro e w5 ⟨L, H, c1, c2, rfl, U1, hb5⟩; have B1 : Below wr.heap.size wr w5 := st B0a hb5; have hzz := (hb5.block wr.heap.size (by simp)).trans (heap_alloc_new wr.drew (.cells #[.slice none 0 0, .slice none 0 0] 66)); obtain ⟨zr0, zr1, zz0, zz1⟩ := box_at hzz))
        all_goals
          have HU1 := Lib.hid U1
          first
          | (have hz9 := hzz
             have HB5 : Hid (Below wr.heap.size wr ((w5.setCell ⟨wr.heap.size, 0, none⟩ (.slice L m c1)).setCell ⟨wr.heap.size, 1, none⟩ (.slice H m c2))) := (B1.setCell (by show wr.heap.size ≤ wr.heap.size; exact Nat.le_refl _) _).setCell (by show wr.heap.size ≤ wr.heap.size; exact Nat.le_refl _) _
             have HX5 : Hid (((w5.setCell ⟨wr.heap.size, 0, none⟩ (.slice L m c1)).setCell ⟨wr.heap.size, 1, none⟩ (.slice H m c2)).heap[wr.heap.size]? = some (.cells #[.slice L m c1, .slice H m c2] 66 (0, 0))) := box_set1 (box_set0 hzz _) _
             have HU5 : Hid (IntsAt ((w5.setCell ⟨wr.heap.size, 0, none⟩ (.slice L m c1)).setCell ⟨wr.heap.size, 1, none⟩ (.slice H m c2)) L m (wideLo lo sd ov vv) ∧ IntsAt ((w5.setCell ⟨wr.heap.size, 0, none⟩ (.slice L m c1)).setCell ⟨wr.heap.size, 1, none⟩ (.slice H m c2)) H m (wideHi lo hi sd ov vv)) := ⟨ints_setB (ints_setB HU1.out.1 hzz rfl rfl) (box_set0 hzz _) rfl rfl, ints_setB (ints_setB HU1.out.2 hzz rfl rfl) (box_set0 hzz _) rfl rfl⟩
             clear hz9 hzz zr0 zr1 zz0 zz1 U1 HU1 hb5 B0d B0a l0 l1 l2 l3 l4 l5 a0 B1
             generalize (w5.setCell ⟨wr.heap.size, 0, none⟩ (.slice L m c1)).setCell ⟨wr.heap.size, 1, none⟩ (.slice H m c2) = W5 at *
             generalize wr.heap.size = bb at HX5 ⊢)
          | (have HB5 : Hid (Below wr.heap.size wr (w5.alloc (.cells #[.slice L m c1, .slice H m c2] 66))) := B1.alloc B1.size _
             have HX5 : Hid ((w5.alloc (.cells #[.slice L m c1, .slice H m c2] 66)).heap[w5.heap.size]? = some (.cells #[.slice L m c1, .slice H m c2] 66 (0, 0))) := heap_alloc_new w5 _
             have HU5 : Hid (IntsAt (w5.alloc (.cells #[.slice L m c1, .slice H m c2] 66)) L m (wideLo lo sd ov vv) ∧ IntsAt (w5.alloc (.cells #[.slice L m c1, .slice H m c2] 66)) H m (wideHi lo hi sd ov vv)) := ⟨HU1.out.1.below (bel_nw w5 _), HU1.out.2.below (bel_nw w5 _)⟩
             clear zr0 zr1 zz0 zz1 U1 HU1 hb5 B0d B0a l0 l1 l2 l3 l4 l5 a0 B1
             generalize w5.alloc (.cells #[.slice L m c1, .slice H m c2] 66) = W5 at *
             generalize w5.heap.size = bb at HX5 ⊢)
          have hHas := HH.out W5 L H XA m c1 m c2 m mc _ _ xs HU5.out.1 HU5.out.2 (HX.out.below (st (st HB2.out HBr.out) HB5.out)) hm1 hm1
          rw [← HKB.out] at hHas
          obtain ⟨t0, t1, y0, y1⟩ := box_gen HX5.out
          clear HU5
          cases hkp : keptB lo hi sd ov xs vv m
          · have HN2 : Hid (HoSt lo hi sd ov xs m (k + 1) j) := HST.out.2 hkp
            rw [hkp] at hHas
            have HHA := Lib.hid hHas
            clear hkp hHas HST HKB HWk
            go_wp2_with (go_at_call 71; refine HHA.out.mono ?_; rintro e w6 ⟨rfl, hb6⟩; have HB6 := Lib.hid (st HB5.out hb6))
            have HO5 := Lib.hid (HOw.out.below HB6.out)
            go_roundw
            case rel => exact ⟨k + 1, j, by omega, by go_num, HN2.out, HO5.out, st HBr.out HB6.out⟩
            case measure => simp [intOf]; omega
          · obtain ⟨hj9, hlist, hst⟩ := HST.out.1 hkp (by rw [HNN.out]; exact hlt)
            have HN2 : Hid (HoSt lo hi sd ov xs m (k + 1) (j + 1)) := hst
            have HLI := Lib.hid hlist
            rw [hkp] at hHas
            have HHA := Lib.hid hHas
            have hj81 : j ≤ 81 := by have := (home_few HCh.out hn4).2; omega
            clear hkp hHas HST hst hlist hj9 HKB HWk
            go_wp2_with (first
              | (go_at_call 71; refine HHA.out.mono ?_; rintro e w6 ⟨rfl, hb6⟩; have HB6 := Lib.hid (st HB5.out hb6); have c9 := (HCK.out w6 HB6.out).2; have HO6 := Lib.hid ((HOw.out.below HB6.out).below (bel_nw w6 (.cells #[.slice P9 m pc9] 35))); have HI6 := Lib.hid ((HKq.out w6 HB6.out).2.1.below (bel_nw w6 (.cells #[.slice P9 m pc9] 35))))
              | (at_builtin; refine wpList_appL rfl (.tmp 50) (.tmp 55) rfl _ w2.heap.size _ j (fun _ => m) _ rfl HO6.out w6.heap.size rfl P9 m pc9 vv (heap_alloc_new w6 _) HI6.out hP0 (by omega) ?far (by omega) ?base ?_
                 case far =>
                   intro a ha
                   have g1 := HPb.out a ha
                   have g2 := (st HBr.out HB6.out).size
                   refine ⟨by rw [World.size_alloc]; omega, fun h9 => ?_⟩
                   have g3 := (HOw.out.block h9).1
                   omega
                 case base =>
                   have g2 := (st HBr.out HB6.out).size
                   rw [World.size_alloc]
                   omega
                 intro v' w7 hown hgr hat))
            have HB7 : Hid (Below w2.heap.size w2 w7) := ((st HBr.out HB6.out).alloc (st HBr.out HB6.out).size _).grown hgr (by have g2 := (st HBr.out HB6.out).size; rw [World.size_alloc]; omega) (fun q hq => (HO6.out.block hq).1)
            have HO7 : Hid (OwnL w7 w2.heap.size v' (j + 1) (fun _ => m) (fun t => crdZ (homeLo lo sd ov xs) (homeN lo hi sd ov xs) m t)) := hown.congr (fun q hq => by unfold updNN; split <;> rfl) (fun q hq i hi => by
              unfold updLL
              have hi' : i < m := by
                have h9 : updNN (fun _ => m) j m q = m := by unfold updNN; split <;> rfl
                omega
              split
              · rename_i e
                rw [e, ← HLI.out i hi']
              · rfl)
            clear hown hgr hat
            go_roundw
            case rel => exact ⟨k + 1, j + 1, by omega, by go_num, HN2.out, HO7.out, HB7.out⟩
            case measure => simp [intOf]; omega
    · obtain rfl : k = N := by omega
      have hj : j = volC (homeN lo hi sd ov xs) m 0 := HoSt.stop HCh.out (HNN.out ▸ HSt.out)
      subst hj
      obtain ⟨Po, co, rfl⟩ := HOw.out.sl
      go_wp2
      go_ret2
      exact ⟨Po, co, rfl, HOw.out.lists, st HB2.out HBr.out⟩
end Go.Proofs.YthmnmologmmeaaaGreatDoor

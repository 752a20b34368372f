/- The walk of SpaceLayout. -/
import Derived.Test.YthmnmologmmeaaaGreatDoorZLS
import Derived.Test.YthmnmologmmeaaaGreatDoorZChF
import Derived.Test.YthmnmologmmeaaaGreatDoorZWka
namespace Go.Proofs.YthmnmologmmeaaaGreatDoor
open Go Go.RowKit Go.Deep

theorem eqTo_rf (f : Nat → Int) : ∀ n, eqTo f f n = true
  | 0 => rfl
  | n + 1 => by rw [eqTo, eqTo_rf f n, beq_self_eq_true]; rfl
theorem sameZ_rf (n : Nat) (f : Nat → Int) : sameZ n n f f = true := by unfold sameZ; rw [beq_self_eq_true, eqTo_rf]; rfl
theorem listsTo_refl (ln : Nat → Nat) (f : Nat → Nat → Int) : ∀ n, listsTo ln ln f f n = true
  | 0 => rfl
  | n + 1 => by rw [listsTo, listsTo_refl ln f n, sameZ_rf]; rfl
theorem sameL_refl (n : Nat) (ln : Nat → Nat) (f : Nat → Nat → Int) : sameL n n ln ln f f = true := by unfold sameL; rw [beq_self_eq_true, listsTo_refl]; rfl
theorem same_ints (W : World) (A B : Option Addr) (k c d : Nat) (f : Nat → Int) (ha : IntsAt W A k f) (hb : IntsAt W B k f) (hk : k ≤ 1000000) : Calls Tryz.prog 24 #[.slice A k c, .slice B k d] W fun e w' => e = .returned (.bool true) ∧ Below W.heap.size W w' := by
  have h := s_SameInts W A B k c k d f f ha hb hk hk
  rwa [sameZ_rf] at h
theorem same_lists (W : World) (A B : Option Addr) (k c d : Nat) (ln : Nat → Nat) (f : Nat → Nat → Int) (ha : ListsAt W A k ln f) (hb : ListsAt W B k ln f) (hk : k ≤ 1000000) : Calls Tryz.prog 25 #[.slice A k c, .slice B k d] W fun e w' => e = .returned (.bool true) ∧ Below W.heap.size W w' := by
  have h := s_same W A B k c k d ln ln f f ha hb hk hk
  rwa [sameL_refl] at h
theorem same_box (W : World) (A B C D : Option Addr) (k c d c' d' : Nat) (f g : Nat → Int) (ha : IntsAt W A k f) (hb : IntsAt W B k g) (hc : IntsAt W C k f) (hd : IntsAt W D k g) (hk : k ≤ 1000000) : Calls Tryz.prog 30 #[BoxW A B k c k d, BoxW C D k c' k d'] W fun e w' => e = .returned (.bool true) ∧ Below W.heap.size W w' := by
  have h := s_SameBox W A B C D k c k d k c' k d' f f g g ha hb hc hd hk hk hk hk
  rwa [sameZ_rf, sameZ_rf] at h
theorem homes_few {nm : Nat → ByteArray} {lo hi sd ov xs : Nat → Int} {n s o m : Nat} {ord tile form codec : Int} : (if atE nm lo hi n sd ov s o ord tile form codec xs m = 0 then volC (homeN lo hi sd ov xs) n 0 else 0) ≤ 81 := by
  split
  · rename_i h
    obtain ⟨_, _, _, _, h4, hf⟩ := at_facts h
    exact (home_few hf h4).2
  · omega
set_option maxRecDepth 100000 in
set_option maxHeartbeats 8000000 in
theorem l_lay (w : World) (A S O X Y : Option Addr) (n cap s sc o oc m mc p pc : Nat) (nm : Nat → ByteArray) (lo hi sd ov xs ys : Nat → Int) (ord tile form codec : Int) (hd : DimsAt w A n nm lo hi) (hns : ∀ k, k < n → (nm k).size ≤ 9223372036854775807) (hn : n ≤ 9223372036854775807) (hs : IntsAt w S s sd) (ho : IntsAt w O o ov) (hx : IntsAt w X m xs) (hy : IntsAt w Y p ys) (hw : WorksAt w) :
    Calls Tryz.prog 5 #[.slice A n cap, LayV S s sc O o oc ord tile form codec, BoxW X Y m mc p pc] w fun e w' => e = .returned (.bool true) ∧ Below w.heap.size w w' := by
  have HW := Lib.hid hw
  have HS := Lib.hid (fun W (hW : Below w.heap.size w W) => l_schema W A n cap nm lo hi (hd.below hW) hns hn)
  have HLa := Lib.hid (l_layout S O s sc o oc ord tile form codec)
  have hz0 : ((w.alloc (.cells #[.slice S s sc, .slice O o oc, .int .i64 ord, .int .i64 tile, .int .i64 form, .int .i64 codec] 54)).alloc (.cells #[.slice X m mc, .slice Y p pc] 55)).heap.size = w.heap.size + 2 := by simp
  have HB0 : Hid (Below w.heap.size w ((w.alloc (.cells #[.slice S s sc, .slice O o oc, .int .i64 ord, .int .i64 tile, .int .i64 form, .int .i64 codec] 54)).alloc (.cells #[.slice X m mc, .slice Y p pc] 55))) := ((Below.refl _ _).alloc (Nat.le_refl _) _).alloc (by simp) _
  have KB : Hid (∀ W, Below (w.heap.size + 2) ((w.alloc (.cells #[.slice S s sc, .slice O o oc, .int .i64 ord, .int .i64 tile, .int .i64 form, .int .i64 codec] 54)).alloc (.cells #[.slice X m mc, .slice Y p pc] 55)) W → (W.cell? ⟨w.heap.size, 0, none⟩ = some (.slice S s sc) ∧ W.cell? ⟨w.heap.size, 1, none⟩ = some (.slice O o oc) ∧ W.cell? ⟨w.heap.size, 2, none⟩ = some (.int .i64 ord) ∧ W.cell? ⟨w.heap.size, 3, none⟩ = some (.int .i64 tile) ∧ W.cell? ⟨w.heap.size, 4, none⟩ = some (.int .i64 form) ∧ W.cell? ⟨w.heap.size, 5, none⟩ = some (.int .i64 codec)) ∧ W.cell? ⟨w.heap.size + 1, 0, none⟩ = some (.slice X m mc) ∧ W.cell? ⟨w.heap.size + 1, 1, none⟩ = some (.slice Y p pc)) := fun W hW => by
    refine ⟨lay_box w S O s sc o oc ord tile form codec W (Below.trans ((Below.refl _ _).alloc (Nat.le_refl _) _) (hW.mono (by simp))), ?_⟩
    have h9 := heap_alloc_new (w.alloc (.cells #[.slice S s sc, .slice O o oc, .int .i64 ord, .int .i64 tile, .int .i64 form, .int .i64 codec] 54)) (.cells #[.slice X m mc, .slice Y p pc] 55)
    rw [World.size_alloc] at h9
    have h8 := (hW.block _ (by omega)).trans h9
    exact ⟨by simp [World.cell?, h8], by simp [World.cell?, h8]⟩
  go_enter Tryz.func5, Tryz.ntmps5
  have hN : Hid (n ≤ 9223372036854775807) := hn
  obtain ⟨⟨l0, l1, l2, l3, l4, l5⟩, a0, a1⟩ := KB.out _ (Below.refl _ _)
  go_wp2_with fail
  generalize (w.alloc (.cells #[.slice S s sc, .slice O o oc, .int .i64 ord, .int .i64 tile, .int .i64 form, .int .i64 codec] 54)).alloc (.cells #[.slice X m mc, .slice Y p pc] 55) = w0 at *
  refine (HS.out _ HB0.out).mono ?_
  rintro e w1 ⟨c, rfl, hc, hb1⟩
  have HB1 : Hid (Below w.heap.size w w1) := st HB0.out hb1
  have HC1 : Hid (Below (w.heap.size + 2) w0 w1) := by show Below _ _ _; rw [← hz0]; exact hb1
  have HC := Lib.hid hc
  clear hb1 HS hc l0 l1 l2 l3 l4 l5 a0 a1
  have out : ∀ W, Below w.heap.size w W → Calls Tryz.prog 9 #[] W fun e w' => e = .returned (.bool true) ∧ Below W.heap.size W w' := HW.out
  cases c
  · clear HC
    go_wp2_with (go_at_call 9; refine (HW.out _ HB1.out).mono ?_; rintro e w2 ⟨rfl, hb2⟩; have HB2 := Lib.hid (st HB1.out hb2))
    go_ret
    exact ⟨rfl, HB2.out⟩
  · have hn10 : n ≤ 10 := HC.out rfl
    clear HC
    obtain ⟨⟨l0, l1, l2, l3, l4, l5⟩, a0, a1⟩ := KB.out w1 HC1.out
    by_cases hso : s ≤ 10 ∧ o ≤ 10
    · have hla : (decide (s ≤ 10) && decide (o ≤ 10)) = true := by rw [decide_eq_true hso.1, decide_eq_true hso.2]; rfl
      rw [hla] at HLa
      clear hla
      have hz1 : w.heap.size + 2 ≤ w1.heap.size := by have := HC1.out.size; omega
      by_cases hmp : m ≤ 10 ∧ p ≤ 10
      · obtain ⟨hm10, hp10⟩ := hmp
        obtain ⟨hs10, ho10⟩ := hso
        have g1 : decide ((10 : Int) < (m : Int)) = false := decide_eq_false (by omega)
        have g2 : decide ((10 : Int) < (p : Int)) = false := decide_eq_false (by omega)
        have HF : Hid (∀ W, Below w.heap.size w W → DimsAt W A n nm lo hi ∧ IntsAt W S s sd ∧ IntsAt W O o ov ∧ IntsAt W X m xs ∧ IntsAt W Y p ys) := fun W hW => ⟨hd.below hW, hs.below hW, ho.below hW, hx.below hW, hy.below hW⟩
        have HY1 := Lib.hid (fun W (hW : Below w.heap.size w W) => s_Layout W A S O n cap s sc o oc nm lo hi sd ov ord tile form codec (HF.out W hW).1 (HF.out W hW).2.1 (HF.out W hW).2.2.1 (by omega) (by omega) (by omega))
        have HY2 := Lib.hid (fun W (hW : Below w.heap.size w W) => r_Layout W A S O n cap s sc o oc nm lo hi sd ov ord tile form codec (HF.out W hW).1 (HF.out W hW).2.1 (HF.out W hW).2.2.1 hns (by omega) (by omega) (by omega))
        obtain ⟨le, hle⟩ : ∃ le, layE nm lo hi n sd ov s o ord tile form codec = le := ⟨_, rfl⟩
        rw [hle] at HY1 HY2
        clear hle
        have HU1 := Lib.hid (fun W (hW : Below w.heap.size w W) => u_Chunk W A S O X n cap s sc o oc m mc nm lo hi sd ov xs ord tile form codec (HF.out W hW).1 (HF.out W hW).2.1 (HF.out W hW).2.2.1 (HF.out W hW).2.2.2.1 (by omega) (by omega) (by omega) (by omega))
        have HV1 := Lib.hid (fun W (hW : Below w.heap.size w W) => v_Chunk W A S O X n cap s sc o oc m mc nm lo hi sd ov xs ord tile form codec (HF.out W hW).1 (HF.out W hW).2.1 (HF.out W hW).2.2.1 (HF.out W hW).2.2.2.1 hns (by omega) (by omega) (by omega) (by omega))
        have HU2 := Lib.hid (fun W (hW : Below w.heap.size w W) => u_Homes W A S O X n cap s sc o oc m mc nm lo hi sd ov xs ord tile form codec (HF.out W hW).1 (HF.out W hW).2.1 (HF.out W hW).2.2.1 (HF.out W hW).2.2.2.1 (by omega) (by omega) (by omega) (by omega))
        have HV2 := Lib.hid (fun W (hW : Below w.heap.size w W) => v_Homes W A S O X n cap s sc o oc m mc nm lo hi sd ov xs ord tile form codec (HF.out W hW).1 (HF.out W hW).2.1 (HF.out W hW).2.2.1 (HF.out W hW).2.2.2.1 hns (by omega) (by omega) (by omega) (by omega))
        have HU3 := Lib.hid (fun W (hW : Below w.heap.size w W) => u_Core W A S O Y n cap s sc o oc p pc nm lo hi sd ov ys ord tile form codec (HF.out W hW).1 (HF.out W hW).2.1 (HF.out W hW).2.2.1 (HF.out W hW).2.2.2.2 (by omega) (by omega) (by omega) (by omega))
        have HV3 := Lib.hid (fun W (hW : Below w.heap.size w W) => v_Core W A S O Y n cap s sc o oc p pc nm lo hi sd ov ys ord tile form codec (HF.out W hW).1 (HF.out W hW).2.1 (HF.out W hW).2.2.1 (HF.out W hW).2.2.2.2 hns (by omega) (by omega) (by omega) (by omega))
        have HU4 := Lib.hid (fun W (hW : Below w.heap.size w W) => u_Wide W A S O Y n cap s sc o oc p pc nm lo hi sd ov ys ord tile form codec (HF.out W hW).1 (HF.out W hW).2.1 (HF.out W hW).2.2.1 (HF.out W hW).2.2.2.2 (by omega) (by omega) (by omega) (by omega))
        have HV4 := Lib.hid (fun W (hW : Below w.heap.size w W) => v_Wide W A S O Y n cap s sc o oc p pc nm lo hi sd ov ys ord tile form codec (HF.out W hW).1 (HF.out W hW).2.1 (HF.out W hW).2.2.1 (HF.out W hW).2.2.2.2 hns (by omega) (by omega) (by omega) (by omega))
        have hkn81 := homes_few (nm := nm) (lo := lo) (hi := hi) (sd := sd) (ov := ov) (xs := xs) (n := n) (s := s) (o := o) (m := m) (ord := ord) (tile := tile) (form := form) (codec := codec)
        unfold SaysI at HU1 HV1
        unfold SaysL at HU2 HV2
        unfold SaysB at HU3 HV3 HU4 HV4
        generalize atE nm lo hi n sd ov s o ord tile form codec xs m = ae at *
        generalize coreE nm lo hi n sd ov s o ord tile form codec ys p = ce at *
        generalize (if ae = 0 then volC (homeN lo hi sd ov xs) n 0 else 0) = kn at *
        obtain ⟨kc, hkc⟩ : ∃ kc, (if ae = 0 then n else 0) = kc := ⟨_, rfl⟩
        obtain ⟨kx, hkx⟩ : ∃ kx, (if ce = 0 then n else 0) = kx := ⟨_, rfl⟩
        have hkc10 : kc ≤ 10 := by rw [← hkc]; split <;> omega
        have hkx10 : kx ≤ 10 := by rw [← hkx]; split <;> omega
        rw [hkc] at HU1 HV1
        rw [hkx] at HU3 HV3 HU4 HV4
        clear hkc hkx HF hd hs ho hx hy hns
        go_wp2_with (go_at_call 17; refine (HLa.out _).mono ?_; rintro e w2 ⟨rfl, hb2⟩; have HB2 := Lib.hid (st HB1.out hb2); have HC2 : Hid (Below (w.heap.size + 2) w0 w2) := HC1.out.trans (hb2.mono hz1); obtain ⟨⟨l0, l1, l2, l3, l4, l5⟩, a0, a1⟩ := KB.out w2 HC2.out)
        have B0d : Below w2.heap.size w2 w2.drew := Below.drew (Below.refl _ _)
        go_region_held3 (fun W => (W.cell? ⟨w.heap.size, 0, none⟩ = some (.slice S s sc) ∧ W.cell? ⟨w.heap.size, 1, none⟩ = some (.slice O o oc) ∧ W.cell? ⟨w.heap.size, 2, none⟩ = some (.int .i64 ord) ∧ W.cell? ⟨w.heap.size, 3, none⟩ = some (.int .i64 tile) ∧ W.cell? ⟨w.heap.size, 4, none⟩ = some (.int .i64 form) ∧ W.cell? ⟨w.heap.size, 5, none⟩ = some (.int .i64 codec)) ∧ W.cell? ⟨w.heap.size + 1, 0, none⟩ = some (.slice X m mc) ∧ W.cell? ⟨w.heap.size + 1, 1, none⟩ = some (.slice Y p pc))
          (first | exact KB.out _ (HC2.out.trans (B4.mono (by have := HC2.out.size; omega))) | exact KB.out _ (HC2.out.trans (B3.mono (by have := HC2.out.size; omega))) | exact KB.out _ (HC2.out.trans (B0d.mono (by have := HC2.out.size; omega))) | exact KB.out _ HC2.out)
          (first
            | (go_at_call 18; refine (HY1.out _ (st HB2.out B0d)).mono ?_; rintro e w3 ⟨rfl, hb3⟩; have B3 : Below w2.heap.size w2 w3 := st B0d hb3)
            | (go_at_call 19; refine (HY2.out _ (st HB2.out B3)).mono ?_; rintro e w4 ⟨rfl, hb4⟩; have B4 : Below w2.heap.size w2 w4 := st B3 hb4))
        have HB4 : Hid (Below w.heap.size w w4) := st HB2.out B4
        have HC4 : Hid (Below (w.heap.size + 2) w0 w4) := HC2.out.trans (B4.mono (by have := HC2.out.size; omega))
        clear B0d B3 B4 hb3 hb4 l0 l1 l2 l3 l4 l5 a0 a1 HY1 HY2
        obtain ⟨⟨l0, l1, l2, l3, l4, l5⟩, a0, a1⟩ := KB.out w4 HC4.out
        go_wp2_with fail
        clear l0 l1 l2 l3 l4 l5 a0 a1
        refine (HU1.out _ HB4.out).mono ?_
        rintro e w5 ⟨P5, c5, rfl, hp5, hb5⟩
        have HB5 : Hid (Below w.heap.size w w5) := st HB4.out hb5
        have HC5 : Hid (Below (w.heap.size + 2) w0 w5) := HC4.out.trans (hb5.mono (by have := HC4.out.size; omega))
        obtain ⟨⟨l0, l1, l2, l3, l4, l5⟩, a0, a1⟩ := KB.out w5 HC5.out
        go_wp2_with fail
        clear l0 l1 l2 l3 l4 l5 a0 a1
        refine (HV1.out _ HB5.out).mono ?_
        rintro e w6 ⟨P6, c6, rfl, hp6, hb6⟩
        have HB6 : Hid (Below w.heap.size w w6) := st HB5.out hb6
        have HC6 : Hid (Below (w.heap.size + 2) w0 w6) := HC5.out.trans (hb6.mono (by have := HC5.out.size; omega))
        obtain ⟨⟨l0, l1, l2, l3, l4, l5⟩, a0, a1⟩ := KB.out w6 HC6.out
        go_wp2_with fail
        clear l0 l1 l2 l3 l4 l5 a0 a1
        refine (HU2.out _ HB6.out).mono ?_
        rintro e w7 ⟨P7, c7, rfl, hl7, hb7⟩
        have HB7 : Hid (Below w.heap.size w w7) := st HB6.out hb7
        have HC7 : Hid (Below (w.heap.size + 2) w0 w7) := HC6.out.trans (hb7.mono (by have := HC6.out.size; omega))
        obtain ⟨⟨l0, l1, l2, l3, l4, l5⟩, a0, a1⟩ := KB.out w7 HC7.out
        go_wp2_with fail
        clear l0 l1 l2 l3 l4 l5 a0 a1
        refine (HV2.out _ HB7.out).mono ?_
        rintro e w8 ⟨P8, c8, rfl, hl8, hb8⟩
        have HB8 : Hid (Below w.heap.size w w8) := st HB7.out hb8
        have HC8 : Hid (Below (w.heap.size + 2) w0 w8) := HC7.out.trans (hb8.mono (by have := HC7.out.size; omega))
        have HS1 := Lib.hid (same_ints w8 P5 P6 kc c5 c6 _ (hp5.below (st (st hb6 hb7) hb8)) (hp6.below (st hb7 hb8)) (by omega))
        have HS2 := Lib.hid (fun W (hW : Below w8.heap.size w8 W) => same_lists W P7 P8 kn c7 c8 _ _ (hl7.below (st hb8 hW)) (hl8.below hW) (by omega))
        clear hp5 hp6 hl7 hl8 hb5 hb6 hb7 hb8 HU1 HV1 HU2 HV2
        obtain ⟨⟨l0, l1, l2, l3, l4, l5⟩, a0, a1⟩ := KB.out w8 HC8.out
        go_wp2_with (first
          | (go_at_call 24; refine HS1.out.mono ?_; rintro e w9 ⟨rfl, hb9⟩; have HB9 := Lib.hid (st HB8.out hb9); have HC9 : Hid (Below (w.heap.size + 2) w0 w9) := HC8.out.trans (hb9.mono (by have := HC8.out.size; omega)))
          | (go_at_call 25; refine (HS2.out _ hb9).mono ?_; rintro e w10 ⟨rfl, hb10⟩; have HB10 := Lib.hid (st HB9.out hb10); have HC10 : Hid (Below (w.heap.size + 2) w0 w10) := HC9.out.trans (hb10.mono (by have := HC9.out.size; omega)); obtain ⟨⟨l0, l1, l2, l3, l4, l5⟩, a0, a1⟩ := KB.out w10 HC10.out))
        clear HS1 HS2 hb9 hb10 l0 l1 l2 l3 l4 l5 a0 a1
        refine (HU3.out _ HB10.out).mono ?_
        rintro e w11 ⟨P11, Q11, c11, d11, rfl, hp11, hq11, hb11⟩
        have HB11 : Hid (Below w.heap.size w w11) := st HB10.out hb11
        have HC11 : Hid (Below (w.heap.size + 2) w0 w11) := HC10.out.trans (hb11.mono (by have := HC10.out.size; omega))
        have HB12 : Hid (Below w.heap.size w (w11.alloc (.cells #[.slice P11 kx c11, .slice Q11 kx d11] 66))) := HB11.out.alloc HB11.out.size _
        have HC12 : Hid (Below (w.heap.size + 2) w0 (w11.alloc (.cells #[.slice P11 kx c11, .slice Q11 kx d11] 66))) := HC11.out.alloc (by have := HC11.out.size; omega) _
        have HX0 : Hid (∀ W, Below (w11.alloc (.cells #[.slice P11 kx c11, .slice Q11 kx d11] 66)).heap.size (w11.alloc (.cells #[.slice P11 kx c11, .slice Q11 kx d11] 66)) W → W.heap[w11.heap.size]? = some (.cells #[.slice P11 kx c11, .slice Q11 kx d11] 66 (0, 0)) ∧ IntsAt W P11 kx _ ∧ IntsAt W Q11 kx _) := fun W hW => ⟨(hW.block _ (by rw [World.size_alloc]; omega)).trans (heap_alloc_new w11 _), (hp11.below (bel_nw w11 (.cells #[.slice P11 kx c11, .slice Q11 kx d11] 66))).below hW, (hq11.below (bel_nw w11 (.cells #[.slice P11 kx c11, .slice Q11 kx d11] 66))).below hW⟩
        obtain ⟨⟨l0, l1, l2, l3, l4, l5⟩, a0, a1⟩ := KB.out _ HC12.out
        go_wp2_with fail
        clear l0 l1 l2 l3 l4 l5 a0 a1 hp11 hq11
        generalize w11.alloc (.cells #[.slice P11 kx c11, .slice Q11 kx d11] 66) = w12 at *
        generalize w11.heap.size = x0 at *
        obtain ⟨⟨l0, l1, l2, l3, l4, l5⟩, a0, a1⟩ := KB.out w12 HC12.out
        go_wp2_with fail
        clear l0 l1 l2 l3 l4 l5 a0 a1
        refine (HV3.out _ HB12.out).mono ?_
        rintro e w13 ⟨P13, Q13, c13, d13, rfl, hp13, hq13, hb13⟩
        have HB13 : Hid (Below w.heap.size w w13) := st HB12.out hb13
        have HC13 : Hid (Below (w.heap.size + 2) w0 w13) := HC12.out.trans (hb13.mono (by have := HC12.out.size; omega))
        have HB14 : Hid (Below w.heap.size w (w13.alloc (.cells #[.slice P13 kx c13, .slice Q13 kx d13] 66))) := HB13.out.alloc HB13.out.size _
        have HC14 : Hid (Below (w.heap.size + 2) w0 (w13.alloc (.cells #[.slice P13 kx c13, .slice Q13 kx d13] 66))) := HC13.out.alloc (by have := HC13.out.size; omega) _
        have HX1 : Hid (∀ W, Below (w13.alloc (.cells #[.slice P13 kx c13, .slice Q13 kx d13] 66)).heap.size (w13.alloc (.cells #[.slice P13 kx c13, .slice Q13 kx d13] 66)) W → W.heap[w13.heap.size]? = some (.cells #[.slice P13 kx c13, .slice Q13 kx d13] 66 (0, 0)) ∧ IntsAt W P13 kx _ ∧ IntsAt W Q13 kx _) := fun W hW => ⟨(hW.block _ (by rw [World.size_alloc]; omega)).trans (heap_alloc_new w13 _), (hp13.below (bel_nw w13 (.cells #[.slice P13 kx c13, .slice Q13 kx d13] 66))).below hW, (hq13.below (bel_nw w13 (.cells #[.slice P13 kx c13, .slice Q13 kx d13] 66))).below hW⟩
        have HX0 := Lib.hid (fun W (hW : Below (w13.alloc (.cells #[.slice P13 kx c13, .slice Q13 kx d13] 66)).heap.size (w13.alloc (.cells #[.slice P13 kx c13, .slice Q13 kx d13] 66)) W) => HX0.out W (st (hb13.alloc hb13.size _) hW))
        obtain ⟨⟨l0, l1, l2, l3, l4, l5⟩, a0, a1⟩ := KB.out _ HC14.out
        go_wp2_with fail
        clear l0 l1 l2 l3 l4 l5 a0 a1 hp13 hq13
        generalize w13.alloc (.cells #[.slice P13 kx c13, .slice Q13 kx d13] 66) = w14 at *
        generalize w13.heap.size = x1 at *
        obtain ⟨⟨l0, l1, l2, l3, l4, l5⟩, a0, a1⟩ := KB.out w14 HC14.out
        go_wp2_with fail
        clear l0 l1 l2 l3 l4 l5 a0 a1
        refine (HU4.out _ HB14.out).mono ?_
        rintro e w15 ⟨P15, Q15, c15, d15, rfl, hp15, hq15, hb15⟩
        have HB15 : Hid (Below w.heap.size w w15) := st HB14.out hb15
        have HC15 : Hid (Below (w.heap.size + 2) w0 w15) := HC14.out.trans (hb15.mono (by have := HC14.out.size; omega))
        have HB16 : Hid (Below w.heap.size w (w15.alloc (.cells #[.slice P15 kx c15, .slice Q15 kx d15] 66))) := HB15.out.alloc HB15.out.size _
        have HC16 : Hid (Below (w.heap.size + 2) w0 (w15.alloc (.cells #[.slice P15 kx c15, .slice Q15 kx d15] 66))) := HC15.out.alloc (by have := HC15.out.size; omega) _
        have HX2 : Hid (∀ W, Below (w15.alloc (.cells #[.slice P15 kx c15, .slice Q15 kx d15] 66)).heap.size (w15.alloc (.cells #[.slice P15 kx c15, .slice Q15 kx d15] 66)) W → W.heap[w15.heap.size]? = some (.cells #[.slice P15 kx c15, .slice Q15 kx d15] 66 (0, 0)) ∧ IntsAt W P15 kx _ ∧ IntsAt W Q15 kx _) := fun W hW => ⟨(hW.block _ (by rw [World.size_alloc]; omega)).trans (heap_alloc_new w15 _), (hp15.below (bel_nw w15 (.cells #[.slice P15 kx c15, .slice Q15 kx d15] 66))).below hW, (hq15.below (bel_nw w15 (.cells #[.slice P15 kx c15, .slice Q15 kx d15] 66))).below hW⟩
        have HX0 := Lib.hid (fun W (hW : Below (w15.alloc (.cells #[.slice P15 kx c15, .slice Q15 kx d15] 66)).heap.size (w15.alloc (.cells #[.slice P15 kx c15, .slice Q15 kx d15] 66)) W) => HX0.out W (st (hb15.alloc hb15.size _) hW))
        have HX1 := Lib.hid (fun W (hW : Below (w15.alloc (.cells #[.slice P15 kx c15, .slice Q15 kx d15] 66)).heap.size (w15.alloc (.cells #[.slice P15 kx c15, .slice Q15 kx d15] 66)) W) => HX1.out W (st (hb15.alloc hb15.size _) hW))
        obtain ⟨⟨l0, l1, l2, l3, l4, l5⟩, a0, a1⟩ := KB.out _ HC16.out
        go_wp2_with fail
        clear l0 l1 l2 l3 l4 l5 a0 a1 hp15 hq15
        generalize w15.alloc (.cells #[.slice P15 kx c15, .slice Q15 kx d15] 66) = w16 at *
        generalize w15.heap.size = x2 at *
        obtain ⟨⟨l0, l1, l2, l3, l4, l5⟩, a0, a1⟩ := KB.out w16 HC16.out
        go_wp2_with fail
        clear l0 l1 l2 l3 l4 l5 a0 a1
        refine (HV4.out _ HB16.out).mono ?_
        rintro e w17 ⟨P17, Q17, c17, d17, rfl, hp17, hq17, hb17⟩
        have HB17 : Hid (Below w.heap.size w w17) := st HB16.out hb17
        have HC17 : Hid (Below (w.heap.size + 2) w0 w17) := HC16.out.trans (hb17.mono (by have := HC16.out.size; omega))
        have HB18 : Hid (Below w.heap.size w (w17.alloc (.cells #[.slice P17 kx c17, .slice Q17 kx d17] 66))) := HB17.out.alloc HB17.out.size _
        have HC18 : Hid (Below (w.heap.size + 2) w0 (w17.alloc (.cells #[.slice P17 kx c17, .slice Q17 kx d17] 66))) := HC17.out.alloc (by have := HC17.out.size; omega) _
        have HX3 : Hid (∀ W, Below (w17.alloc (.cells #[.slice P17 kx c17, .slice Q17 kx d17] 66)).heap.size (w17.alloc (.cells #[.slice P17 kx c17, .slice Q17 kx d17] 66)) W → W.heap[w17.heap.size]? = some (.cells #[.slice P17 kx c17, .slice Q17 kx d17] 66 (0, 0)) ∧ IntsAt W P17 kx _ ∧ IntsAt W Q17 kx _) := fun W hW => ⟨(hW.block _ (by rw [World.size_alloc]; omega)).trans (heap_alloc_new w17 _), (hp17.below (bel_nw w17 (.cells #[.slice P17 kx c17, .slice Q17 kx d17] 66))).below hW, (hq17.below (bel_nw w17 (.cells #[.slice P17 kx c17, .slice Q17 kx d17] 66))).below hW⟩
        have HX0 := Lib.hid (fun W (hW : Below (w17.alloc (.cells #[.slice P17 kx c17, .slice Q17 kx d17] 66)).heap.size (w17.alloc (.cells #[.slice P17 kx c17, .slice Q17 kx d17] 66)) W) => HX0.out W (st (hb17.alloc hb17.size _) hW))
        have HX1 := Lib.hid (fun W (hW : Below (w17.alloc (.cells #[.slice P17 kx c17, .slice Q17 kx d17] 66)).heap.size (w17.alloc (.cells #[.slice P17 kx c17, .slice Q17 kx d17] 66)) W) => HX1.out W (st (hb17.alloc hb17.size _) hW))
        have HX2 := Lib.hid (fun W (hW : Below (w17.alloc (.cells #[.slice P17 kx c17, .slice Q17 kx d17] 66)).heap.size (w17.alloc (.cells #[.slice P17 kx c17, .slice Q17 kx d17] 66)) W) => HX2.out W (st (hb17.alloc hb17.size _) hW))
        have HQ1 := Lib.hid (same_box (w17.alloc (.cells #[.slice P17 kx c17, .slice Q17 kx d17] 66)) P11 Q11 P13 Q13 kx c11 d11 c13 d13 _ _ (HX0.out _ (Below.refl _ _)).2.1 (HX0.out _ (Below.refl _ _)).2.2 (HX1.out _ (Below.refl _ _)).2.1 (HX1.out _ (Below.refl _ _)).2.2 (by omega))
        have HQ2 := Lib.hid (fun W (hW : Below (w17.alloc (.cells #[.slice P17 kx c17, .slice Q17 kx d17] 66)).heap.size (w17.alloc (.cells #[.slice P17 kx c17, .slice Q17 kx d17] 66)) W) => same_box W P15 Q15 P17 Q17 kx c15 d15 c17 d17 _ _ (HX2.out _ hW).2.1 (HX2.out _ hW).2.2 (HX3.out _ hW).2.1 (HX3.out _ hW).2.2 (by omega))
        have HXX := Lib.hid (fun W (hW : Below (w17.alloc (.cells #[.slice P17 kx c17, .slice Q17 kx d17] 66)).heap.size (w17.alloc (.cells #[.slice P17 kx c17, .slice Q17 kx d17] 66)) W) => And.intro (And.intro (HX0.out _ hW).1 (HX1.out _ hW).1) (And.intro (HX2.out _ hW).1 (HX3.out _ hW).1))
        clear HX0 HX1 HX2 HX3 hp17 hq17
        obtain ⟨⟨e0, e1⟩, e2, e3⟩ := HXX.out _ (Below.refl _ _)
        obtain ⟨r0, s0, -, -⟩ := box_gen e0
        obtain ⟨r1, s1, -, -⟩ := box_gen e1
        obtain ⟨r2, s2, -, -⟩ := box_gen e2
        obtain ⟨r3, s3, -, -⟩ := box_gen e3
        obtain ⟨⟨l0, l1, l2, l3, l4, l5⟩, a0, a1⟩ := KB.out _ HC18.out
        go_wp2_with (first
          | (go_at_call 9; refine (HW.out _ HB20.out).mono ?_; rintro e w21 ⟨rfl, hb21⟩; have HB21 := Lib.hid (st HB20.out hb21))
          | (go_at_call 30; refine (HQ2.out _ hb19).mono ?_; rintro e w20 ⟨rfl, hb20⟩; have HB20 := Lib.hid (st HB19.out hb20))
          | (go_at_call 30; refine HQ1.out.mono ?_; rintro e w19 ⟨rfl, hb19⟩; have HB19 := Lib.hid (st HB18.out hb19); obtain ⟨-, e2', e3'⟩ := HXX.out _ hb19; obtain ⟨r2', s2', -, -⟩ := box_gen e2'; obtain ⟨r3', s3', -, -⟩ := box_gen e3'))
        go_ret
        exact ⟨rfl, HB21.out⟩
      · obtain ⟨hs10, ho10⟩ := hso
        by_cases hm10 : (m : Int) > 10
        · go_wp2_with (first | (go_at_call 17; refine (HLa.out _).mono ?_; rintro e w2 ⟨rfl, hb2⟩; have HB2 := Lib.hid (st HB1.out hb2); have HC2 : Hid (Below (w.heap.size + 2) w0 w2) := HC1.out.trans (hb2.mono hz1); obtain ⟨⟨l0, l1, l2, l3, l4, l5⟩, a0, a1⟩ := KB.out w2 HC2.out) | (go_at_call 9; refine (HW.out _ HB2.out).mono ?_; rintro e w3 ⟨rfl, hb3⟩; have HB3 := Lib.hid (st HB2.out hb3)))
          go_ret
          exact ⟨rfl, HB3.out⟩
        · have hp10 : (p : Int) > 10 := by omega
          go_wp2_with (first | (go_at_call 17; refine (HLa.out _).mono ?_; rintro e w2 ⟨rfl, hb2⟩; have HB2 := Lib.hid (st HB1.out hb2); have HC2 : Hid (Below (w.heap.size + 2) w0 w2) := HC1.out.trans (hb2.mono hz1); obtain ⟨⟨l0, l1, l2, l3, l4, l5⟩, a0, a1⟩ := KB.out w2 HC2.out) | (go_at_call 9; refine (HW.out _ HB2.out).mono ?_; rintro e w3 ⟨rfl, hb3⟩; have HB3 := Lib.hid (st HB2.out hb3)))
          go_ret
          exact ⟨rfl, HB3.out⟩
    · have hla : (decide (s ≤ 10) && decide (o ≤ 10)) = false := by
        by_cases h : s ≤ 10
        · rw [decide_eq_false (show ¬ o ≤ 10 from fun h2 => hso ⟨h, h2⟩), Bool.and_false]
        · rw [decide_eq_false h, Bool.false_and]
      rw [hla] at HLa
      clear hla
      go_wp2_with (first
        | (go_at_call 17; refine (HLa.out _).mono ?_; rintro e w2 ⟨rfl, hb2⟩; have HB2 := Lib.hid (st HB1.out hb2))
        | (go_at_call 9; refine (HW.out _ HB2.out).mono ?_; rintro e w3 ⟨rfl, hb3⟩; have HB3 := Lib.hid (st HB2.out hb3)))
      go_ret
      exact ⟨rfl, HB3.out⟩
end Go.Proofs.YthmnmologmmeaaaGreatDoor

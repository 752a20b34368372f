/- The walk of SpaceOrder. -/
import Derived.Test.YtogmbehomilalaaGreatDoorZLChB
import Derived.Test.YtogmbehomilalaaGreatDoorZWka
namespace Go.Proofs.YtogmbehomilalaaGreatDoor
open Go Go.RowKit Go.Deep

theorem eqTo_rf2 (f : Nat → Int) : ∀ n, eqTo f f n = true
  | 0 => rfl
  | n + 1 => by rw [eqTo, eqTo_rf2 f n, beq_self_eq_true]; rfl
theorem sameZ_rf2 (n : Nat) (f : Nat → Int) : sameZ n n f f = true := by unfold sameZ; rw [beq_self_eq_true, eqTo_rf2]; rfl
theorem listsTo_refl2 (ln : Nat → Nat) (f : Nat → Nat → Int) : ∀ n, listsTo ln ln f f n = true
  | 0 => rfl
  | n + 1 => by rw [listsTo, listsTo_refl2 ln f n, sameZ_rf2]; rfl
theorem same_lists2 (W : World) (A B : Option Addr) (k c d : Nat) (ln : Nat → Nat) (f : Nat → Nat → Int) (ha : ListsAt W A k ln f) (hb : ListsAt W B k ln f) (hk : k ≤ 1000000) : Calls Tryz.prog 18 #[.slice A k c, .slice B k d] W fun e w' => e = .returned (.bool true) ∧ Below W.heap.size W w' := by
  have h := s_same W A B k c k d ln ln f f ha hb hk hk
  unfold sameL at h
  rwa [beq_self_eq_true, listsTo_refl2] at h
set_option maxRecDepth 100000 in
set_option maxHeartbeats 8000000 in
theorem l_order (w : World) (S O L H X : Option Addr) (s sc o oc n c m d r xc : Nat) (ord tile form codec : Int) (lo hi xs : Nat → Int) (hl : IntsAt w L n lo) (hh : IntsAt w H m hi) (hx : IntsAt w X r xs) (hbl : ∀ k, k < n → I64 (lo k)) (hbh : ∀ k, k < m → I64 (hi k)) (hw : WorksAt w) :
    Calls Tryz.prog 4 #[LayV S s sc O o oc ord tile form codec, BoxW L H n c m d, .slice X r xc] w fun e w' => e = .returned (.bool true) ∧ Below w.heap.size w w' := by
  have HW := Lib.hid hw
  have HLa : Hid (∀ W, Calls Tryz.prog 12 #[LayV S s sc O o oc ord tile form codec] W fun e w' => (∃ b, e = .returned (.bool b)) ∧ Below W.heap.size W w') := fun W => (l_layout S O s sc o oc ord tile form codec W).mono fun e w' h => ⟨⟨_, h.1⟩, h.2⟩
  have HLg : Hid (∀ W, Below w.heap.size w W → Calls Tryz.prog 13 #[BoxW L H n c m d] W fun e w' => ∃ r, e = .returned (.bool r) ∧ Below W.heap.size W w') := fun W hW => l_large W L H n c m d lo hi (hl.below hW) (hh.below hW)
  have hz0 : ((w.alloc (.cells #[.slice S s sc, .slice O o oc, .int .i64 ord, .int .i64 tile, .int .i64 form, .int .i64 codec] 43)).alloc (.cells #[.slice L n c, .slice H m d] 45)).heap.size = w.heap.size + 2 := by simp
  have HB0 : Hid (Below w.heap.size w ((w.alloc (.cells #[.slice S s sc, .slice O o oc, .int .i64 ord, .int .i64 tile, .int .i64 form, .int .i64 codec] 43)).alloc (.cells #[.slice L n c, .slice H m d] 45))) := ((Below.refl _ _).alloc (Nat.le_refl _) _).alloc (by simp) _
  have KB : Hid (∀ W, Below (w.heap.size + 2) ((w.alloc (.cells #[.slice S s sc, .slice O o oc, .int .i64 ord, .int .i64 tile, .int .i64 form, .int .i64 codec] 43)).alloc (.cells #[.slice L n c, .slice H m d] 45)) W → (W.cell? ⟨w.heap.size, 0, none⟩ = some (.slice S s sc) ∧ W.cell? ⟨w.heap.size, 1, none⟩ = some (.slice O o oc) ∧ W.cell? ⟨w.heap.size, 2, none⟩ = some (.int .i64 ord) ∧ W.cell? ⟨w.heap.size, 3, none⟩ = some (.int .i64 tile) ∧ W.cell? ⟨w.heap.size, 4, none⟩ = some (.int .i64 form) ∧ W.cell? ⟨w.heap.size, 5, none⟩ = some (.int .i64 codec)) ∧ W.cell? ⟨w.heap.size + 1, 0, none⟩ = some (.slice L n c) ∧ W.cell? ⟨w.heap.size + 1, 1, none⟩ = some (.slice H m d)) := fun W hW => by
    refine ⟨lay_box w S O s sc o oc ord tile form codec W (Below.trans ((Below.refl _ _).alloc (Nat.le_refl _) _) (hW.mono (by simp))), ?_⟩
    have h9 := heap_alloc_new (w.alloc (.cells #[.slice S s sc, .slice O o oc, .int .i64 ord, .int .i64 tile, .int .i64 form, .int .i64 codec] 43)) (.cells #[.slice L n c, .slice H m d] 45)
    rw [World.size_alloc] at h9
    have h8 := (hW.block _ (by omega)).trans h9
    exact ⟨by simp [World.cell?, h8], by simp [World.cell?, h8]⟩
  have HO : Hid (r ≤ 10 → ∃ (V p : Nat) (F : Nat → Nat → Int) (E z G : Int), V ≤ 4096 ∧
      SeqIs w 14 (LayV S s sc O o oc ord tile form codec) (BoxW L H n c m d) V p F E ∧ SeqIs w 15 (LayV S s sc O o oc ord tile form codec) (BoxW L H n c m d) V p F E ∧
      RankIs w 16 (LayV S s sc O o oc ord tile form codec) (BoxW L H n c m d) (.slice X r xc) z G ∧ RankIs w 17 (LayV S s sc O o oc ord tile form codec) (BoxW L H n c m d) (.slice X r xc) z G) := fun hr => both_order w S O L H X s sc o oc n c m d r xc ord tile form codec lo hi xs hl hh hx hbl hbh hr
  clear hl hh hx hbl hbh hw
  go_enter Tryz.func4, Tryz.ntmps4
  obtain ⟨⟨l0, l1, l2, l3, l4, l5⟩, m0, m1⟩ := KB.out _ (Below.refl _ _)
  go_wp2_with fail
  generalize ((w.alloc (.cells #[.slice S s sc, .slice O o oc, .int .i64 ord, .int .i64 tile, .int .i64 form, .int .i64 codec] 43)).alloc (.cells #[.slice L n c, .slice H m d] 45)) = w0 at *
  have hz1 := hz0
  refine (HLa.out w0).mono ?_
  rintro e w1 ⟨⟨bl, rfl⟩, hb1⟩
  have HB1 : Hid (Below w.heap.size w w1) := st HB0.out hb1
  have HC1 : Hid (Below (w.heap.size + 2) w0 w1) := by show Below _ _ _; rw [← hz0]; exact hb1
  have HZ1 : Hid (w.heap.size + 2 ≤ w1.heap.size) := by have := HC1.out.size; show _ ≤ _; omega
  have HCr : Hid (∀ W, Below w1.heap.size w1 W → Below (w.heap.size + 2) w0 W) := fun W hW => HC1.out.trans (hW.mono HZ1.out)
  clear hb1 HLa hz0 hz1 l0 l1 l2 l3 l4 l5 m0 m1
  obtain ⟨⟨l0, l1, l2, l3, l4, l5⟩, m0, m1⟩ := KB.out w1 HC1.out
  by_cases hbt : bl = true ∧ n ≤ 10 ∧ m ≤ 10 ∧ r ≤ 10
  · obtain ⟨rfl, hn, hm, hr⟩ := hbt
    obtain ⟨V, p, F, E, z, G, hV, hs1, hs2, hr1, hr2⟩ := HO.out hr
    have HS1 := Lib.hid hs1
    have HS2 := Lib.hid hs2
    have HR1 := Lib.hid hr1
    have HR2 := Lib.hid hr2
    unfold SeqIs at HS1 HS2
    unfold RankIs at HR1 HR2
    clear hs1 hs2 hr1 hr2 HO
    have g1 : decide ((10 : Int) < (n : Int)) = false := decide_eq_false (by omega)
    have g2 : decide ((10 : Int) < (m : Int)) = false := decide_eq_false (by omega)
    have g3 : decide ((10 : Int) < (r : Int)) = false := decide_eq_false (by omega)
    go_wp2_with fail
    refine (HLg.out w1 HB1.out).mono ?_
    rintro e w2 ⟨bg, rfl, hb2⟩
    have HB2 : Hid (Below w.heap.size w w2) := st HB1.out hb2
    have HD2 : Hid (Below w1.heap.size w1 w2) := hb2
    clear hb2 HLg l0 l1 l2 l3 l4 l5 m0 m1
    obtain ⟨⟨l0, l1, l2, l3, l4, l5⟩, m0, m1⟩ := KB.out w2 (HCr.out _ HD2.out)
    cases bg
    · go_wp2_with fail
      refine (HS1.out w2 HB2.out).mono ?_
      rintro e w3 ⟨A3, c3, rfl, hL3, hb3⟩
      have HL3 := Lib.hid hL3
      have HD3 : Hid (Below w1.heap.size w1 w3) := st HD2.out hb3
      have HB3 : Hid (Below w.heap.size w w3) := st HB2.out hb3
      clear hL3 hb3 l0 l1 l2 l3 l4 l5 m0 m1
      obtain ⟨⟨l0, l1, l2, l3, l4, l5⟩, m0, m1⟩ := KB.out w3 (HCr.out _ HD3.out)
      go_wp2_with fail
      refine (HS2.out w3 HB3.out).mono ?_
      rintro e w4 ⟨A4, c4, rfl, hL4, hb4⟩
      have HL4 : Hid (ListsAt w4 A3 V (fun _ => p) F ∧ ListsAt w4 A4 V (fun _ => p) F) := ⟨HL3.out.below hb4, hL4⟩
      have HD4 : Hid (Below w1.heap.size w1 w4) := st HD3.out hb4
      have HB4 : Hid (Below w.heap.size w w4) := st HB3.out hb4
      clear hL4 hb4 l0 l1 l2 l3 l4 l5 m0 m1 HL3
      obtain ⟨⟨l0, l1, l2, l3, l4, l5⟩, m0, m1⟩ := KB.out w4 (HCr.out _ HD4.out)
      go_wp2_with fail
      refine (HR1.out w4 HB4.out).mono ?_
      rintro e w5 ⟨rfl, hb5⟩
      have HD5 : Hid (Below w1.heap.size w1 w5) := st HD4.out hb5
      have HB5 : Hid (Below w.heap.size w w5) := st HB4.out hb5
      have HE5 : Hid (Below w4.heap.size w4 w5) := hb5
      clear hb5 l0 l1 l2 l3 l4 l5 m0 m1
      obtain ⟨⟨l0, l1, l2, l3, l4, l5⟩, m0, m1⟩ := KB.out w5 (HCr.out _ HD5.out)
      go_wp2_with fail
      refine (HR2.out w5 HB5.out).mono ?_
      rintro e w6 ⟨rfl, hb6⟩
      have HB6 : Hid (Below w.heap.size w w6) := st HB5.out hb6
      have HL6 : Hid (ListsAt w6 A3 V (fun _ => p) F ∧ ListsAt w6 A4 V (fun _ => p) F) := ⟨HL4.out.1.below (st HE5.out hb6), HL4.out.2.below (st HE5.out hb6)⟩
      clear hb6 l0 l1 l2 l3 l4 l5 m0 m1
      go_wp2_with fail
      refine (same_lists2 w6 A3 A4 V c3 c4 _ F HL6.out.1 HL6.out.2 (Nat.le_trans hV (by decide))).mono ?_
      rintro e w7 ⟨rfl, hb7⟩
      have HB7 : Hid (Below w.heap.size w w7) := st HB6.out hb7
      clear hb7
      go_wp2_with fail
      refine (HW.out w7 HB7.out).mono ?_
      rintro e w8 ⟨rfl, hb8⟩
      have HB8 : Hid (Below w.heap.size w w8) := st HB7.out hb8
      go_wp2
      go_ret
      exact ⟨rfl, HB8.out⟩
    · go_wp2_with fail
      refine (HW.out w2 HB2.out).mono ?_
      rintro e w8 ⟨rfl, hb8⟩
      have HB8 : Hid (Below w.heap.size w w8) := st HB2.out hb8
      go_wp2
      go_ret
      exact ⟨rfl, HB8.out⟩
  · clear HO HLg
    have HBw : Hid (∀ w8, Below w1.heap.size w1 w8 → Below w.heap.size w w8) := fun w8 h => st HB1.out h
    cases bl
    · clear hbt
      go_wp2_with fail
      refine (HW.out w1 HB1.out).mono ?_
      rintro e w8 ⟨rfl, hb8⟩
      go_wp2
      go_ret
      exact ⟨rfl, HBw.out _ hb8⟩
    · by_cases hn : n ≤ 10
      · have g1 : decide ((10 : Int) < (n : Int)) = false := decide_eq_false (by omega)
        by_cases hm : m ≤ 10
        · have g2 : decide ((10 : Int) < (m : Int)) = false := decide_eq_false (by omega)
          have g3 : decide ((10 : Int) < (r : Int)) = true := decide_eq_true (by have h9 : ¬ r ≤ 10 := fun h => hbt ⟨rfl, hn, hm, h⟩; omega)
          clear hbt
          go_wp2_with fail
          refine (HW.out w1 HB1.out).mono ?_
          rintro e w8 ⟨rfl, hb8⟩
          go_wp2
          go_ret
          exact ⟨rfl, HBw.out _ hb8⟩
        · have g2 : decide ((10 : Int) < (m : Int)) = true := decide_eq_true (by omega)
          clear hbt
          go_wp2_with fail
          refine (HW.out w1 HB1.out).mono ?_
          rintro e w8 ⟨rfl, hb8⟩
          go_wp2
          go_ret
          exact ⟨rfl, HBw.out _ hb8⟩
      · have g1 : decide ((10 : Int) < (n : Int)) = true := decide_eq_true (by omega)
        clear hbt
        go_wp2_with fail
        refine (HW.out w1 HB1.out).mono ?_
        rintro e w8 ⟨rfl, hb8⟩
        go_wp2
        go_ret
        exact ⟨rfl, HBw.out _ hb8⟩
end Go.Proofs.YtogmbehomilalaaGreatDoor

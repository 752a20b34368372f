/- The reference's special results of and, or. -/
import Derived.Test.YtnfncdalneifnaaGreatDoorZSpe9
import Derived.Deep.RegionHeld3
namespace Go.Proofs.YtnfncdalneifnaaGreatDoor
open Go Go.RowKit Go.Deep

set_option maxRecDepth 100000 in
set_option maxHeartbeats 16000000 in
theorem r_special19 (w : World) (b o c : Nat) (k0 n0 d0 : Int) (s0 : ByteArray) (k1 n1 d1 : Int) (s1 : ByteArray) (hb : b < w.heap.size) (h0 : ValIn w b o k0 n0 d0 s0) (h1 : ValIn w b (o + 4) k1 n1 d1 s1) (t0 : Tri9 k0 n0 d0 s0) (t1 : Tri9 k1 n1 d1 s1) :
    Calls Tryz.prog 30 #[.int .i64 19, .slice (some ⟨b, o, none⟩) 2 c] w fun e w' => e = .returned (.tuple #[V 1 0 0 noS, .bool ((k0 == 1 && n0 == 0) || (k1 == 1 && n1 == 0))]) ∧ Below w.heap.size w w' := by
  obtain ⟨W0, hW0, hB0, hz0, KR⟩ := valz_box w
  have HB0 := Lib.hid hB0
  have H0 := Lib.hid (fun W (hW : Below w.heap.size w W) => h0.below hW hb)
  have H1 := Lib.hid (fun W (hW : Below w.heap.size w W) => h1.below hW hb)
  obtain ⟨a0, a1, a2, a3⟩ := H0.out W0 hB0
  obtain ⟨b0, b1, b2, b3⟩ := H1.out W0 hB0
  have HT0 := Lib.hid (fun W => r_Truth0 W)
  clear hB0 h0 h1
  rcases t0 with ⟨rfl, rfl, rfl⟩ | ⟨rfl, rfl, rfl, rfl⟩ | ⟨rfl, rfl, rfl, rfl⟩
  · rcases t1 with ⟨rfl, rfl, rfl⟩ | ⟨rfl, rfl, rfl, rfl⟩ | ⟨rfl, rfl, rfl, rfl⟩
    · have HH : Hid (∀ W, Below w.heap.size w W → (W.cell? ⟨b, o, none⟩ = some (.int .i64 0) ∧ W.cell? ⟨b, o + 1, none⟩ = some (.int .i64 n0) ∧ W.cell? ⟨b, o + 2, none⟩ = some (.int .i64 0) ∧ W.cell? ⟨b, o + 3, none⟩ = some (.string noS)) ∧ (W.cell? ⟨b, o + 4, none⟩ = some (.int .i64 0) ∧ W.cell? ⟨b, o + 5, none⟩ = some (.int .i64 n1) ∧ W.cell? ⟨b, o + 6, none⟩ = some (.int .i64 0) ∧ W.cell? ⟨b, o + 7, none⟩ = some (.string noS))) := fun W hW => ⟨H0.out W hW, H1.out W hW⟩
      clear H0 H1
      go_enter Tryz.func30, Tryz.ntmps30
      go_wp2_with fail
      clear a0 a1 a2 a3 b0 b1 b2 b3
      have B0d : Below W0.heap.size W0 W0.drew := Below.drew (Below.refl _ _)
      have HM : Hid (∀ W, Below W0.heap.size W0 W → Below w.heap.size w W) := fun W hW => btr HB0.out hW
      first
      | (go_region_held3 (fun W => (W.cell? ⟨b, o, none⟩ = some (.int .i64 0) ∧ W.cell? ⟨b, o + 1, none⟩ = some (.int .i64 n0) ∧ W.cell? ⟨b, o + 2, none⟩ = some (.int .i64 0) ∧ W.cell? ⟨b, o + 3, none⟩ = some (.string noS)) ∧ (W.cell? ⟨b, o + 4, none⟩ = some (.int .i64 0) ∧ W.cell? ⟨b, o + 5, none⟩ = some (.int .i64 n1) ∧ W.cell? ⟨b, o + 6, none⟩ = some (.int .i64 0) ∧ W.cell? ⟨b, o + 7, none⟩ = some (.string noS)))
        (first | exact HH.out _ (below4 (HM.out _ C3) _ (Nat.le_refl _) _ _ _ _) | exact HH.out _ (below4 (HM.out _ C2) _ (Nat.le_refl _) _ _ _ _) | exact HH.out _ (HM.out _ C3) | exact HH.out _ (HM.out _ C2) | exact HH.out _ (HM.out _ C1) | exact HH.out _ (HM.out _ B0d) | exact HH.out _ (HM.out _ (Below.refl _ _)))
        (first
          | (go_at_call 32; refine (HT0.out _).mono ?_; rintro e w3 ⟨rfl, hb3⟩; have C3 : Below W0.heap.size W0 w3 := btr C2 hb3; obtain ⟨r0, r1, r2, r3, f0, f1, f2, f3⟩ := res_at (KR.out _ C3))
          | (go_at_call 32; refine (HT0.out _).mono ?_; rintro e w2 ⟨rfl, hb2⟩; have C2 : Below W0.heap.size W0 w2 := btr C1 hb2; obtain ⟨r0, r1, r2, r3, f0, f1, f2, f3⟩ := res_at (KR.out _ C2))
          | (go_at_call 32; refine (HT0.out _).mono ?_; rintro e w1 ⟨rfl, hb1⟩; have C1 : Below W0.heap.size W0 w1 := btr B0d hb1)))
      | fail
      all_goals
        have hrow := KR.out _ C3
        have HL := Lib.hid (HM.out _ C3)
        clear r0 r1 r2 r3 f0 f1 f2 f3
        go_wp2
        exact bodyPost_ret (v := .tuple #[V 1 0 0 noS, .bool false]) (results_cell_tmp Tryz.results30 _ _ w.heap.size 25 _ (0, 0) _ rfl (put4 hrow _ _ _ _) Tryz.underlying25 rfl (by rw [info_v4]; rfl)) rfl ⟨by first | rfl | simp, below4 HL.out _ (Nat.le_refl _) _ _ _ _⟩
    · have HH : Hid (∀ W, Below w.heap.size w W → (W.cell? ⟨b, o, none⟩ = some (.int .i64 0) ∧ W.cell? ⟨b, o + 1, none⟩ = some (.int .i64 n0) ∧ W.cell? ⟨b, o + 2, none⟩ = some (.int .i64 0) ∧ W.cell? ⟨b, o + 3, none⟩ = some (.string noS)) ∧ (W.cell? ⟨b, o + 4, none⟩ = some (.int .i64 1) ∧ W.cell? ⟨b, o + 5, none⟩ = some (.int .i64 0) ∧ W.cell? ⟨b, o + 6, none⟩ = some (.int .i64 0) ∧ W.cell? ⟨b, o + 7, none⟩ = some (.string noS))) := fun W hW => ⟨H0.out W hW, H1.out W hW⟩
      clear H0 H1
      go_enter Tryz.func30, Tryz.ntmps30
      go_wp2_with fail
      clear a0 a1 a2 a3 b0 b1 b2 b3
      have B0d : Below W0.heap.size W0 W0.drew := Below.drew (Below.refl _ _)
      have HM : Hid (∀ W, Below W0.heap.size W0 W → Below w.heap.size w W) := fun W hW => btr HB0.out hW
      first
      | (go_region_held3 (fun W => (W.cell? ⟨b, o, none⟩ = some (.int .i64 0) ∧ W.cell? ⟨b, o + 1, none⟩ = some (.int .i64 n0) ∧ W.cell? ⟨b, o + 2, none⟩ = some (.int .i64 0) ∧ W.cell? ⟨b, o + 3, none⟩ = some (.string noS)) ∧ (W.cell? ⟨b, o + 4, none⟩ = some (.int .i64 1) ∧ W.cell? ⟨b, o + 5, none⟩ = some (.int .i64 0) ∧ W.cell? ⟨b, o + 6, none⟩ = some (.int .i64 0) ∧ W.cell? ⟨b, o + 7, none⟩ = some (.string noS)))
        (first | exact HH.out _ (below4 (HM.out _ C3) _ (Nat.le_refl _) _ _ _ _) | exact HH.out _ (below4 (HM.out _ C2) _ (Nat.le_refl _) _ _ _ _) | exact HH.out _ (HM.out _ C3) | exact HH.out _ (HM.out _ C2) | exact HH.out _ (HM.out _ C1) | exact HH.out _ (HM.out _ B0d) | exact HH.out _ (HM.out _ (Below.refl _ _)))
        (first
          | (go_at_call 32; refine (HT0.out _).mono ?_; rintro e w3 ⟨rfl, hb3⟩; have C3 : Below W0.heap.size W0 w3 := btr C2 hb3; obtain ⟨r0, r1, r2, r3, f0, f1, f2, f3⟩ := res_at (KR.out _ C3))
          | (go_at_call 32; refine (HT0.out _).mono ?_; rintro e w2 ⟨rfl, hb2⟩; have C2 : Below W0.heap.size W0 w2 := btr C1 hb2; obtain ⟨r0, r1, r2, r3, f0, f1, f2, f3⟩ := res_at (KR.out _ C2))
          | (go_at_call 32; refine (HT0.out _).mono ?_; rintro e w1 ⟨rfl, hb1⟩; have C1 : Below W0.heap.size W0 w1 := btr B0d hb1)))
      | fail
      all_goals
        have hrow := KR.out _ C3
        have HL := Lib.hid (HM.out _ C3)
        clear r0 r1 r2 r3 f0 f1 f2 f3
        go_wp2
        exact bodyPost_ret (v := .tuple #[V 1 0 0 noS, .bool true]) (results_cell_tmp Tryz.results30 _ _ w.heap.size 25 _ (0, 0) _ rfl (put4 hrow _ _ _ _) Tryz.underlying25 rfl (by rw [info_v4]; rfl)) rfl ⟨by first | rfl | simp, below4 HL.out _ (Nat.le_refl _) _ _ _ _⟩
    · have HH : Hid (∀ W, Below w.heap.size w W → (W.cell? ⟨b, o, none⟩ = some (.int .i64 0) ∧ W.cell? ⟨b, o + 1, none⟩ = some (.int .i64 n0) ∧ W.cell? ⟨b, o + 2, none⟩ = some (.int .i64 0) ∧ W.cell? ⟨b, o + 3, none⟩ = some (.string noS)) ∧ (W.cell? ⟨b, o + 4, none⟩ = some (.int .i64 1) ∧ W.cell? ⟨b, o + 5, none⟩ = some (.int .i64 1) ∧ W.cell? ⟨b, o + 6, none⟩ = some (.int .i64 0) ∧ W.cell? ⟨b, o + 7, none⟩ = some (.string noS))) := fun W hW => ⟨H0.out W hW, H1.out W hW⟩
      clear H0 H1
      go_enter Tryz.func30, Tryz.ntmps30
      go_wp2_with fail
      clear a0 a1 a2 a3 b0 b1 b2 b3
      have B0d : Below W0.heap.size W0 W0.drew := Below.drew (Below.refl _ _)
      have HM : Hid (∀ W, Below W0.heap.size W0 W → Below w.heap.size w W) := fun W hW => btr HB0.out hW
      first
      | (go_region_held3 (fun W => (W.cell? ⟨b, o, none⟩ = some (.int .i64 0) ∧ W.cell? ⟨b, o + 1, none⟩ = some (.int .i64 n0) ∧ W.cell? ⟨b, o + 2, none⟩ = some (.int .i64 0) ∧ W.cell? ⟨b, o + 3, none⟩ = some (.string noS)) ∧ (W.cell? ⟨b, o + 4, none⟩ = some (.int .i64 1) ∧ W.cell? ⟨b, o + 5, none⟩ = some (.int .i64 1) ∧ W.cell? ⟨b, o + 6, none⟩ = some (.int .i64 0) ∧ W.cell? ⟨b, o + 7, none⟩ = some (.string noS)))
        (first | exact HH.out _ (below4 (HM.out _ C3) _ (Nat.le_refl _) _ _ _ _) | exact HH.out _ (below4 (HM.out _ C2) _ (Nat.le_refl _) _ _ _ _) | exact HH.out _ (HM.out _ C3) | exact HH.out _ (HM.out _ C2) | exact HH.out _ (HM.out _ C1) | exact HH.out _ (HM.out _ B0d) | exact HH.out _ (HM.out _ (Below.refl _ _)))
        (first
          | (go_at_call 32; refine (HT0.out _).mono ?_; rintro e w3 ⟨rfl, hb3⟩; have C3 : Below W0.heap.size W0 w3 := btr C2 hb3; obtain ⟨r0, r1, r2, r3, f0, f1, f2, f3⟩ := res_at (KR.out _ C3))
          | (go_at_call 32; refine (HT0.out _).mono ?_; rintro e w2 ⟨rfl, hb2⟩; have C2 : Below W0.heap.size W0 w2 := btr C1 hb2; obtain ⟨r0, r1, r2, r3, f0, f1, f2, f3⟩ := res_at (KR.out _ C2))
          | (go_at_call 32; refine (HT0.out _).mono ?_; rintro e w1 ⟨rfl, hb1⟩; have C1 : Below W0.heap.size W0 w1 := btr B0d hb1)))
      | fail
      all_goals
        have hrow := KR.out _ C3
        have HL := Lib.hid (HM.out _ C3)
        clear r0 r1 r2 r3 f0 f1 f2 f3
        go_wp2
        exact bodyPost_ret (v := .tuple #[V 1 0 0 noS, .bool false]) (results_cell_tmp Tryz.results30 _ _ w.heap.size 25 _ (0, 0) _ rfl (put4 hrow _ _ _ _) Tryz.underlying25 rfl (by rw [info_v4]; rfl)) rfl ⟨by first | rfl | simp, below4 HL.out _ (Nat.le_refl _) _ _ _ _⟩
  · rcases t1 with ⟨rfl, rfl, rfl⟩ | ⟨rfl, rfl, rfl, rfl⟩ | ⟨rfl, rfl, rfl, rfl⟩
    · have HH : Hid (∀ W, Below w.heap.size w W → (W.cell? ⟨b, o, none⟩ = some (.int .i64 1) ∧ W.cell? ⟨b, o + 1, none⟩ = some (.int .i64 0) ∧ W.cell? ⟨b, o + 2, none⟩ = some (.int .i64 0) ∧ W.cell? ⟨b, o + 3, none⟩ = some (.string noS)) ∧ (W.cell? ⟨b, o + 4, none⟩ = some (.int .i64 0) ∧ W.cell? ⟨b, o + 5, none⟩ = some (.int .i64 n1) ∧ W.cell? ⟨b, o + 6, none⟩ = some (.int .i64 0) ∧ W.cell? ⟨b, o + 7, none⟩ = some (.string noS))) := fun W hW => ⟨H0.out W hW, H1.out W hW⟩
      clear H0 H1
      go_enter Tryz.func30, Tryz.ntmps30
      go_wp2_with fail
      have B0d : Below W0.heap.size W0 W0.drew := Below.drew (Below.refl _ _)
      have HM : Hid (∀ W, Below W0.heap.size W0 W → Below w.heap.size w W) := fun W hW => btr HB0.out hW
      first
      | go_region_with (first
          | (go_at_call 32; refine (HT0.out _).mono ?_; rintro e w2 ⟨rfl, hb2⟩; have C2 : Below W0.heap.size W0 w2 := btr C1 hb2; obtain ⟨r0, r1, r2, r3, f0, f1, f2, f3⟩ := res_at (KR.out _ C2); obtain ⟨⟨a0, a1, a2, a3⟩, ⟨b0, b1, b2, b3⟩⟩ := HH.out _ (HM.out _ C2))
          | (go_at_call 32; refine (HT0.out _).mono ?_; rintro e w1 ⟨rfl, hb1⟩; have C1 : Below W0.heap.size W0 w1 := btr B0d hb1; obtain ⟨⟨a0, a1, a2, a3⟩, ⟨b0, b1, b2, b3⟩⟩ := HH.out _ (HM.out _ C1)))
      | fail
      all_goals
        have hrow := KR.out _ C2
        have HL := Lib.hid (HM.out _ C2)
        clear r0 r1 r2 r3 f0 f1 f2 f3
        go_wp2
        exact bodyPost_ret (v := .tuple #[V 1 0 0 noS, .bool true]) (results_cell_tmp Tryz.results30 _ _ w.heap.size 25 _ (0, 0) _ rfl (put4 hrow _ _ _ _) Tryz.underlying25 rfl (by rw [info_v4]; rfl)) rfl ⟨by first | rfl | simp, below4 HL.out _ (Nat.le_refl _) _ _ _ _⟩
    · have HH : Hid (∀ W, Below w.heap.size w W → (W.cell? ⟨b, o, none⟩ = some (.int .i64 1) ∧ W.cell? ⟨b, o + 1, none⟩ = some (.int .i64 0) ∧ W.cell? ⟨b, o + 2, none⟩ = some (.int .i64 0) ∧ W.cell? ⟨b, o + 3, none⟩ = some (.string noS)) ∧ (W.cell? ⟨b, o + 4, none⟩ = some (.int .i64 1) ∧ W.cell? ⟨b, o + 5, none⟩ = some (.int .i64 0) ∧ W.cell? ⟨b, o + 6, none⟩ = some (.int .i64 0) ∧ W.cell? ⟨b, o + 7, none⟩ = some (.string noS))) := fun W hW => ⟨H0.out W hW, H1.out W hW⟩
      clear H0 H1
      go_enter Tryz.func30, Tryz.ntmps30
      go_wp2_with fail
      have B0d : Below W0.heap.size W0 W0.drew := Below.drew (Below.refl _ _)
      have HM : Hid (∀ W, Below W0.heap.size W0 W → Below w.heap.size w W) := fun W hW => btr HB0.out hW
      first
      | go_region_with (first
          | (go_at_call 32; refine (HT0.out _).mono ?_; rintro e w2 ⟨rfl, hb2⟩; have C2 : Below W0.heap.size W0 w2 := btr C1 hb2; obtain ⟨r0, r1, r2, r3, f0, f1, f2, f3⟩ := res_at (KR.out _ C2); obtain ⟨⟨a0, a1, a2, a3⟩, ⟨b0, b1, b2, b3⟩⟩ := HH.out _ (HM.out _ C2))
          | (go_at_call 32; refine (HT0.out _).mono ?_; rintro e w1 ⟨rfl, hb1⟩; have C1 : Below W0.heap.size W0 w1 := btr B0d hb1; obtain ⟨⟨a0, a1, a2, a3⟩, ⟨b0, b1, b2, b3⟩⟩ := HH.out _ (HM.out _ C1)))
      | fail
      all_goals
        have hrow := KR.out _ C2
        have HL := Lib.hid (HM.out _ C2)
        clear r0 r1 r2 r3 f0 f1 f2 f3
        go_wp2
        exact bodyPost_ret (v := .tuple #[V 1 0 0 noS, .bool true]) (results_cell_tmp Tryz.results30 _ _ w.heap.size 25 _ (0, 0) _ rfl (put4 hrow _ _ _ _) Tryz.underlying25 rfl (by rw [info_v4]; rfl)) rfl ⟨by first | rfl | simp, below4 HL.out _ (Nat.le_refl _) _ _ _ _⟩
    · have HH : Hid (∀ W, Below w.heap.size w W → (W.cell? ⟨b, o, none⟩ = some (.int .i64 1) ∧ W.cell? ⟨b, o + 1, none⟩ = some (.int .i64 0) ∧ W.cell? ⟨b, o + 2, none⟩ = some (.int .i64 0) ∧ W.cell? ⟨b, o + 3, none⟩ = some (.string noS)) ∧ (W.cell? ⟨b, o + 4, none⟩ = some (.int .i64 1) ∧ W.cell? ⟨b, o + 5, none⟩ = some (.int .i64 1) ∧ W.cell? ⟨b, o + 6, none⟩ = some (.int .i64 0) ∧ W.cell? ⟨b, o + 7, none⟩ = some (.string noS))) := fun W hW => ⟨H0.out W hW, H1.out W hW⟩
      clear H0 H1
      go_enter Tryz.func30, Tryz.ntmps30
      go_wp2_with fail
      have B0d : Below W0.heap.size W0 W0.drew := Below.drew (Below.refl _ _)
      have HM : Hid (∀ W, Below W0.heap.size W0 W → Below w.heap.size w W) := fun W hW => btr HB0.out hW
      first
      | go_region_with (first
          | (go_at_call 32; refine (HT0.out _).mono ?_; rintro e w2 ⟨rfl, hb2⟩; have C2 : Below W0.heap.size W0 w2 := btr C1 hb2; obtain ⟨r0, r1, r2, r3, f0, f1, f2, f3⟩ := res_at (KR.out _ C2); obtain ⟨⟨a0, a1, a2, a3⟩, ⟨b0, b1, b2, b3⟩⟩ := HH.out _ (HM.out _ C2))
          | (go_at_call 32; refine (HT0.out _).mono ?_; rintro e w1 ⟨rfl, hb1⟩; have C1 : Below W0.heap.size W0 w1 := btr B0d hb1; obtain ⟨⟨a0, a1, a2, a3⟩, ⟨b0, b1, b2, b3⟩⟩ := HH.out _ (HM.out _ C1)))
      | fail
      all_goals
        have hrow := KR.out _ C2
        have HL := Lib.hid (HM.out _ C2)
        clear r0 r1 r2 r3 f0 f1 f2 f3
        go_wp2
        exact bodyPost_ret (v := .tuple #[V 1 0 0 noS, .bool true]) (results_cell_tmp Tryz.results30 _ _ w.heap.size 25 _ (0, 0) _ rfl (put4 hrow _ _ _ _) Tryz.underlying25 rfl (by rw [info_v4]; rfl)) rfl ⟨by first | rfl | simp, below4 HL.out _ (Nat.le_refl _) _ _ _ _⟩
  · rcases t1 with ⟨rfl, rfl, rfl⟩ | ⟨rfl, rfl, rfl, rfl⟩ | ⟨rfl, rfl, rfl, rfl⟩
    · have HH : Hid (∀ W, Below w.heap.size w W → (W.cell? ⟨b, o, none⟩ = some (.int .i64 1) ∧ W.cell? ⟨b, o + 1, none⟩ = some (.int .i64 1) ∧ W.cell? ⟨b, o + 2, none⟩ = some (.int .i64 0) ∧ W.cell? ⟨b, o + 3, none⟩ = some (.string noS)) ∧ (W.cell? ⟨b, o + 4, none⟩ = some (.int .i64 0) ∧ W.cell? ⟨b, o + 5, none⟩ = some (.int .i64 n1) ∧ W.cell? ⟨b, o + 6, none⟩ = some (.int .i64 0) ∧ W.cell? ⟨b, o + 7, none⟩ = some (.string noS))) := fun W hW => ⟨H0.out W hW, H1.out W hW⟩
      clear H0 H1
      go_enter Tryz.func30, Tryz.ntmps30
      go_wp2_with fail
      clear a0 a1 a2 a3 b0 b1 b2 b3
      have B0d : Below W0.heap.size W0 W0.drew := Below.drew (Below.refl _ _)
      have HM : Hid (∀ W, Below W0.heap.size W0 W → Below w.heap.size w W) := fun W hW => btr HB0.out hW
      first
      | (go_region_held3 (fun W => (W.cell? ⟨b, o, none⟩ = some (.int .i64 1) ∧ W.cell? ⟨b, o + 1, none⟩ = some (.int .i64 1) ∧ W.cell? ⟨b, o + 2, none⟩ = some (.int .i64 0) ∧ W.cell? ⟨b, o + 3, none⟩ = some (.string noS)) ∧ (W.cell? ⟨b, o + 4, none⟩ = some (.int .i64 0) ∧ W.cell? ⟨b, o + 5, none⟩ = some (.int .i64 n1) ∧ W.cell? ⟨b, o + 6, none⟩ = some (.int .i64 0) ∧ W.cell? ⟨b, o + 7, none⟩ = some (.string noS)))
        (first | exact HH.out _ (below4 (HM.out _ C3) _ (Nat.le_refl _) _ _ _ _) | exact HH.out _ (below4 (HM.out _ C2) _ (Nat.le_refl _) _ _ _ _) | exact HH.out _ (HM.out _ C3) | exact HH.out _ (HM.out _ C2) | exact HH.out _ (HM.out _ C1) | exact HH.out _ (HM.out _ B0d) | exact HH.out _ (HM.out _ (Below.refl _ _)))
        (first
          | (go_at_call 32; refine (HT0.out _).mono ?_; rintro e w3 ⟨rfl, hb3⟩; have C3 : Below W0.heap.size W0 w3 := btr C2 hb3; obtain ⟨r0, r1, r2, r3, f0, f1, f2, f3⟩ := res_at (KR.out _ C3))
          | (go_at_call 32; refine (HT0.out _).mono ?_; rintro e w2 ⟨rfl, hb2⟩; have C2 : Below W0.heap.size W0 w2 := btr C1 hb2; obtain ⟨r0, r1, r2, r3, f0, f1, f2, f3⟩ := res_at (KR.out _ C2))
          | (go_at_call 32; refine (HT0.out _).mono ?_; rintro e w1 ⟨rfl, hb1⟩; have C1 : Below W0.heap.size W0 w1 := btr B0d hb1)))
      | fail
      all_goals
        have hrow := KR.out _ C3
        have HL := Lib.hid (HM.out _ C3)
        clear r0 r1 r2 r3 f0 f1 f2 f3
        go_wp2
        exact bodyPost_ret (v := .tuple #[V 1 0 0 noS, .bool false]) (results_cell_tmp Tryz.results30 _ _ w.heap.size 25 _ (0, 0) _ rfl (put4 hrow _ _ _ _) Tryz.underlying25 rfl (by rw [info_v4]; rfl)) rfl ⟨by first | rfl | simp, below4 HL.out _ (Nat.le_refl _) _ _ _ _⟩
    · have HH : Hid (∀ W, Below w.heap.size w W → (W.cell? ⟨b, o, none⟩ = some (.int .i64 1) ∧ W.cell? ⟨b, o + 1, none⟩ = some (.int .i64 1) ∧ W.cell? ⟨b, o + 2, none⟩ = some (.int .i64 0) ∧ W.cell? ⟨b, o + 3, none⟩ = some (.string noS)) ∧ (W.cell? ⟨b, o + 4, none⟩ = some (.int .i64 1) ∧ W.cell? ⟨b, o + 5, none⟩ = some (.int .i64 0) ∧ W.cell? ⟨b, o + 6, none⟩ = some (.int .i64 0) ∧ W.cell? ⟨b, o + 7, none⟩ = some (.string noS))) := fun W hW => ⟨H0.out W hW, H1.out W hW⟩
      clear H0 H1
      go_enter Tryz.func30, Tryz.ntmps30
      go_wp2_with fail
      clear a0 a1 a2 a3 b0 b1 b2 b3
      have B0d : Below W0.heap.size W0 W0.drew := Below.drew (Below.refl _ _)
      have HM : Hid (∀ W, Below W0.heap.size W0 W → Below w.heap.size w W) := fun W hW => btr HB0.out hW
      first
      | (go_region_held3 (fun W => (W.cell? ⟨b, o, none⟩ = some (.int .i64 1) ∧ W.cell? ⟨b, o + 1, none⟩ = some (.int .i64 1) ∧ W.cell? ⟨b, o + 2, none⟩ = some (.int .i64 0) ∧ W.cell? ⟨b, o + 3, none⟩ = some (.string noS)) ∧ (W.cell? ⟨b, o + 4, none⟩ = some (.int .i64 1) ∧ W.cell? ⟨b, o + 5, none⟩ = some (.int .i64 0) ∧ W.cell? ⟨b, o + 6, none⟩ = some (.int .i64 0) ∧ W.cell? ⟨b, o + 7, none⟩ = some (.string noS)))
        (first | exact HH.out _ (below4 (HM.out _ C3) _ (Nat.le_refl _) _ _ _ _) | exact HH.out _ (below4 (HM.out _ C2) _ (Nat.le_refl _) _ _ _ _) | exact HH.out _ (HM.out _ C3) | exact HH.out _ (HM.out _ C2) | exact HH.out _ (HM.out _ C1) | exact HH.out _ (HM.out _ B0d) | exact HH.out _ (HM.out _ (Below.refl _ _)))
        (first
          | (go_at_call 32; refine (HT0.out _).mono ?_; rintro e w3 ⟨rfl, hb3⟩; have C3 : Below W0.heap.size W0 w3 := btr C2 hb3; obtain ⟨r0, r1, r2, r3, f0, f1, f2, f3⟩ := res_at (KR.out _ C3))
          | (go_at_call 32; refine (HT0.out _).mono ?_; rintro e w2 ⟨rfl, hb2⟩; have C2 : Below W0.heap.size W0 w2 := btr C1 hb2; obtain ⟨r0, r1, r2, r3, f0, f1, f2, f3⟩ := res_at (KR.out _ C2))
          | (go_at_call 32; refine (HT0.out _).mono ?_; rintro e w1 ⟨rfl, hb1⟩; have C1 : Below W0.heap.size W0 w1 := btr B0d hb1)))
      | fail
      all_goals
        have hrow := KR.out _ C3
        have HL := Lib.hid (HM.out _ C3)
        clear r0 r1 r2 r3 f0 f1 f2 f3
        go_wp2
        exact bodyPost_ret (v := .tuple #[V 1 0 0 noS, .bool true]) (results_cell_tmp Tryz.results30 _ _ w.heap.size 25 _ (0, 0) _ rfl (put4 hrow _ _ _ _) Tryz.underlying25 rfl (by rw [info_v4]; rfl)) rfl ⟨by first | rfl | simp, below4 HL.out _ (Nat.le_refl _) _ _ _ _⟩
    · have HH : Hid (∀ W, Below w.heap.size w W → (W.cell? ⟨b, o, none⟩ = some (.int .i64 1) ∧ W.cell? ⟨b, o + 1, none⟩ = some (.int .i64 1) ∧ W.cell? ⟨b, o + 2, none⟩ = some (.int .i64 0) ∧ W.cell? ⟨b, o + 3, none⟩ = some (.string noS)) ∧ (W.cell? ⟨b, o + 4, none⟩ = some (.int .i64 1) ∧ W.cell? ⟨b, o + 5, none⟩ = some (.int .i64 1) ∧ W.cell? ⟨b, o + 6, none⟩ = some (.int .i64 0) ∧ W.cell? ⟨b, o + 7, none⟩ = some (.string noS))) := fun W hW => ⟨H0.out W hW, H1.out W hW⟩
      clear H0 H1
      go_enter Tryz.func30, Tryz.ntmps30
      go_wp2_with fail
      clear a0 a1 a2 a3 b0 b1 b2 b3
      have B0d : Below W0.heap.size W0 W0.drew := Below.drew (Below.refl _ _)
      have HM : Hid (∀ W, Below W0.heap.size W0 W → Below w.heap.size w W) := fun W hW => btr HB0.out hW
      first
      | (go_region_held3 (fun W => (W.cell? ⟨b, o, none⟩ = some (.int .i64 1) ∧ W.cell? ⟨b, o + 1, none⟩ = some (.int .i64 1) ∧ W.cell? ⟨b, o + 2, none⟩ = some (.int .i64 0) ∧ W.cell? ⟨b, o + 3, none⟩ = some (.string noS)) ∧ (W.cell? ⟨b, o + 4, none⟩ = some (.int .i64 1) ∧ W.cell? ⟨b, o + 5, none⟩ = some (.int .i64 1) ∧ W.cell? ⟨b, o + 6, none⟩ = some (.int .i64 0) ∧ W.cell? ⟨b, o + 7, none⟩ = some (.string noS)))
        (first | exact HH.out _ (below4 (HM.out _ C3) _ (Nat.le_refl _) _ _ _ _) | exact HH.out _ (below4 (HM.out _ C2) _ (Nat.le_refl _) _ _ _ _) | exact HH.out _ (HM.out _ C3) | exact HH.out _ (HM.out _ C2) | exact HH.out _ (HM.out _ C1) | exact HH.out _ (HM.out _ B0d) | exact HH.out _ (HM.out _ (Below.refl _ _)))
        (first
          | (go_at_call 32; refine (HT0.out _).mono ?_; rintro e w3 ⟨rfl, hb3⟩; have C3 : Below W0.heap.size W0 w3 := btr C2 hb3; obtain ⟨r0, r1, r2, r3, f0, f1, f2, f3⟩ := res_at (KR.out _ C3))
          | (go_at_call 32; refine (HT0.out _).mono ?_; rintro e w2 ⟨rfl, hb2⟩; have C2 : Below W0.heap.size W0 w2 := btr C1 hb2; obtain ⟨r0, r1, r2, r3, f0, f1, f2, f3⟩ := res_at (KR.out _ C2))
          | (go_at_call 32; refine (HT0.out _).mono ?_; rintro e w1 ⟨rfl, hb1⟩; have C1 : Below W0.heap.size W0 w1 := btr B0d hb1)))
      | fail
      all_goals
        have hrow := KR.out _ C3
        have HL := Lib.hid (HM.out _ C3)
        clear r0 r1 r2 r3 f0 f1 f2 f3
        go_wp2
        exact bodyPost_ret (v := .tuple #[V 1 0 0 noS, .bool false]) (results_cell_tmp Tryz.results30 _ _ w.heap.size 25 _ (0, 0) _ rfl (put4 hrow _ _ _ _) Tryz.underlying25 rfl (by rw [info_v4]; rfl)) rfl ⟨by first | rfl | simp, below4 HL.out _ (Nat.le_refl _) _ _ _ _⟩
end Go.Proofs.YtnfncdalneifnaaGreatDoor

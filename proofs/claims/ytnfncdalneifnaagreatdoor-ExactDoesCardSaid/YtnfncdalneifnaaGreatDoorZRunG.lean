/- What the operations' runs return, whatever the values. -/
import Derived.Test.YtnfncdalneifnaaGreatDoorZRdV
import Derived.Test.YtnfncdalneifnaaGreatDoorZRatV
import Derived.Test.YtnfncdalneifnaaGreatDoorZDoX9
import Derived.Test.YtnfncdalneifnaaGreatDoorZSpe9
import Derived.Test.YtnfncdalneifnaaGreatDoorZNum
import Derived.Test.YtnfncdalneifnaaGreatDoorZClo

/- What the operations' runs return, whatever the values. -/
section
namespace Go.Proofs.YtnfncdalneifnaaGreatDoor
open Go Go.RowKit Go.Deep

set_option maxRecDepth 100000 in
set_option maxHeartbeats 4000000 in
theorem g_add (w : World) (b o c : Nat) (n d n' d' : Int) (hb : b < w.heap.size) (h1 : ValIn w b o 2 n d noS) (h2 : ValIn w b (o + 4) 2 n' d' noS) (l1 : Low n d) (l2 : Low n' d') :
    Calls Tryz.prog 117 #[.slice (some ⟨b, o, none⟩) 2 c] w fun e w' => e = .returned (V (valK (qV n d + qV n' d')) (valN (qV n d + qV n' d')) (valD (qV n d + qV n' d')) noS) ∧ Below w.heap.size w w' := by
  have K : Hid (∀ W, Below w.heap.size w W → (W.cell? ⟨b, o, none⟩ = some (.int .i64 2) ∧ W.cell? ⟨b, o + 1, none⟩ = some (.int .i64 n) ∧ W.cell? ⟨b, o + 2, none⟩ = some (.int .i64 d) ∧ W.cell? ⟨b, o + 3, none⟩ = some (.string noS)) ∧ (W.cell? ⟨b, o + 4, none⟩ = some (.int .i64 2) ∧ W.cell? ⟨b, o + 5, none⟩ = some (.int .i64 n') ∧ W.cell? ⟨b, o + 6, none⟩ = some (.int .i64 d') ∧ W.cell? ⟨b, o + 7, none⟩ = some (.string noS))) := fun W hW => ⟨h1.below hW hb, h2.below hW hb⟩
  have HR0 := Lib.hid (heap_alloc_new w (.cells #[.int .i64 0, .int .i64 0, .int .i64 0, .string ⟨#[]⟩] 25))
  have HQ1 := Lib.hid (fun W => v_rat W n d l1)
  have HQ2 := Lib.hid (fun W => v_rat W n' d' l2)
  have w1 := ratW_qV l1
  have w2 := ratW_qV l2
  have HO : Hid (∀ W u u', RatV W u (qV n d) → RatV W u' (qV n' d') → Calls Tryz.prog 10 #[u, u'] W (RatVRet W (qV n d + qV n' d'))) := fun W u u' a b => v_Add W u u' _ _ a b (w1.mono (by omega)) (w2.mono (by omega))
  have HV := Lib.hid (fun W u (h : RatV W u (qV n d + qV n' d')) => v_Value W u _ h)
  generalize hk : valK (qV n d + qV n' d') = rk at *
  generalize hn : valN (qV n d + qV n' d') = rn at *
  generalize hd : valD (qV n d + qV n' d') = rd at *
  clear hk hn hd
  generalize (qV n d + qV n' d') = qr at *
  generalize qV n d = q1 at *
  generalize qV n' d' = q2 at *
  clear h1 h2 l1 l2 w1 w2
  go_enter Tryz.func117, Tryz.ntmps117
  go_wp2_with fail
  generalize HW : w.alloc (.cells #[.int .i64 0, .int .i64 0, .int .i64 0, .string ⟨#[]⟩] 25) = W0 at *
  have B0 : Below w.heap.size w W0 := by rw [← HW]; exact (Below.refl _ _).alloc (Nat.le_refl _) _
  have hz0 : w.heap.size < W0.heap.size := by rw [← HW]; simp
  clear HW
  have KH : Hid (∀ W, Below W0.heap.size W0 W → W.heap[w.heap.size]? = some (.cells #[.int .i64 0, .int .i64 0, .int .i64 0, .string ⟨#[]⟩] 25 (0, 0))) := fun W hW => (hW.block _ hz0).trans HR0.out
  have KR : Hid (∀ W, Below W0.heap.size W0 W → ResAt W w.heap.size) := fun W hW => res_at ((hW.block _ hz0).trans HR0.out)
  have B0d : Below W0.heap.size W0 W0.drew := Below.drew (Below.refl _ _)
  go_region_held3 (fun w' => (w'.cell? ⟨b, o, none⟩ = some (.int .i64 2) ∧ w'.cell? ⟨b, o + 1, none⟩ = some (.int .i64 n) ∧ w'.cell? ⟨b, o + 2, none⟩ = some (.int .i64 d) ∧ w'.cell? ⟨b, o + 3, none⟩ = some (.string noS)) ∧ (w'.cell? ⟨b, o + 4, none⟩ = some (.int .i64 2) ∧ w'.cell? ⟨b, o + 5, none⟩ = some (.int .i64 n') ∧ w'.cell? ⟨b, o + 6, none⟩ = some (.int .i64 d') ∧ w'.cell? ⟨b, o + 7, none⟩ = some (.string noS)))
    (first | exact K.out _ (below4 (btr B0 B4) _ (Nat.le_refl w.heap.size) _ _ _ _) | exact K.out _ (btr B0 B4) | exact K.out _ (btr B0 B3) | exact K.out _ (btr B0 B2) | exact K.out _ (btr B0 B1) | exact K.out _ (btr B0 B0d) | exact K.out _ B0) (first
      | (go_at_call 57; (with_reducible refine (HQ1.out _).mono ?_); rintro e w1 ⟨u, rfl, hu, hb1⟩; have B1 : Below W0.heap.size W0 w1 := (by first | exact btr B2 hb1 | exact btr B0d hb1))
      | (go_at_call 57; (with_reducible refine (HQ2.out _).mono ?_); rintro e w2 ⟨u', rfl, hu', hb2⟩; have B2 : Below W0.heap.size W0 w2 := (by first | exact btr B1 hb2 | exact btr B0d hb2))
      | (go_at_call 10; refine (HO.out _ u u' (by first | exact hu.below hb2 | exact hu) (by first | exact hu'.below hb1 | exact hu')).mono ?_; rintro e w3 ⟨q, rfl, hq, hb3⟩; have B3 : Below W0.heap.size W0 w3 := (by first | exact btr B2 hb3 | exact btr B1 hb3))
      | (go_at_call 109; refine (HV.out _ q hq).mono ?_; rintro e w4 ⟨rfl, hb4⟩; have B4 : Below W0.heap.size W0 w4 := btr B3 hb4; obtain ⟨r0, r1, r2, r3, f0, f1, f2, f3⟩ := KR.out _ B4))
  all_goals
    go_wp2
    exact bodyPost_ret (v := V rk rn rd noS) (results_cell_row Tryz.results117 _ _ w.heap.size 25 _ (0, 0) _ rfl (put4 (KH.out _ B4) _ _ _ _) Tryz.underlying25 rfl (by rw [info_v4]; rfl)) rfl ⟨rfl, below4 (btr B0 B4) _ (Nat.le_refl _) _ _ _ _⟩

set_option maxRecDepth 100000 in
set_option maxHeartbeats 4000000 in
theorem g_sub (w : World) (b o c : Nat) (n d n' d' : Int) (hb : b < w.heap.size) (h1 : ValIn w b o 2 n d noS) (h2 : ValIn w b (o + 4) 2 n' d' noS) (l1 : Low n d) (l2 : Low n' d') :
    Calls Tryz.prog 118 #[.slice (some ⟨b, o, none⟩) 2 c] w fun e w' => e = .returned (V (valK (qV n d - qV n' d')) (valN (qV n d - qV n' d')) (valD (qV n d - qV n' d')) noS) ∧ Below w.heap.size w w' := by
  have K : Hid (∀ W, Below w.heap.size w W → (W.cell? ⟨b, o, none⟩ = some (.int .i64 2) ∧ W.cell? ⟨b, o + 1, none⟩ = some (.int .i64 n) ∧ W.cell? ⟨b, o + 2, none⟩ = some (.int .i64 d) ∧ W.cell? ⟨b, o + 3, none⟩ = some (.string noS)) ∧ (W.cell? ⟨b, o + 4, none⟩ = some (.int .i64 2) ∧ W.cell? ⟨b, o + 5, none⟩ = some (.int .i64 n') ∧ W.cell? ⟨b, o + 6, none⟩ = some (.int .i64 d') ∧ W.cell? ⟨b, o + 7, none⟩ = some (.string noS))) := fun W hW => ⟨h1.below hW hb, h2.below hW hb⟩
  have HR0 := Lib.hid (heap_alloc_new w (.cells #[.int .i64 0, .int .i64 0, .int .i64 0, .string ⟨#[]⟩] 25))
  have HQ1 := Lib.hid (fun W => v_rat W n d l1)
  have HQ2 := Lib.hid (fun W => v_rat W n' d' l2)
  have w1 := ratW_qV l1
  have w2 := ratW_qV l2
  have HO : Hid (∀ W u u', RatV W u (qV n d) → RatV W u' (qV n' d') → Calls Tryz.prog 112 #[u, u'] W (RatVRet W (qV n d - qV n' d'))) := fun W u u' a b => v_Sub W u u' _ _ a b (w1.mono (by omega)) (w2.mono (by omega))
  have HV := Lib.hid (fun W u (h : RatV W u (qV n d - qV n' d')) => v_Value W u _ h)
  generalize hk : valK (qV n d - qV n' d') = rk at *
  generalize hn : valN (qV n d - qV n' d') = rn at *
  generalize hd : valD (qV n d - qV n' d') = rd at *
  clear hk hn hd
  generalize (qV n d - qV n' d') = qr at *
  generalize qV n d = q1 at *
  generalize qV n' d' = q2 at *
  clear h1 h2 l1 l2 w1 w2
  go_enter Tryz.func118, Tryz.ntmps118
  go_wp2_with fail
  generalize HW : w.alloc (.cells #[.int .i64 0, .int .i64 0, .int .i64 0, .string ⟨#[]⟩] 25) = W0 at *
  have B0 : Below w.heap.size w W0 := by rw [← HW]; exact (Below.refl _ _).alloc (Nat.le_refl _) _
  have hz0 : w.heap.size < W0.heap.size := by rw [← HW]; simp
  clear HW
  have KH : Hid (∀ W, Below W0.heap.size W0 W → W.heap[w.heap.size]? = some (.cells #[.int .i64 0, .int .i64 0, .int .i64 0, .string ⟨#[]⟩] 25 (0, 0))) := fun W hW => (hW.block _ hz0).trans HR0.out
  have KR : Hid (∀ W, Below W0.heap.size W0 W → ResAt W w.heap.size) := fun W hW => res_at ((hW.block _ hz0).trans HR0.out)
  have B0d : Below W0.heap.size W0 W0.drew := Below.drew (Below.refl _ _)
  go_region_held3 (fun w' => (w'.cell? ⟨b, o, none⟩ = some (.int .i64 2) ∧ w'.cell? ⟨b, o + 1, none⟩ = some (.int .i64 n) ∧ w'.cell? ⟨b, o + 2, none⟩ = some (.int .i64 d) ∧ w'.cell? ⟨b, o + 3, none⟩ = some (.string noS)) ∧ (w'.cell? ⟨b, o + 4, none⟩ = some (.int .i64 2) ∧ w'.cell? ⟨b, o + 5, none⟩ = some (.int .i64 n') ∧ w'.cell? ⟨b, o + 6, none⟩ = some (.int .i64 d') ∧ w'.cell? ⟨b, o + 7, none⟩ = some (.string noS)))
    (first | exact K.out _ (below4 (btr B0 B4) _ (Nat.le_refl w.heap.size) _ _ _ _) | exact K.out _ (btr B0 B4) | exact K.out _ (btr B0 B3) | exact K.out _ (btr B0 B2) | exact K.out _ (btr B0 B1) | exact K.out _ (btr B0 B0d) | exact K.out _ B0) (first
      | (go_at_call 57; (with_reducible refine (HQ1.out _).mono ?_); rintro e w1 ⟨u, rfl, hu, hb1⟩; have B1 : Below W0.heap.size W0 w1 := (by first | exact btr B2 hb1 | exact btr B0d hb1))
      | (go_at_call 57; (with_reducible refine (HQ2.out _).mono ?_); rintro e w2 ⟨u', rfl, hu', hb2⟩; have B2 : Below W0.heap.size W0 w2 := (by first | exact btr B1 hb2 | exact btr B0d hb2))
      | (go_at_call 112; refine (HO.out _ u u' (by first | exact hu.below hb2 | exact hu) (by first | exact hu'.below hb1 | exact hu')).mono ?_; rintro e w3 ⟨q, rfl, hq, hb3⟩; have B3 : Below W0.heap.size W0 w3 := (by first | exact btr B2 hb3 | exact btr B1 hb3))
      | (go_at_call 109; refine (HV.out _ q hq).mono ?_; rintro e w4 ⟨rfl, hb4⟩; have B4 : Below W0.heap.size W0 w4 := btr B3 hb4; obtain ⟨r0, r1, r2, r3, f0, f1, f2, f3⟩ := KR.out _ B4))
  all_goals
    go_wp2
    exact bodyPost_ret (v := V rk rn rd noS) (results_cell_row Tryz.results118 _ _ w.heap.size 25 _ (0, 0) _ rfl (put4 (KH.out _ B4) _ _ _ _) Tryz.underlying25 rfl (by rw [info_v4]; rfl)) rfl ⟨rfl, below4 (btr B0 B4) _ (Nat.le_refl _) _ _ _ _⟩

set_option maxRecDepth 100000 in
set_option maxHeartbeats 4000000 in
theorem g_mul (w : World) (b o c : Nat) (n d n' d' : Int) (hb : b < w.heap.size) (h1 : ValIn w b o 2 n d noS) (h2 : ValIn w b (o + 4) 2 n' d' noS) (l1 : Low n d) (l2 : Low n' d') :
    Calls Tryz.prog 119 #[.slice (some ⟨b, o, none⟩) 2 c] w fun e w' => e = .returned (V (valK (qV n d * qV n' d')) (valN (qV n d * qV n' d')) (valD (qV n d * qV n' d')) noS) ∧ Below w.heap.size w w' := by
  have K : Hid (∀ W, Below w.heap.size w W → (W.cell? ⟨b, o, none⟩ = some (.int .i64 2) ∧ W.cell? ⟨b, o + 1, none⟩ = some (.int .i64 n) ∧ W.cell? ⟨b, o + 2, none⟩ = some (.int .i64 d) ∧ W.cell? ⟨b, o + 3, none⟩ = some (.string noS)) ∧ (W.cell? ⟨b, o + 4, none⟩ = some (.int .i64 2) ∧ W.cell? ⟨b, o + 5, none⟩ = some (.int .i64 n') ∧ W.cell? ⟨b, o + 6, none⟩ = some (.int .i64 d') ∧ W.cell? ⟨b, o + 7, none⟩ = some (.string noS))) := fun W hW => ⟨h1.below hW hb, h2.below hW hb⟩
  have HR0 := Lib.hid (heap_alloc_new w (.cells #[.int .i64 0, .int .i64 0, .int .i64 0, .string ⟨#[]⟩] 25))
  have HQ1 := Lib.hid (fun W => v_rat W n d l1)
  have HQ2 := Lib.hid (fun W => v_rat W n' d' l2)
  have w1 := ratW_qV l1
  have w2 := ratW_qV l2
  have HO : Hid (∀ W u u', RatV W u (qV n d) → RatV W u' (qV n' d') → Calls Tryz.prog 120 #[u, u'] W (RatVRet W (qV n d * qV n' d'))) := fun W u u' a b => v_Mul W u u' _ _ a b (w1.mono (by omega)) (w2.mono (by omega))
  have HV := Lib.hid (fun W u (h : RatV W u (qV n d * qV n' d')) => v_Value W u _ h)
  generalize hk : valK (qV n d * qV n' d') = rk at *
  generalize hn : valN (qV n d * qV n' d') = rn at *
  generalize hd : valD (qV n d * qV n' d') = rd at *
  clear hk hn hd
  generalize (qV n d * qV n' d') = qr at *
  generalize qV n d = q1 at *
  generalize qV n' d' = q2 at *
  clear h1 h2 l1 l2 w1 w2
  go_enter Tryz.func119, Tryz.ntmps119
  go_wp2_with fail
  generalize HW : w.alloc (.cells #[.int .i64 0, .int .i64 0, .int .i64 0, .string ⟨#[]⟩] 25) = W0 at *
  have B0 : Below w.heap.size w W0 := by rw [← HW]; exact (Below.refl _ _).alloc (Nat.le_refl _) _
  have hz0 : w.heap.size < W0.heap.size := by rw [← HW]; simp
  clear HW
  have KH : Hid (∀ W, Below W0.heap.size W0 W → W.heap[w.heap.size]? = some (.cells #[.int .i64 0, .int .i64 0, .int .i64 0, .string ⟨#[]⟩] 25 (0, 0))) := fun W hW => (hW.block _ hz0).trans HR0.out
  have KR : Hid (∀ W, Below W0.heap.size W0 W → ResAt W w.heap.size) := fun W hW => res_at ((hW.block _ hz0).trans HR0.out)
  have B0d : Below W0.heap.size W0 W0.drew := Below.drew (Below.refl _ _)
  go_region_held3 (fun w' => (w'.cell? ⟨b, o, none⟩ = some (.int .i64 2) ∧ w'.cell? ⟨b, o + 1, none⟩ = some (.int .i64 n) ∧ w'.cell? ⟨b, o + 2, none⟩ = some (.int .i64 d) ∧ w'.cell? ⟨b, o + 3, none⟩ = some (.string noS)) ∧ (w'.cell? ⟨b, o + 4, none⟩ = some (.int .i64 2) ∧ w'.cell? ⟨b, o + 5, none⟩ = some (.int .i64 n') ∧ w'.cell? ⟨b, o + 6, none⟩ = some (.int .i64 d') ∧ w'.cell? ⟨b, o + 7, none⟩ = some (.string noS)))
    (first | exact K.out _ (below4 (btr B0 B4) _ (Nat.le_refl w.heap.size) _ _ _ _) | exact K.out _ (btr B0 B4) | exact K.out _ (btr B0 B3) | exact K.out _ (btr B0 B2) | exact K.out _ (btr B0 B1) | exact K.out _ (btr B0 B0d) | exact K.out _ B0) (first
      | (go_at_call 57; (with_reducible refine (HQ1.out _).mono ?_); rintro e w1 ⟨u, rfl, hu, hb1⟩; have B1 : Below W0.heap.size W0 w1 := (by first | exact btr B2 hb1 | exact btr B0d hb1))
      | (go_at_call 57; (with_reducible refine (HQ2.out _).mono ?_); rintro e w2 ⟨u', rfl, hu', hb2⟩; have B2 : Below W0.heap.size W0 w2 := (by first | exact btr B1 hb2 | exact btr B0d hb2))
      | (go_at_call 120; refine (HO.out _ u u' (by first | exact hu.below hb2 | exact hu) (by first | exact hu'.below hb1 | exact hu')).mono ?_; rintro e w3 ⟨q, rfl, hq, hb3⟩; have B3 : Below W0.heap.size W0 w3 := (by first | exact btr B2 hb3 | exact btr B1 hb3))
      | (go_at_call 109; refine (HV.out _ q hq).mono ?_; rintro e w4 ⟨rfl, hb4⟩; have B4 : Below W0.heap.size W0 w4 := btr B3 hb4; obtain ⟨r0, r1, r2, r3, f0, f1, f2, f3⟩ := KR.out _ B4))
  all_goals
    go_wp2
    exact bodyPost_ret (v := V rk rn rd noS) (results_cell_row Tryz.results119 _ _ w.heap.size 25 _ (0, 0) _ rfl (put4 (KH.out _ B4) _ _ _ _) Tryz.underlying25 rfl (by rw [info_v4]; rfl)) rfl ⟨rfl, below4 (btr B0 B4) _ (Nat.le_refl _) _ _ _ _⟩

set_option maxRecDepth 100000 in
set_option maxHeartbeats 4000000 in
theorem g_not (w : World) (b o c : Nat) (n d : Int) (s : ByteArray) (hb : b < w.heap.size) (h1 : ValIn w b o 1 n d s) :
    Calls Tryz.prog 110 #[.slice (some ⟨b, o, none⟩) 1 c] w fun e w' => e = .returned (V 1 (bit (n == 0)) 0 noS) ∧ Below w.heap.size w w' := by
  have K : Hid (∀ W, Below w.heap.size w W → (W.cell? ⟨b, o, none⟩ = some (.int .i64 1) ∧ W.cell? ⟨b, o + 1, none⟩ = some (.int .i64 n) ∧ W.cell? ⟨b, o + 2, none⟩ = some (.int .i64 d) ∧ W.cell? ⟨b, o + 3, none⟩ = some (.string s))) := fun W hW => h1.below hW hb
  have HR0 := Lib.hid (heap_alloc_new w (.cells #[.int .i64 0, .int .i64 0, .int .i64 0, .string ⟨#[]⟩] 25))
  have HV := Lib.hid (fun W => c_truth (n == 0) W)
  generalize bit (n == 0) = rn at *
  clear h1
  obtain ⟨a0, a1, a2, a3⟩ := K.out _ (Below.refl _ _)
  go_enter Tryz.func110, Tryz.ntmps110
  go_wp2_with fail
  generalize HW : w.alloc (.cells #[.int .i64 0, .int .i64 0, .int .i64 0, .string ⟨#[]⟩] 25) = W0 at *
  have B0 : Below w.heap.size w W0 := by rw [← HW]; exact (Below.refl _ _).alloc (Nat.le_refl _) _
  have hz0 : w.heap.size < W0.heap.size := by rw [← HW]; simp
  clear HW a0 a1 a2 a3
  have KH : Hid (∀ W, Below W0.heap.size W0 W → W.heap[w.heap.size]? = some (.cells #[.int .i64 0, .int .i64 0, .int .i64 0, .string ⟨#[]⟩] 25 (0, 0))) := fun W hW => (hW.block _ hz0).trans HR0.out
  have KR : Hid (∀ W, Below W0.heap.size W0 W → ResAt W w.heap.size) := fun W hW => res_at ((hW.block _ hz0).trans HR0.out)
  refine (HV.out _).mono ?_
  rintro e w4 ⟨rfl, B4⟩
  obtain ⟨r0, r1, r2, r3, f0, f1, f2, f3⟩ := KR.out _ B4
  all_goals
    go_wp2
    exact bodyPost_ret (v := V 1 rn 0 noS) (results_cell_row Tryz.results110 _ _ w.heap.size 25 _ (0, 0) _ rfl (put4 (KH.out _ B4) _ _ _ _) Tryz.underlying25 rfl (by rw [info_v4]; rfl)) rfl ⟨rfl, below4 (btr B0 B4) _ (Nat.le_refl _) _ _ _ _⟩

set_option maxRecDepth 100000 in
set_option maxHeartbeats 4000000 in
theorem g_missing (w : World) (b o c : Nat) (k n d : Int) (s : ByteArray) (hb : b < w.heap.size) (h1 : ValIn w b o k n d s) :
    Calls Tryz.prog 115 #[.slice (some ⟨b, o, none⟩) 1 c] w fun e w' => e = .returned (V 1 (bit (k == 0)) 0 noS) ∧ Below w.heap.size w w' := by
  have K : Hid (∀ W, Below w.heap.size w W → (W.cell? ⟨b, o, none⟩ = some (.int .i64 k) ∧ W.cell? ⟨b, o + 1, none⟩ = some (.int .i64 n) ∧ W.cell? ⟨b, o + 2, none⟩ = some (.int .i64 d) ∧ W.cell? ⟨b, o + 3, none⟩ = some (.string s))) := fun W hW => h1.below hW hb
  have HR0 := Lib.hid (heap_alloc_new w (.cells #[.int .i64 0, .int .i64 0, .int .i64 0, .string ⟨#[]⟩] 25))
  have HV := Lib.hid (fun W => c_truth (k == 0) W)
  have HM := Lib.hid (fun W => c_isMissing k n d s W)
  generalize bit (k == 0) = rn at *
  generalize (k == 0) = mb at *
  clear h1
  obtain ⟨a0, a1, a2, a3⟩ := K.out _ (Below.refl _ _)
  go_enter Tryz.func115, Tryz.ntmps115
  go_wp2_with fail
  generalize HW : w.alloc (.cells #[.int .i64 0, .int .i64 0, .int .i64 0, .string ⟨#[]⟩] 25) = W0 at *
  have B0 : Below w.heap.size w W0 := by rw [← HW]; exact (Below.refl _ _).alloc (Nat.le_refl _) _
  have hz0 : w.heap.size < W0.heap.size := by rw [← HW]; simp
  clear HW a0 a1 a2 a3
  have KH : Hid (∀ W, Below W0.heap.size W0 W → W.heap[w.heap.size]? = some (.cells #[.int .i64 0, .int .i64 0, .int .i64 0, .string ⟨#[]⟩] 25 (0, 0))) := fun W hW => (hW.block _ hz0).trans HR0.out
  have KR : Hid (∀ W, Below W0.heap.size W0 W → ResAt W w.heap.size) := fun W hW => res_at ((hW.block _ hz0).trans HR0.out)
  refine (HM.out _).mono ?_
  rintro e w1 ⟨rfl, B1⟩
  go_wp2_with fail
  refine (HV.out _).mono ?_
  rintro e w4 ⟨rfl, hb4⟩
  have B4 := btr B1 hb4
  obtain ⟨r0, r1, r2, r3, f0, f1, f2, f3⟩ := KR.out _ B4
  all_goals
    go_wp2
    exact bodyPost_ret (v := V 1 rn 0 noS) (results_cell_row Tryz.results115 _ _ w.heap.size 25 _ (0, 0) _ rfl (put4 (KH.out _ B4) _ _ _ _) Tryz.underlying25 rfl (by rw [info_v4]; rfl)) rfl ⟨rfl, below4 (btr B0 B4) _ (Nat.le_refl _) _ _ _ _⟩

set_option maxRecDepth 100000 in
set_option maxHeartbeats 4000000 in
theorem g_eqE (w : World) (b o c : Nat) (k n d : Int) (s : ByteArray) (k' n' d' : Int) (s' : ByteArray) (hb : b < w.heap.size) (h1 : ValIn w b o k n d s) (h2 : ValIn w b (o + 4) k' n' d' s') :
    ∀ W, Below w.heap.size w W → Calls Tryz.prog 122 #[.slice (some ⟨b, o, none⟩) 2 c] W fun e w' => e = .returned (V 1 (bit ((ordV k n d s k' n' d' s') == 0)) 0 noS) ∧ Below W.heap.size W w' := by
  intro W hW
  replace h1 := h1.below hW hb
  replace h2 := h2.below hW hb
  replace hb := Nat.lt_of_lt_of_le hb hW.size
  clear hW w
  revert W
  intro w h1 h2 hb
  have K : Hid (∀ W, Below w.heap.size w W → (W.cell? ⟨b, o, none⟩ = some (.int .i64 k) ∧ W.cell? ⟨b, o + 1, none⟩ = some (.int .i64 n) ∧ W.cell? ⟨b, o + 2, none⟩ = some (.int .i64 d) ∧ W.cell? ⟨b, o + 3, none⟩ = some (.string s)) ∧ (W.cell? ⟨b, o + 4, none⟩ = some (.int .i64 k') ∧ W.cell? ⟨b, o + 5, none⟩ = some (.int .i64 n') ∧ W.cell? ⟨b, o + 6, none⟩ = some (.int .i64 d') ∧ W.cell? ⟨b, o + 7, none⟩ = some (.string s'))) := fun W hW => ⟨h1.below hW hb, h2.below hW hb⟩
  have HR0 := Lib.hid (heap_alloc_new w (.cells #[.int .i64 0, .int .i64 0, .int .i64 0, .string ⟨#[]⟩] 25))
  have HO := Lib.hid (fun W => o_all W k n d s k' n' d' s')
  generalize (ordV k n d s k' n' d' s') = z at *
  have HV := Lib.hid (fun W => c_truth (z == 0) W)
  generalize hrn : bit (z == 0) = rn at *
  generalize hrb : (z == 0) = rb at *
  clear h1 h2 hrn
  go_enter Tryz.func122, Tryz.ntmps122
  go_wp2_with fail
  generalize HW : w.alloc (.cells #[.int .i64 0, .int .i64 0, .int .i64 0, .string ⟨#[]⟩] 25) = W0 at *
  have B0 : Below w.heap.size w W0 := by rw [← HW]; exact (Below.refl _ _).alloc (Nat.le_refl _) _
  have hz0 : w.heap.size < W0.heap.size := by rw [← HW]; simp
  clear HW
  have KH : Hid (∀ W, Below W0.heap.size W0 W → W.heap[w.heap.size]? = some (.cells #[.int .i64 0, .int .i64 0, .int .i64 0, .string ⟨#[]⟩] 25 (0, 0))) := fun W hW => (hW.block _ hz0).trans HR0.out
  have KR : Hid (∀ W, Below W0.heap.size W0 W → ResAt W w.heap.size) := fun W hW => res_at ((hW.block _ hz0).trans HR0.out)
  have B0d : Below W0.heap.size W0 W0.drew := Below.drew (Below.refl _ _)
  go_region_held3 (fun w' => (w'.cell? ⟨b, o, none⟩ = some (.int .i64 k) ∧ w'.cell? ⟨b, o + 1, none⟩ = some (.int .i64 n) ∧ w'.cell? ⟨b, o + 2, none⟩ = some (.int .i64 d) ∧ w'.cell? ⟨b, o + 3, none⟩ = some (.string s)) ∧ (w'.cell? ⟨b, o + 4, none⟩ = some (.int .i64 k') ∧ w'.cell? ⟨b, o + 5, none⟩ = some (.int .i64 n') ∧ w'.cell? ⟨b, o + 6, none⟩ = some (.int .i64 d') ∧ w'.cell? ⟨b, o + 7, none⟩ = some (.string s')))
    (first | exact K.out _ (below4 (btr B0 B4) _ (Nat.le_refl w.heap.size) _ _ _ _) | exact K.out _ (btr B0 B4) | exact K.out _ (btr B0 B3) | exact K.out _ (btr B0 B2) | exact K.out _ (btr B0 B1) | exact K.out _ (btr B0 B0d) | exact K.out _ B0) (first
      | (go_at_call 14; refine (HO.out _).mono ?_; rintro e w1 ⟨rfl, hb1⟩; have B1 : Below W0.heap.size W0 w1 := btr B0d hb1)
      | (go_at_call 62; (first | (refine (HV.out _).mono ?_) | (rw [hrb]; refine (HV.out _).mono ?_)); rintro e w4 ⟨rfl, hb4⟩; have B4 : Below W0.heap.size W0 w4 := btr B1 hb4; obtain ⟨r0, r1, r2, r3, f0, f1, f2, f3⟩ := KR.out _ B4))
  all_goals
    go_wp2
    exact bodyPost_ret (v := V 1 rn 0 noS) (results_cell_row Tryz.results122 _ _ w.heap.size 25 _ (0, 0) _ rfl (put4 (KH.out _ B4) _ _ _ _) Tryz.underlying25 rfl (by rw [info_v4]; rfl)) rfl ⟨rfl, below4 (btr B0 B4) _ (Nat.le_refl _) _ _ _ _⟩

set_option maxRecDepth 100000 in
set_option maxHeartbeats 4000000 in
theorem g_neE (w : World) (b o c : Nat) (k n d : Int) (s : ByteArray) (k' n' d' : Int) (s' : ByteArray) (hb : b < w.heap.size) (h1 : ValIn w b o k n d s) (h2 : ValIn w b (o + 4) k' n' d' s') :
    ∀ W, Below w.heap.size w W → Calls Tryz.prog 123 #[.slice (some ⟨b, o, none⟩) 2 c] W fun e w' => e = .returned (V 1 (bit ((ordV k n d s k' n' d' s') != 0)) 0 noS) ∧ Below W.heap.size W w' := by
  intro W hW
  replace h1 := h1.below hW hb
  replace h2 := h2.below hW hb
  replace hb := Nat.lt_of_lt_of_le hb hW.size
  clear hW w
  revert W
  intro w h1 h2 hb
  have K : Hid (∀ W, Below w.heap.size w W → (W.cell? ⟨b, o, none⟩ = some (.int .i64 k) ∧ W.cell? ⟨b, o + 1, none⟩ = some (.int .i64 n) ∧ W.cell? ⟨b, o + 2, none⟩ = some (.int .i64 d) ∧ W.cell? ⟨b, o + 3, none⟩ = some (.string s)) ∧ (W.cell? ⟨b, o + 4, none⟩ = some (.int .i64 k') ∧ W.cell? ⟨b, o + 5, none⟩ = some (.int .i64 n') ∧ W.cell? ⟨b, o + 6, none⟩ = some (.int .i64 d') ∧ W.cell? ⟨b, o + 7, none⟩ = some (.string s'))) := fun W hW => ⟨h1.below hW hb, h2.below hW hb⟩
  have HR0 := Lib.hid (heap_alloc_new w (.cells #[.int .i64 0, .int .i64 0, .int .i64 0, .string ⟨#[]⟩] 25))
  have HO := Lib.hid (fun W => o_all W k n d s k' n' d' s')
  generalize (ordV k n d s k' n' d' s') = z at *
  have HV := Lib.hid (fun W => c_truth (z != 0) W)
  generalize hrn : bit (z != 0) = rn at *
  generalize hrb : (z != 0) = rb at *
  clear h1 h2 hrn
  go_enter Tryz.func123, Tryz.ntmps123
  go_wp2_with fail
  generalize HW : w.alloc (.cells #[.int .i64 0, .int .i64 0, .int .i64 0, .string ⟨#[]⟩] 25) = W0 at *
  have B0 : Below w.heap.size w W0 := by rw [← HW]; exact (Below.refl _ _).alloc (Nat.le_refl _) _
  have hz0 : w.heap.size < W0.heap.size := by rw [← HW]; simp
  clear HW
  have KH : Hid (∀ W, Below W0.heap.size W0 W → W.heap[w.heap.size]? = some (.cells #[.int .i64 0, .int .i64 0, .int .i64 0, .string ⟨#[]⟩] 25 (0, 0))) := fun W hW => (hW.block _ hz0).trans HR0.out
  have KR : Hid (∀ W, Below W0.heap.size W0 W → ResAt W w.heap.size) := fun W hW => res_at ((hW.block _ hz0).trans HR0.out)
  have B0d : Below W0.heap.size W0 W0.drew := Below.drew (Below.refl _ _)
  go_region_held3 (fun w' => (w'.cell? ⟨b, o, none⟩ = some (.int .i64 k) ∧ w'.cell? ⟨b, o + 1, none⟩ = some (.int .i64 n) ∧ w'.cell? ⟨b, o + 2, none⟩ = some (.int .i64 d) ∧ w'.cell? ⟨b, o + 3, none⟩ = some (.string s)) ∧ (w'.cell? ⟨b, o + 4, none⟩ = some (.int .i64 k') ∧ w'.cell? ⟨b, o + 5, none⟩ = some (.int .i64 n') ∧ w'.cell? ⟨b, o + 6, none⟩ = some (.int .i64 d') ∧ w'.cell? ⟨b, o + 7, none⟩ = some (.string s')))
    (first | exact K.out _ (below4 (btr B0 B4) _ (Nat.le_refl w.heap.size) _ _ _ _) | exact K.out _ (btr B0 B4) | exact K.out _ (btr B0 B3) | exact K.out _ (btr B0 B2) | exact K.out _ (btr B0 B1) | exact K.out _ (btr B0 B0d) | exact K.out _ B0) (first
      | (go_at_call 14; refine (HO.out _).mono ?_; rintro e w1 ⟨rfl, hb1⟩; have B1 : Below W0.heap.size W0 w1 := btr B0d hb1)
      | (go_at_call 62; (first | (refine (HV.out _).mono ?_) | (rw [hrb]; refine (HV.out _).mono ?_)); rintro e w4 ⟨rfl, hb4⟩; have B4 : Below W0.heap.size W0 w4 := btr B1 hb4; obtain ⟨r0, r1, r2, r3, f0, f1, f2, f3⟩ := KR.out _ B4))
  all_goals
    go_wp2
    exact bodyPost_ret (v := V 1 rn 0 noS) (results_cell_row Tryz.results123 _ _ w.heap.size 25 _ (0, 0) _ rfl (put4 (KH.out _ B4) _ _ _ _) Tryz.underlying25 rfl (by rw [info_v4]; rfl)) rfl ⟨rfl, below4 (btr B0 B4) _ (Nat.le_refl _) _ _ _ _⟩

set_option maxRecDepth 100000 in
set_option maxHeartbeats 4000000 in
theorem g_ltE (w : World) (b o c : Nat) (k n d : Int) (s : ByteArray) (k' n' d' : Int) (s' : ByteArray) (hb : b < w.heap.size) (h1 : ValIn w b o k n d s) (h2 : ValIn w b (o + 4) k' n' d' s') :
    ∀ W, Below w.heap.size w W → Calls Tryz.prog 124 #[.slice (some ⟨b, o, none⟩) 2 c] W fun e w' => e = .returned (V 1 (bit (decide ((ordV k n d s k' n' d' s') < 0))) 0 noS) ∧ Below W.heap.size W w' := by
  intro W hW
  replace h1 := h1.below hW hb
  replace h2 := h2.below hW hb
  replace hb := Nat.lt_of_lt_of_le hb hW.size
  clear hW w
  revert W
  intro w h1 h2 hb
  have K : Hid (∀ W, Below w.heap.size w W → (W.cell? ⟨b, o, none⟩ = some (.int .i64 k) ∧ W.cell? ⟨b, o + 1, none⟩ = some (.int .i64 n) ∧ W.cell? ⟨b, o + 2, none⟩ = some (.int .i64 d) ∧ W.cell? ⟨b, o + 3, none⟩ = some (.string s)) ∧ (W.cell? ⟨b, o + 4, none⟩ = some (.int .i64 k') ∧ W.cell? ⟨b, o + 5, none⟩ = some (.int .i64 n') ∧ W.cell? ⟨b, o + 6, none⟩ = some (.int .i64 d') ∧ W.cell? ⟨b, o + 7, none⟩ = some (.string s'))) := fun W hW => ⟨h1.below hW hb, h2.below hW hb⟩
  have HR0 := Lib.hid (heap_alloc_new w (.cells #[.int .i64 0, .int .i64 0, .int .i64 0, .string ⟨#[]⟩] 25))
  have HO := Lib.hid (fun W => o_all W k n d s k' n' d' s')
  generalize (ordV k n d s k' n' d' s') = z at *
  have HV := Lib.hid (fun W => c_truth (decide (z < 0)) W)
  generalize hrn : bit (decide (z < 0)) = rn at *
  generalize hrb : (decide (z < 0)) = rb at *
  clear h1 h2 hrn
  go_enter Tryz.func124, Tryz.ntmps124
  go_wp2_with fail
  generalize HW : w.alloc (.cells #[.int .i64 0, .int .i64 0, .int .i64 0, .string ⟨#[]⟩] 25) = W0 at *
  have B0 : Below w.heap.size w W0 := by rw [← HW]; exact (Below.refl _ _).alloc (Nat.le_refl _) _
  have hz0 : w.heap.size < W0.heap.size := by rw [← HW]; simp
  clear HW
  have KH : Hid (∀ W, Below W0.heap.size W0 W → W.heap[w.heap.size]? = some (.cells #[.int .i64 0, .int .i64 0, .int .i64 0, .string ⟨#[]⟩] 25 (0, 0))) := fun W hW => (hW.block _ hz0).trans HR0.out
  have KR : Hid (∀ W, Below W0.heap.size W0 W → ResAt W w.heap.size) := fun W hW => res_at ((hW.block _ hz0).trans HR0.out)
  have B0d : Below W0.heap.size W0 W0.drew := Below.drew (Below.refl _ _)
  go_region_held3 (fun w' => (w'.cell? ⟨b, o, none⟩ = some (.int .i64 k) ∧ w'.cell? ⟨b, o + 1, none⟩ = some (.int .i64 n) ∧ w'.cell? ⟨b, o + 2, none⟩ = some (.int .i64 d) ∧ w'.cell? ⟨b, o + 3, none⟩ = some (.string s)) ∧ (w'.cell? ⟨b, o + 4, none⟩ = some (.int .i64 k') ∧ w'.cell? ⟨b, o + 5, none⟩ = some (.int .i64 n') ∧ w'.cell? ⟨b, o + 6, none⟩ = some (.int .i64 d') ∧ w'.cell? ⟨b, o + 7, none⟩ = some (.string s')))
    (first | exact K.out _ (below4 (btr B0 B4) _ (Nat.le_refl w.heap.size) _ _ _ _) | exact K.out _ (btr B0 B4) | exact K.out _ (btr B0 B3) | exact K.out _ (btr B0 B2) | exact K.out _ (btr B0 B1) | exact K.out _ (btr B0 B0d) | exact K.out _ B0) (first
      | (go_at_call 14; refine (HO.out _).mono ?_; rintro e w1 ⟨rfl, hb1⟩; have B1 : Below W0.heap.size W0 w1 := btr B0d hb1)
      | (go_at_call 62; (first | (refine (HV.out _).mono ?_) | (rw [hrb]; refine (HV.out _).mono ?_)); rintro e w4 ⟨rfl, hb4⟩; have B4 : Below W0.heap.size W0 w4 := btr B1 hb4; obtain ⟨r0, r1, r2, r3, f0, f1, f2, f3⟩ := KR.out _ B4))
  all_goals
    go_wp2
    exact bodyPost_ret (v := V 1 rn 0 noS) (results_cell_row Tryz.results124 _ _ w.heap.size 25 _ (0, 0) _ rfl (put4 (KH.out _ B4) _ _ _ _) Tryz.underlying25 rfl (by rw [info_v4]; rfl)) rfl ⟨rfl, below4 (btr B0 B4) _ (Nat.le_refl _) _ _ _ _⟩

set_option maxRecDepth 100000 in
set_option maxHeartbeats 4000000 in
theorem g_leE (w : World) (b o c : Nat) (k n d : Int) (s : ByteArray) (k' n' d' : Int) (s' : ByteArray) (hb : b < w.heap.size) (h1 : ValIn w b o k n d s) (h2 : ValIn w b (o + 4) k' n' d' s') :
    ∀ W, Below w.heap.size w W → Calls Tryz.prog 125 #[.slice (some ⟨b, o, none⟩) 2 c] W fun e w' => e = .returned (V 1 (bit (decide ((ordV k n d s k' n' d' s') ≤ 0))) 0 noS) ∧ Below W.heap.size W w' := by
  intro W hW
  replace h1 := h1.below hW hb
  replace h2 := h2.below hW hb
  replace hb := Nat.lt_of_lt_of_le hb hW.size
  clear hW w
  revert W
  intro w h1 h2 hb
  have K : Hid (∀ W, Below w.heap.size w W → (W.cell? ⟨b, o, none⟩ = some (.int .i64 k) ∧ W.cell? ⟨b, o + 1, none⟩ = some (.int .i64 n) ∧ W.cell? ⟨b, o + 2, none⟩ = some (.int .i64 d) ∧ W.cell? ⟨b, o + 3, none⟩ = some (.string s)) ∧ (W.cell? ⟨b, o + 4, none⟩ = some (.int .i64 k') ∧ W.cell? ⟨b, o + 5, none⟩ = some (.int .i64 n') ∧ W.cell? ⟨b, o + 6, none⟩ = some (.int .i64 d') ∧ W.cell? ⟨b, o + 7, none⟩ = some (.string s'))) := fun W hW => ⟨h1.below hW hb, h2.below hW hb⟩
  have HR0 := Lib.hid (heap_alloc_new w (.cells #[.int .i64 0, .int .i64 0, .int .i64 0, .string ⟨#[]⟩] 25))
  have HO := Lib.hid (fun W => o_all W k n d s k' n' d' s')
  generalize (ordV k n d s k' n' d' s') = z at *
  have HV := Lib.hid (fun W => c_truth (decide (z ≤ 0)) W)
  generalize hrn : bit (decide (z ≤ 0)) = rn at *
  generalize hrb : (decide (z ≤ 0)) = rb at *
  clear h1 h2 hrn
  go_enter Tryz.func125, Tryz.ntmps125
  go_wp2_with fail
  generalize HW : w.alloc (.cells #[.int .i64 0, .int .i64 0, .int .i64 0, .string ⟨#[]⟩] 25) = W0 at *
  have B0 : Below w.heap.size w W0 := by rw [← HW]; exact (Below.refl _ _).alloc (Nat.le_refl _) _
  have hz0 : w.heap.size < W0.heap.size := by rw [← HW]; simp
  clear HW
  have KH : Hid (∀ W, Below W0.heap.size W0 W → W.heap[w.heap.size]? = some (.cells #[.int .i64 0, .int .i64 0, .int .i64 0, .string ⟨#[]⟩] 25 (0, 0))) := fun W hW => (hW.block _ hz0).trans HR0.out
  have KR : Hid (∀ W, Below W0.heap.size W0 W → ResAt W w.heap.size) := fun W hW => res_at ((hW.block _ hz0).trans HR0.out)
  have B0d : Below W0.heap.size W0 W0.drew := Below.drew (Below.refl _ _)
  go_region_held3 (fun w' => (w'.cell? ⟨b, o, none⟩ = some (.int .i64 k) ∧ w'.cell? ⟨b, o + 1, none⟩ = some (.int .i64 n) ∧ w'.cell? ⟨b, o + 2, none⟩ = some (.int .i64 d) ∧ w'.cell? ⟨b, o + 3, none⟩ = some (.string s)) ∧ (w'.cell? ⟨b, o + 4, none⟩ = some (.int .i64 k') ∧ w'.cell? ⟨b, o + 5, none⟩ = some (.int .i64 n') ∧ w'.cell? ⟨b, o + 6, none⟩ = some (.int .i64 d') ∧ w'.cell? ⟨b, o + 7, none⟩ = some (.string s')))
    (first | exact K.out _ (below4 (btr B0 B4) _ (Nat.le_refl w.heap.size) _ _ _ _) | exact K.out _ (btr B0 B4) | exact K.out _ (btr B0 B3) | exact K.out _ (btr B0 B2) | exact K.out _ (btr B0 B1) | exact K.out _ (btr B0 B0d) | exact K.out _ B0) (first
      | (go_at_call 14; refine (HO.out _).mono ?_; rintro e w1 ⟨rfl, hb1⟩; have B1 : Below W0.heap.size W0 w1 := btr B0d hb1)
      | (go_at_call 62; (first | (refine (HV.out _).mono ?_) | (rw [hrb]; refine (HV.out _).mono ?_)); rintro e w4 ⟨rfl, hb4⟩; have B4 : Below W0.heap.size W0 w4 := btr B1 hb4; obtain ⟨r0, r1, r2, r3, f0, f1, f2, f3⟩ := KR.out _ B4))
  all_goals
    go_wp2
    exact bodyPost_ret (v := V 1 rn 0 noS) (results_cell_row Tryz.results125 _ _ w.heap.size 25 _ (0, 0) _ rfl (put4 (KH.out _ B4) _ _ _ _) Tryz.underlying25 rfl (by rw [info_v4]; rfl)) rfl ⟨rfl, below4 (btr B0 B4) _ (Nat.le_refl _) _ _ _ _⟩

set_option maxRecDepth 100000 in
set_option maxHeartbeats 4000000 in
theorem g_gtE (w : World) (b o c : Nat) (k n d : Int) (s : ByteArray) (k' n' d' : Int) (s' : ByteArray) (hb : b < w.heap.size) (h1 : ValIn w b o k n d s) (h2 : ValIn w b (o + 4) k' n' d' s') :
    ∀ W, Below w.heap.size w W → Calls Tryz.prog 126 #[.slice (some ⟨b, o, none⟩) 2 c] W fun e w' => e = .returned (V 1 (bit (decide (0 < (ordV k n d s k' n' d' s')))) 0 noS) ∧ Below W.heap.size W w' := by
  intro W hW
  replace h1 := h1.below hW hb
  replace h2 := h2.below hW hb
  replace hb := Nat.lt_of_lt_of_le hb hW.size
  clear hW w
  revert W
  intro w h1 h2 hb
  have K : Hid (∀ W, Below w.heap.size w W → (W.cell? ⟨b, o, none⟩ = some (.int .i64 k) ∧ W.cell? ⟨b, o + 1, none⟩ = some (.int .i64 n) ∧ W.cell? ⟨b, o + 2, none⟩ = some (.int .i64 d) ∧ W.cell? ⟨b, o + 3, none⟩ = some (.string s)) ∧ (W.cell? ⟨b, o + 4, none⟩ = some (.int .i64 k') ∧ W.cell? ⟨b, o + 5, none⟩ = some (.int .i64 n') ∧ W.cell? ⟨b, o + 6, none⟩ = some (.int .i64 d') ∧ W.cell? ⟨b, o + 7, none⟩ = some (.string s'))) := fun W hW => ⟨h1.below hW hb, h2.below hW hb⟩
  have HR0 := Lib.hid (heap_alloc_new w (.cells #[.int .i64 0, .int .i64 0, .int .i64 0, .string ⟨#[]⟩] 25))
  have HO := Lib.hid (fun W => o_all W k n d s k' n' d' s')
  generalize (ordV k n d s k' n' d' s') = z at *
  have HV := Lib.hid (fun W => c_truth (decide (0 < z)) W)
  generalize hrn : bit (decide (0 < z)) = rn at *
  generalize hrb : (decide (0 < z)) = rb at *
  clear h1 h2 hrn
  go_enter Tryz.func126, Tryz.ntmps126
  go_wp2_with fail
  generalize HW : w.alloc (.cells #[.int .i64 0, .int .i64 0, .int .i64 0, .string ⟨#[]⟩] 25) = W0 at *
  have B0 : Below w.heap.size w W0 := by rw [← HW]; exact (Below.refl _ _).alloc (Nat.le_refl _) _
  have hz0 : w.heap.size < W0.heap.size := by rw [← HW]; simp
  clear HW
  have KH : Hid (∀ W, Below W0.heap.size W0 W → W.heap[w.heap.size]? = some (.cells #[.int .i64 0, .int .i64 0, .int .i64 0, .string ⟨#[]⟩] 25 (0, 0))) := fun W hW => (hW.block _ hz0).trans HR0.out
  have KR : Hid (∀ W, Below W0.heap.size W0 W → ResAt W w.heap.size) := fun W hW => res_at ((hW.block _ hz0).trans HR0.out)
  have B0d : Below W0.heap.size W0 W0.drew := Below.drew (Below.refl _ _)
  go_region_held3 (fun w' => (w'.cell? ⟨b, o, none⟩ = some (.int .i64 k) ∧ w'.cell? ⟨b, o + 1, none⟩ = some (.int .i64 n) ∧ w'.cell? ⟨b, o + 2, none⟩ = some (.int .i64 d) ∧ w'.cell? ⟨b, o + 3, none⟩ = some (.string s)) ∧ (w'.cell? ⟨b, o + 4, none⟩ = some (.int .i64 k') ∧ w'.cell? ⟨b, o + 5, none⟩ = some (.int .i64 n') ∧ w'.cell? ⟨b, o + 6, none⟩ = some (.int .i64 d') ∧ w'.cell? ⟨b, o + 7, none⟩ = some (.string s')))
    (first | exact K.out _ (below4 (btr B0 B4) _ (Nat.le_refl w.heap.size) _ _ _ _) | exact K.out _ (btr B0 B4) | exact K.out _ (btr B0 B3) | exact K.out _ (btr B0 B2) | exact K.out _ (btr B0 B1) | exact K.out _ (btr B0 B0d) | exact K.out _ B0) (first
      | (go_at_call 14; refine (HO.out _).mono ?_; rintro e w1 ⟨rfl, hb1⟩; have B1 : Below W0.heap.size W0 w1 := btr B0d hb1)
      | (go_at_call 62; (first | (refine (HV.out _).mono ?_) | (rw [hrb]; refine (HV.out _).mono ?_)); rintro e w4 ⟨rfl, hb4⟩; have B4 : Below W0.heap.size W0 w4 := btr B1 hb4; obtain ⟨r0, r1, r2, r3, f0, f1, f2, f3⟩ := KR.out _ B4))
  all_goals
    go_wp2
    exact bodyPost_ret (v := V 1 rn 0 noS) (results_cell_row Tryz.results126 _ _ w.heap.size 25 _ (0, 0) _ rfl (put4 (KH.out _ B4) _ _ _ _) Tryz.underlying25 rfl (by rw [info_v4]; rfl)) rfl ⟨rfl, below4 (btr B0 B4) _ (Nat.le_refl _) _ _ _ _⟩

set_option maxRecDepth 100000 in
set_option maxHeartbeats 4000000 in
theorem g_geE (w : World) (b o c : Nat) (k n d : Int) (s : ByteArray) (k' n' d' : Int) (s' : ByteArray) (hb : b < w.heap.size) (h1 : ValIn w b o k n d s) (h2 : ValIn w b (o + 4) k' n' d' s') :
    ∀ W, Below w.heap.size w W → Calls Tryz.prog 127 #[.slice (some ⟨b, o, none⟩) 2 c] W fun e w' => e = .returned (V 1 (bit (decide (0 ≤ (ordV k n d s k' n' d' s')))) 0 noS) ∧ Below W.heap.size W w' := by
  intro W hW
  replace h1 := h1.below hW hb
  replace h2 := h2.below hW hb
  replace hb := Nat.lt_of_lt_of_le hb hW.size
  clear hW w
  revert W
  intro w h1 h2 hb
  have K : Hid (∀ W, Below w.heap.size w W → (W.cell? ⟨b, o, none⟩ = some (.int .i64 k) ∧ W.cell? ⟨b, o + 1, none⟩ = some (.int .i64 n) ∧ W.cell? ⟨b, o + 2, none⟩ = some (.int .i64 d) ∧ W.cell? ⟨b, o + 3, none⟩ = some (.string s)) ∧ (W.cell? ⟨b, o + 4, none⟩ = some (.int .i64 k') ∧ W.cell? ⟨b, o + 5, none⟩ = some (.int .i64 n') ∧ W.cell? ⟨b, o + 6, none⟩ = some (.int .i64 d') ∧ W.cell? ⟨b, o + 7, none⟩ = some (.string s'))) := fun W hW => ⟨h1.below hW hb, h2.below hW hb⟩
  have HR0 := Lib.hid (heap_alloc_new w (.cells #[.int .i64 0, .int .i64 0, .int .i64 0, .string ⟨#[]⟩] 25))
  have HO := Lib.hid (fun W => o_all W k n d s k' n' d' s')
  generalize (ordV k n d s k' n' d' s') = z at *
  have HV := Lib.hid (fun W => c_truth (decide (0 ≤ z)) W)
  generalize hrn : bit (decide (0 ≤ z)) = rn at *
  generalize hrb : (decide (0 ≤ z)) = rb at *
  clear h1 h2 hrn
  go_enter Tryz.func127, Tryz.ntmps127
  go_wp2_with fail
  generalize HW : w.alloc (.cells #[.int .i64 0, .int .i64 0, .int .i64 0, .string ⟨#[]⟩] 25) = W0 at *
  have B0 : Below w.heap.size w W0 := by rw [← HW]; exact (Below.refl _ _).alloc (Nat.le_refl _) _
  have hz0 : w.heap.size < W0.heap.size := by rw [← HW]; simp
  clear HW
  have KH : Hid (∀ W, Below W0.heap.size W0 W → W.heap[w.heap.size]? = some (.cells #[.int .i64 0, .int .i64 0, .int .i64 0, .string ⟨#[]⟩] 25 (0, 0))) := fun W hW => (hW.block _ hz0).trans HR0.out
  have KR : Hid (∀ W, Below W0.heap.size W0 W → ResAt W w.heap.size) := fun W hW => res_at ((hW.block _ hz0).trans HR0.out)
  have B0d : Below W0.heap.size W0 W0.drew := Below.drew (Below.refl _ _)
  go_region_held3 (fun w' => (w'.cell? ⟨b, o, none⟩ = some (.int .i64 k) ∧ w'.cell? ⟨b, o + 1, none⟩ = some (.int .i64 n) ∧ w'.cell? ⟨b, o + 2, none⟩ = some (.int .i64 d) ∧ w'.cell? ⟨b, o + 3, none⟩ = some (.string s)) ∧ (w'.cell? ⟨b, o + 4, none⟩ = some (.int .i64 k') ∧ w'.cell? ⟨b, o + 5, none⟩ = some (.int .i64 n') ∧ w'.cell? ⟨b, o + 6, none⟩ = some (.int .i64 d') ∧ w'.cell? ⟨b, o + 7, none⟩ = some (.string s')))
    (first | exact K.out _ (below4 (btr B0 B4) _ (Nat.le_refl w.heap.size) _ _ _ _) | exact K.out _ (btr B0 B4) | exact K.out _ (btr B0 B3) | exact K.out _ (btr B0 B2) | exact K.out _ (btr B0 B1) | exact K.out _ (btr B0 B0d) | exact K.out _ B0) (first
      | (go_at_call 14; refine (HO.out _).mono ?_; rintro e w1 ⟨rfl, hb1⟩; have B1 : Below W0.heap.size W0 w1 := btr B0d hb1)
      | (go_at_call 62; (first | (refine (HV.out _).mono ?_) | (rw [hrb]; refine (HV.out _).mono ?_)); rintro e w4 ⟨rfl, hb4⟩; have B4 : Below W0.heap.size W0 w4 := btr B1 hb4; obtain ⟨r0, r1, r2, r3, f0, f1, f2, f3⟩ := KR.out _ B4))
  all_goals
    go_wp2
    exact bodyPost_ret (v := V 1 rn 0 noS) (results_cell_row Tryz.results127 _ _ w.heap.size 25 _ (0, 0) _ rfl (put4 (KH.out _ B4) _ _ _ _) Tryz.underlying25 rfl (by rw [info_v4]; rfl)) rfl ⟨rfl, below4 (btr B0 B4) _ (Nat.le_refl _) _ _ _ _⟩

end Go.Proofs.YtnfncdalneifnaaGreatDoor
end

/- What the other operations' runs return, whatever the values. -/
section
namespace Go.Proofs.YtnfncdalneifnaaGreatDoor
open Go.RowKit Go.Deep

theorem ratW_zero0 : RatW 0 1 := ⟨by rw [show (0 : Rat).num.natAbs = 0 from rfl, nw_zero]; omega, by rw [show (0 : Rat).den = 1 from rfl, nw_one 1 (by omega) (by decide)]; omega⟩
theorem low01 : Low 0 1 := low1 0 (by omega) (by omega)
theorem qV01 : qV 0 1 = 0 := by
  apply Rat.ext
  · rw [qV_num low01]; rfl
  · rw [qV_den low01]; rfl

set_option maxRecDepth 100000 in
set_option maxHeartbeats 4000000 in
theorem g_neg (w : World) (b o c : Nat) (n d : Int) (hb : b < w.heap.size) (h1 : ValIn w b o 2 n d noS) (l1 : Low n d) :
    Calls Tryz.prog 111 #[.slice (some ⟨b, o, none⟩) 1 c] w fun e w' => e = .returned (V (valK (0 - qV n d)) (valN (0 - qV n d)) (valD (0 - qV n d)) noS) ∧ Below w.heap.size w w' := by
  have K : Hid (∀ W, Below w.heap.size w W → (W.cell? ⟨b, o, none⟩ = some (.int .i64 2) ∧ W.cell? ⟨b, o + 1, none⟩ = some (.int .i64 n) ∧ W.cell? ⟨b, o + 2, none⟩ = some (.int .i64 d) ∧ W.cell? ⟨b, o + 3, none⟩ = some (.string noS))) := fun W hW => h1.below hW hb
  have HR0 := Lib.hid (heap_alloc_new w (.cells #[.int .i64 0, .int .i64 0, .int .i64 0, .string ⟨#[]⟩] 25))
  have HQ1 := Lib.hid (fun W => v_rat W n d l1)
  have HQ0 : Hid (∀ W, Calls Tryz.prog 57 #[V 2 0 1 noS] W (RatVRet W 0)) := fun W => by
    have h9 := v_rat W 0 1 low01
    rw [qV01] at h9
    exact h9
  have HW1 := Lib.hid (fun W => c_whole 0 W)
  have w1 := ratW_qV l1
  have HO : Hid (∀ W u u', RatV W u 0 → RatV W u' (qV n d) → Calls Tryz.prog 112 #[u, u'] W (RatVRet W (0 - qV n d))) := fun W u u' a b => v_Sub W u u' _ _ a b (ratW_zero0.mono (by omega)) (w1.mono (by omega))
  have HV := Lib.hid (fun W u (h : RatV W u (0 - qV n d)) => v_Value W u _ h)
  generalize hk : valK (0 - qV n d) = rk at *
  generalize hn : valN (0 - qV n d) = rn at *
  generalize hd : valD (0 - qV n d) = rd at *
  clear hk hn hd
  generalize (0 - qV n d) = qr at *
  generalize qV n d = q1 at *
  clear h1 l1 w1
  go_enter Tryz.func111, Tryz.ntmps111
  go_wp2_with fail
  generalize HW : w.alloc (.cells #[.int .i64 0, .int .i64 0, .int .i64 0, .string ⟨#[]⟩] 25) = W0 at *
  have B0 : Below w.heap.size w W0 := by rw [← HW]; exact (Below.refl _ _).alloc (Nat.le_refl _) _
  have hz0 : w.heap.size < W0.heap.size := by rw [← HW]; simp
  clear HW
  have KH : Hid (∀ W, Below W0.heap.size W0 W → W.heap[w.heap.size]? = some (.cells #[.int .i64 0, .int .i64 0, .int .i64 0, .string ⟨#[]⟩] 25 (0, 0))) := fun W hW => (hW.block _ hz0).trans HR0.out
  have KR : Hid (∀ W, Below W0.heap.size W0 W → ResAt W w.heap.size) := fun W hW => res_at ((hW.block _ hz0).trans HR0.out)
  have B0d : Below W0.heap.size W0 W0.drew := Below.drew (Below.refl _ _)
  go_region_held3 (fun w' => (w'.cell? ⟨b, o, none⟩ = some (.int .i64 2) ∧ w'.cell? ⟨b, o + 1, none⟩ = some (.int .i64 n) ∧ w'.cell? ⟨b, o + 2, none⟩ = some (.int .i64 d) ∧ w'.cell? ⟨b, o + 3, none⟩ = some (.string noS)))
    (first | exact K.out _ (below4 (btr B0 B4) _ (Nat.le_refl w.heap.size) _ _ _ _) | exact K.out _ (btr B0 B4) | exact K.out _ (btr B0 B3) | exact K.out _ (btr B0 B2) | exact K.out _ (btr B0 B1) | exact K.out _ (btr B0 BW) | exact K.out _ (btr B0 B0d) | exact K.out _ B0) (first
      | (go_at_call 113; refine (HW1.out _).mono ?_; rintro e wW ⟨rfl, hbW⟩; have BW : Below W0.heap.size W0 wW := (by first | exact btr B2 hbW | exact btr B0d hbW))
      | (go_at_call 57; (with_reducible refine (HQ0.out _).mono ?_); rintro e w1 ⟨u, rfl, hu, hb1⟩; have B1 : Below W0.heap.size W0 w1 := (by first | exact btr B2 hb1 | exact btr BW hb1))
      | (go_at_call 57; (with_reducible refine (HQ1.out _).mono ?_); rintro e w2 ⟨u', rfl, hu', hb2⟩; have B2 : Below W0.heap.size W0 w2 := (by first | exact btr B1 hb2 | exact btr BW hb2 | exact btr B0d hb2))
      | (go_at_call 112; refine (HO.out _ u u' (by first | exact hu.below hb2 | exact hu) (by first | exact hu'.below (btr hbW hb1) | exact hu'.below hb1 | exact hu')).mono ?_; rintro e w3 ⟨q, rfl, hq, hb3⟩; have B3 : Below W0.heap.size W0 w3 := (by first | exact btr B2 hb3 | exact btr B1 hb3))
      | (go_at_call 109; refine (HV.out _ q hq).mono ?_; rintro e w4 ⟨rfl, hb4⟩; have B4 : Below W0.heap.size W0 w4 := btr B3 hb4; obtain ⟨r0, r1, r2, r3, f0, f1, f2, f3⟩ := KR.out _ B4))
  all_goals
    go_wp2
    exact bodyPost_ret (v := V rk rn rd noS) (results_cell_row Tryz.results111 _ _ w.heap.size 25 _ (0, 0) _ rfl (put4 (KH.out _ B4) _ _ _ _) Tryz.underlying25 rfl (by rw [info_v4]; rfl)) rfl ⟨rfl, below4 (btr B0 B4) _ (Nat.le_refl _) _ _ _ _⟩

set_option maxRecDepth 100000 in
set_option maxHeartbeats 4000000 in
theorem g_floor (w : World) (b o c : Nat) (n d : Int) (hb : b < w.heap.size) (h1 : ValIn w b o 2 n d noS) (l1 : Low n d) :
    Calls Tryz.prog 114 #[.slice (some ⟨b, o, none⟩) 1 c] w fun e w' => e = .returned (V (valK (((qV n d).floor : Int) : Rat)) (valN (((qV n d).floor : Int) : Rat)) (valD (((qV n d).floor : Int) : Rat)) noS) ∧ Below w.heap.size w w' := by
  have K : Hid (∀ W, Below w.heap.size w W → (W.cell? ⟨b, o, none⟩ = some (.int .i64 2) ∧ W.cell? ⟨b, o + 1, none⟩ = some (.int .i64 n) ∧ W.cell? ⟨b, o + 2, none⟩ = some (.int .i64 d) ∧ W.cell? ⟨b, o + 3, none⟩ = some (.string noS))) := fun W hW => h1.below hW hb
  have HR0 := Lib.hid (heap_alloc_new w (.cells #[.int .i64 0, .int .i64 0, .int .i64 0, .string ⟨#[]⟩] 25))
  have HQ1 := Lib.hid (fun W => v_rat W n d l1)
  have w1 := ratW_qV l1
  have HO : Hid (∀ W u, RatV W u (qV n d) → Calls Tryz.prog 9 #[u] W (RatVRet W (((qV n d).floor : Int) : Rat))) := fun W u a => v_Floor W u _ a (w1.mono (by omega))
  have HV := Lib.hid (fun W u (h : RatV W u (((qV n d).floor : Int) : Rat)) => v_Value W u _ h)
  generalize hk : valK (((qV n d).floor : Int) : Rat) = rk at *
  generalize hn : valN (((qV n d).floor : Int) : Rat) = rn at *
  generalize hd : valD (((qV n d).floor : Int) : Rat) = rd at *
  clear hk hn hd
  generalize (((qV n d).floor : Int) : Rat) = qr at *
  generalize qV n d = q1 at *
  clear h1 l1 w1
  obtain ⟨a0, a1, a2, a3⟩ := K.out _ (Below.refl _ _)
  go_enter Tryz.func114, Tryz.ntmps114
  go_wp2_with fail
  generalize HW : w.alloc (.cells #[.int .i64 0, .int .i64 0, .int .i64 0, .string ⟨#[]⟩] 25) = W0 at *
  have B0 : Below w.heap.size w W0 := by rw [← HW]; exact (Below.refl _ _).alloc (Nat.le_refl _) _
  have hz0 : w.heap.size < W0.heap.size := by rw [← HW]; simp
  clear HW a0 a1 a2 a3
  have KH : Hid (∀ W, Below W0.heap.size W0 W → W.heap[w.heap.size]? = some (.cells #[.int .i64 0, .int .i64 0, .int .i64 0, .string ⟨#[]⟩] 25 (0, 0))) := fun W hW => (hW.block _ hz0).trans HR0.out
  have KR : Hid (∀ W, Below W0.heap.size W0 W → ResAt W w.heap.size) := fun W hW => res_at ((hW.block _ hz0).trans HR0.out)
  refine (HQ1.out _).mono ?_
  rintro e w1 ⟨u, rfl, hu, B1⟩
  go_wp2_with fail
  refine (HO.out _ u hu).mono ?_
  rintro e w2 ⟨u', rfl, hu', hb2⟩
  go_wp2_with fail
  refine (HV.out _ u' hu').mono ?_
  rintro e w4 ⟨rfl, hb4⟩
  have B4 := btr (btr B1 hb2) hb4
  obtain ⟨r0, r1, r2, r3, f0, f1, f2, f3⟩ := KR.out _ B4
  all_goals
    go_wp2
    exact bodyPost_ret (v := V rk rn rd noS) (results_cell_row Tryz.results114 _ _ w.heap.size 25 _ (0, 0) _ rfl (put4 (KH.out _ B4) _ _ _ _) Tryz.underlying25 rfl (by rw [info_v4]; rfl)) rfl ⟨rfl, below4 (btr B0 B4) _ (Nat.le_refl _) _ _ _ _⟩

set_option maxRecDepth 100000 in
set_option maxHeartbeats 4000000 in
theorem g_reason (w : World) (b o c : Nat) (k n d : Int) (s : ByteArray) (hb : b < w.heap.size) (h1 : ValIn w b o k n d s) :
    Calls Tryz.prog 116 #[.slice (some ⟨b, o, none⟩) 1 c] w fun e w' => e = .returned (V 2 (if k = 0 then n else 0) 1 noS) ∧ Below w.heap.size w w' := by
  have K : Hid (∀ W, Below w.heap.size w W → (W.cell? ⟨b, o, none⟩ = some (.int .i64 k) ∧ W.cell? ⟨b, o + 1, none⟩ = some (.int .i64 n) ∧ W.cell? ⟨b, o + 2, none⟩ = some (.int .i64 d) ∧ W.cell? ⟨b, o + 3, none⟩ = some (.string s))) := fun W hW => h1.below hW hb
  have HR0 := Lib.hid (heap_alloc_new w (.cells #[.int .i64 0, .int .i64 0, .int .i64 0, .string ⟨#[]⟩] 25))
  clear h1
  by_cases hk : k = 0
  · subst hk
    rw [if_pos rfl]
    have HM := Lib.hid (fun W => c_isMissing0 n d s W)
    have HV := Lib.hid (fun W => c_whole n W)
    obtain ⟨a0, a1, a2, a3⟩ := K.out _ (Below.refl _ _)
    go_enter Tryz.func116, Tryz.ntmps116
    go_wp2_with fail
    generalize HW : w.alloc (.cells #[.int .i64 0, .int .i64 0, .int .i64 0, .string ⟨#[]⟩] 25) = W0 at *
    have B0 : Below w.heap.size w W0 := by rw [← HW]; exact (Below.refl _ _).alloc (Nat.le_refl _) _
    have hz0 : w.heap.size < W0.heap.size := by rw [← HW]; simp
    clear HW a0 a1 a2 a3
    have KH : Hid (∀ W, Below W0.heap.size W0 W → W.heap[w.heap.size]? = some (.cells #[.int .i64 0, .int .i64 0, .int .i64 0, .string ⟨#[]⟩] 25 (0, 0))) := fun W hW => (hW.block _ hz0).trans HR0.out
    have KR : Hid (∀ W, Below W0.heap.size W0 W → ResAt W w.heap.size) := fun W hW => res_at ((hW.block _ hz0).trans HR0.out)
    refine (HM.out _).mono ?_
    rintro e w1 ⟨rfl, B1⟩
    obtain ⟨a0, a1, a2, a3⟩ := K.out _ (btr B0 B1)
    go_wp2_with fail
    refine (HV.out _).mono ?_
    rintro e w4 ⟨rfl, hb4⟩
    have B4 := btr B1 hb4
    clear a0 a1 a2 a3
    obtain ⟨r0, r1, r2, r3, f0, f1, f2, f3⟩ := KR.out _ B4
    all_goals
      go_wp2
      exact bodyPost_ret (v := V 2 n 1 noS) (results_cell_row Tryz.results116 _ _ w.heap.size 25 _ (0, 0) _ rfl (put4 (KH.out _ B4) _ _ _ _) Tryz.underlying25 rfl (by rw [info_v4]; rfl)) rfl ⟨rfl, below4 (btr B0 B4) _ (Nat.le_refl _) _ _ _ _⟩
  · rw [if_neg hk]
    have hk0 : (k == 0) = false := by rw [beq_eq_false_iff_ne]; exact hk
    have HM : Hid (∀ W, Calls Tryz.prog 26 #[V k n d s] W fun e w' => e = .returned (.bool false) ∧ Below W.heap.size W w') := fun W => by
      have h9 := c_isMissing k n d s W
      rw [hk0] at h9
      exact h9
    have HV := Lib.hid (fun W => c_whole 0 W)
    clear hk0
    obtain ⟨a0, a1, a2, a3⟩ := K.out _ (Below.refl _ _)
    go_enter Tryz.func116, Tryz.ntmps116
    go_wp2_with fail
    generalize HW : w.alloc (.cells #[.int .i64 0, .int .i64 0, .int .i64 0, .string ⟨#[]⟩] 25) = W0 at *
    have B0 : Below w.heap.size w W0 := by rw [← HW]; exact (Below.refl _ _).alloc (Nat.le_refl _) _
    have hz0 : w.heap.size < W0.heap.size := by rw [← HW]; simp
    clear HW a0 a1 a2 a3
    have KH : Hid (∀ W, Below W0.heap.size W0 W → W.heap[w.heap.size]? = some (.cells #[.int .i64 0, .int .i64 0, .int .i64 0, .string ⟨#[]⟩] 25 (0, 0))) := fun W hW => (hW.block _ hz0).trans HR0.out
    have KR : Hid (∀ W, Below W0.heap.size W0 W → ResAt W w.heap.size) := fun W hW => res_at ((hW.block _ hz0).trans HR0.out)
    refine (HM.out _).mono ?_
    rintro e w1 ⟨rfl, B1⟩
    go_wp2_with fail
    refine (HV.out _).mono ?_
    rintro e w4 ⟨rfl, hb4⟩
    have B4 := btr B1 hb4
    obtain ⟨r0, r1, r2, r3, f0, f1, f2, f3⟩ := KR.out _ B4
    all_goals
      go_wp2
      exact bodyPost_ret (v := V 2 0 1 noS) (results_cell_row Tryz.results116 _ _ w.heap.size 25 _ (0, 0) _ rfl (put4 (KH.out _ B4) _ _ _ _) Tryz.underlying25 rfl (by rw [info_v4]; rfl)) rfl ⟨rfl, below4 (btr B0 B4) _ (Nat.le_refl _) _ _ _ _⟩

set_option maxRecDepth 100000 in
set_option maxHeartbeats 4000000 in
theorem g_quo (w : World) (b o c : Nat) (n d n' d' : Int) (hb : b < w.heap.size) (h1 : ValIn w b o 2 n d noS) (h2 : ValIn w b (o + 4) 2 n' d' noS) (l1 : Low n d) (l2 : Low n' d') (h0 : qV n' d' ≠ 0) :
    Calls Tryz.prog 121 #[.slice (some ⟨b, o, none⟩) 2 c] w fun e w' => e = .returned (V (valK (qV n d / qV n' d')) (valN (qV n d / qV n' d')) (valD (qV n d / qV n' d')) noS) ∧ Below w.heap.size w w' := by
  have K : Hid (∀ W, Below w.heap.size w W → (W.cell? ⟨b, o, none⟩ = some (.int .i64 2) ∧ W.cell? ⟨b, o + 1, none⟩ = some (.int .i64 n) ∧ W.cell? ⟨b, o + 2, none⟩ = some (.int .i64 d) ∧ W.cell? ⟨b, o + 3, none⟩ = some (.string noS)) ∧ (W.cell? ⟨b, o + 4, none⟩ = some (.int .i64 2) ∧ W.cell? ⟨b, o + 5, none⟩ = some (.int .i64 n') ∧ W.cell? ⟨b, o + 6, none⟩ = some (.int .i64 d') ∧ W.cell? ⟨b, o + 7, none⟩ = some (.string noS))) := fun W hW => ⟨h1.below hW hb, h2.below hW hb⟩
  have HR0 := Lib.hid (heap_alloc_new w (.cells #[.int .i64 0, .int .i64 0, .int .i64 0, .string ⟨#[]⟩] 25))
  have HQ1 := Lib.hid (fun W => v_rat W n d l1)
  have HQ2 := Lib.hid (fun W => v_rat W n' d' l2)
  have w1 := ratW_qV l1
  have w2 := ratW_qV l2
  have HO : Hid (∀ W u u', RatV W u (qV n d) → RatV W u' (qV n' d') → Calls Tryz.prog 173 #[u, u'] W fun e w' => ∃ p, e = .returned (.tuple #[.pointer (some ⟨p, 0, none⟩), .int .i64 0]) ∧ RatV w' (.pointer (some ⟨p, 0, none⟩)) (qV n d / qV n' d') ∧ Below W.heap.size W w') := fun W u u' a b => (v_Quo W u u' _ _ a b (w1.mono (by omega)) (w2.mono (by omega)) h0).mono fun e w' ⟨v, h1, h2, h3⟩ => by
    obtain ⟨p, nv, dv, hp, r⟩ := h2
    subst hp
    exact ⟨p, h1, ⟨p, nv, dv, rfl, r⟩, h3⟩
  have HV := Lib.hid (fun W u (h : RatV W u (qV n d / qV n' d')) => v_Value W u _ h)
  generalize hk : valK (qV n d / qV n' d') = rk at *
  generalize hn : valN (qV n d / qV n' d') = rn at *
  generalize hd : valD (qV n d / qV n' d') = rd at *
  clear hk hn hd
  generalize (qV n d / qV n' d') = qr at *
  clear h0 w1 w2 l1 l2
  generalize qV n d = q1 at *
  generalize qV n' d' = q2 at *
  clear h1 h2
  go_enter Tryz.func121, Tryz.ntmps121
  go_wp2_with fail
  generalize HW : w.alloc (.cells #[.int .i64 0, .int .i64 0, .int .i64 0, .string ⟨#[]⟩] 25) = W0 at *
  have B0 : Below w.heap.size w W0 := by rw [← HW]; exact (Below.refl _ _).alloc (Nat.le_refl _) _
  have hz0 : w.heap.size < W0.heap.size := by rw [← HW]; simp
  clear HW
  have KH : Hid (∀ W, Below W0.heap.size W0 W → W.heap[w.heap.size]? = some (.cells #[.int .i64 0, .int .i64 0, .int .i64 0, .string ⟨#[]⟩] 25 (0, 0))) := fun W hW => (hW.block _ hz0).trans HR0.out
  have KR : Hid (∀ W, Below W0.heap.size W0 W → ResAt W w.heap.size) := fun W hW => res_at ((hW.block _ hz0).trans HR0.out)
  have B0d : Below W0.heap.size W0 W0.drew := Below.drew (Below.refl _ _)
  go_region_held3 (fun w' => (w'.cell? ⟨b, o, none⟩ = some (.int .i64 2) ∧ w'.cell? ⟨b, o + 1, none⟩ = some (.int .i64 n) ∧ w'.cell? ⟨b, o + 2, none⟩ = some (.int .i64 d) ∧ w'.cell? ⟨b, o + 3, none⟩ = some (.string noS)) ∧ (w'.cell? ⟨b, o + 4, none⟩ = some (.int .i64 2) ∧ w'.cell? ⟨b, o + 5, none⟩ = some (.int .i64 n') ∧ w'.cell? ⟨b, o + 6, none⟩ = some (.int .i64 d') ∧ w'.cell? ⟨b, o + 7, none⟩ = some (.string noS)))
    (first | exact K.out _ (btr B0 B3) | exact K.out _ (btr B0 B2) | exact K.out _ (btr B0 B1) | exact K.out _ (btr B0 B0d) | exact K.out _ B0) (first
      | (go_at_call 57; (with_reducible refine (HQ1.out _).mono ?_); rintro e w1 ⟨u, rfl, hu, hb1⟩; have B1 : Below W0.heap.size W0 w1 := (by first | exact btr B2 hb1 | exact btr B0d hb1))
      | (go_at_call 57; (with_reducible refine (HQ2.out _).mono ?_); rintro e w2 ⟨u', rfl, hu', hb2⟩; have B2 : Below W0.heap.size W0 w2 := (by first | exact btr B1 hb2 | exact btr B0d hb2))
      | (go_at_call 173; refine (HO.out _ u u' (by first | exact hu.below hb2 | exact hu) (by first | exact hu'.below hb1 | exact hu')).mono ?_; rintro e w3 ⟨p, rfl, hq, hb3⟩; have B3 : Below W0.heap.size W0 w3 := (by first | exact btr B2 hb3 | exact btr B1 hb3)))
  all_goals
    go_wp2_with fail
    refine (HV.out _ _ hq).mono ?_
    rintro e w4 ⟨rfl, hb4⟩
    have B4 : Below W0.heap.size W0 w4 := btr B3 hb4
    obtain ⟨r0, r1, r2, r3, f0, f1, f2, f3⟩ := KR.out _ B4
    go_wp2
    exact bodyPost_ret (v := V rk rn rd noS) (results_cell_row Tryz.results121 _ _ w.heap.size 25 _ (0, 0) _ rfl (put4 (KH.out _ B4) _ _ _ _) Tryz.underlying25 rfl (by rw [info_v4]; rfl)) rfl ⟨rfl, below4 (btr B0 B4) _ (Nat.le_refl _) _ _ _ _⟩

set_option maxRecDepth 100000 in
set_option maxHeartbeats 4000000 in
theorem g_quo0 (w : World) (b o c : Nat) (n d n' d' : Int) (hb : b < w.heap.size) (h1 : ValIn w b o 2 n d noS) (h2 : ValIn w b (o + 4) 2 n' d' noS) (l1 : Low n d) (l2 : Low n' d') (h0 : qV n' d' = 0) :
    Calls Tryz.prog 121 #[.slice (some ⟨b, o, none⟩) 2 c] w fun e w' => e = .returned (V 0 3 0 noS) ∧ Below w.heap.size w w' := by
  have K : Hid (∀ W, Below w.heap.size w W → (W.cell? ⟨b, o, none⟩ = some (.int .i64 2) ∧ W.cell? ⟨b, o + 1, none⟩ = some (.int .i64 n) ∧ W.cell? ⟨b, o + 2, none⟩ = some (.int .i64 d) ∧ W.cell? ⟨b, o + 3, none⟩ = some (.string noS)) ∧ (W.cell? ⟨b, o + 4, none⟩ = some (.int .i64 2) ∧ W.cell? ⟨b, o + 5, none⟩ = some (.int .i64 n') ∧ W.cell? ⟨b, o + 6, none⟩ = some (.int .i64 d') ∧ W.cell? ⟨b, o + 7, none⟩ = some (.string noS))) := fun W hW => ⟨h1.below hW hb, h2.below hW hb⟩
  have HR0 := Lib.hid (heap_alloc_new w (.cells #[.int .i64 0, .int .i64 0, .int .i64 0, .string ⟨#[]⟩] 25))
  have HQ1 := Lib.hid (fun W => v_rat W n d l1)
  have HQ2 := Lib.hid (fun W => v_rat W n' d' l2)
  rw [h0] at HQ2
  have HO : Hid (∀ W u u', RatV W u (qV n d) → RatV W u' 0 → Calls Tryz.prog 173 #[u, u'] W fun e w' => e = .returned (.tuple #[.pointer none, .int .i64 2]) ∧ W = w') := fun W u u' a b => (v_Quo_zero W u u' _ a b).mono fun e w' ⟨h1, h2⟩ => ⟨h1, h2.symm⟩
  clear h0 l1 l2
  generalize qV n d = q1 at *
  clear h1 h2
  go_enter Tryz.func121, Tryz.ntmps121
  go_wp2_with fail
  generalize HW : w.alloc (.cells #[.int .i64 0, .int .i64 0, .int .i64 0, .string ⟨#[]⟩] 25) = W0 at *
  have B0 : Below w.heap.size w W0 := by rw [← HW]; exact (Below.refl _ _).alloc (Nat.le_refl _) _
  have hz0 : w.heap.size < W0.heap.size := by rw [← HW]; simp
  clear HW
  have KH : Hid (∀ W, Below W0.heap.size W0 W → W.heap[w.heap.size]? = some (.cells #[.int .i64 0, .int .i64 0, .int .i64 0, .string ⟨#[]⟩] 25 (0, 0))) := fun W hW => (hW.block _ hz0).trans HR0.out
  have KR : Hid (∀ W, Below W0.heap.size W0 W → ResAt W w.heap.size) := fun W hW => res_at ((hW.block _ hz0).trans HR0.out)
  have B0d : Below W0.heap.size W0 W0.drew := Below.drew (Below.refl _ _)
  go_region_held3 (fun w' => (w'.cell? ⟨b, o, none⟩ = some (.int .i64 2) ∧ w'.cell? ⟨b, o + 1, none⟩ = some (.int .i64 n) ∧ w'.cell? ⟨b, o + 2, none⟩ = some (.int .i64 d) ∧ w'.cell? ⟨b, o + 3, none⟩ = some (.string noS)) ∧ (w'.cell? ⟨b, o + 4, none⟩ = some (.int .i64 2) ∧ w'.cell? ⟨b, o + 5, none⟩ = some (.int .i64 n') ∧ w'.cell? ⟨b, o + 6, none⟩ = some (.int .i64 d') ∧ w'.cell? ⟨b, o + 7, none⟩ = some (.string noS)))
    (first | exact K.out _ (btr B0 B3) | exact K.out _ (btr B0 B2) | exact K.out _ (btr B0 B1) | exact K.out _ (btr B0 B0d) | exact K.out _ B0) (first
      | (go_at_call 57; (with_reducible refine (HQ1.out _).mono ?_); rintro e w1 ⟨u, rfl, hu, hb1⟩; have B1 : Below W0.heap.size W0 w1 := (by first | exact btr B2 hb1 | exact btr B0d hb1))
      | (go_at_call 57; (with_reducible refine (HQ2.out _).mono ?_); rintro e w2 ⟨u', rfl, hu', hb2⟩; have B2 : Below W0.heap.size W0 w2 := (by first | exact btr B1 hb2 | exact btr B0d hb2))
      | (go_at_call 173; refine (HO.out _ u u' (by first | exact hu.below hb2 | exact hu) (by first | exact hu'.below hb1 | exact hu')).mono ?_; rintro e w3 ⟨rfl, rfl⟩))
  all_goals
    go_wp2_with fail
    refine (c_missing 3 _).mono ?_
    rintro e w4 ⟨rfl, hb4⟩
    have B4 : Below W0.heap.size W0 w4 := (by first | exact btr B2 hb4 | exact btr B1 hb4)
    obtain ⟨r0, r1, r2, r3, f0, f1, f2, f3⟩ := KR.out _ B4
    go_wp2
    exact bodyPost_ret (v := V 0 3 0 noS) (results_cell_row Tryz.results121 _ _ w.heap.size 25 _ (0, 0) _ rfl (put4 (KH.out _ B4) _ _ _ _) Tryz.underlying25 rfl (by rw [info_v4]; rfl)) rfl ⟨rfl, below4 (btr B0 B4) _ (Nat.le_refl _) _ _ _ _⟩

set_option maxRecDepth 100000 in
set_option maxHeartbeats 4000000 in
theorem g_else (w : World) (b o c : Nat) (k n d : Int) (s : ByteArray) (k' n' d' : Int) (s' : ByteArray) (rk rn rd : Int) (rs : ByteArray) (hb : b < w.heap.size) (h1 : ValIn w b o k n d s) (h2 : ValIn w b (o + 4) k' n' d' s')
    (hr : (if (k == 0) = true then V k' n' d' s' else V k n d s) = V rk rn rd rs) :
    Calls Tryz.prog 131 #[.slice (some ⟨b, o, none⟩) 2 c] w fun e w' => e = .returned (V rk rn rd rs) ∧ Below w.heap.size w w' := by
  have K : Hid (∀ W, Below w.heap.size w W → (W.cell? ⟨b, o, none⟩ = some (.int .i64 k) ∧ W.cell? ⟨b, o + 1, none⟩ = some (.int .i64 n) ∧ W.cell? ⟨b, o + 2, none⟩ = some (.int .i64 d) ∧ W.cell? ⟨b, o + 3, none⟩ = some (.string s)) ∧ (W.cell? ⟨b, o + 4, none⟩ = some (.int .i64 k') ∧ W.cell? ⟨b, o + 5, none⟩ = some (.int .i64 n') ∧ W.cell? ⟨b, o + 6, none⟩ = some (.int .i64 d') ∧ W.cell? ⟨b, o + 7, none⟩ = some (.string s'))) := fun W hW => ⟨h1.below hW hb, h2.below hW hb⟩
  have HR0 := Lib.hid (heap_alloc_new w (.cells #[.int .i64 0, .int .i64 0, .int .i64 0, .string ⟨#[]⟩] 25))
  have HM := Lib.hid (fun W => c_isMissing k n d s W)
  have HC : Hid (∀ W, Calls Tryz.prog 132 #[.bool (k == 0), V k' n' d' s', V k n d s] W fun e w' => e = .returned (V rk rn rd rs) ∧ Below W.heap.size W w') := fun W => by
    have h9 := c_chosen (k == 0) k' n' d' s' k n d s W
    rw [hr] at h9
    exact h9
  clear hr h1 h2
  generalize (k == 0) = mb at *
  go_enter Tryz.func131, Tryz.ntmps131
  go_wp2_with fail
  generalize HW : w.alloc (.cells #[.int .i64 0, .int .i64 0, .int .i64 0, .string ⟨#[]⟩] 25) = W0 at *
  have B0 : Below w.heap.size w W0 := by rw [← HW]; exact (Below.refl _ _).alloc (Nat.le_refl _) _
  have hz0 : w.heap.size < W0.heap.size := by rw [← HW]; simp
  clear HW
  have KH : Hid (∀ W, Below W0.heap.size W0 W → W.heap[w.heap.size]? = some (.cells #[.int .i64 0, .int .i64 0, .int .i64 0, .string ⟨#[]⟩] 25 (0, 0))) := fun W hW => (hW.block _ hz0).trans HR0.out
  have KR : Hid (∀ W, Below W0.heap.size W0 W → ResAt W w.heap.size) := fun W hW => res_at ((hW.block _ hz0).trans HR0.out)
  have B0d : Below W0.heap.size W0 W0.drew := Below.drew (Below.refl _ _)
  go_region_held3 (fun w' => (w'.cell? ⟨b, o, none⟩ = some (.int .i64 k) ∧ w'.cell? ⟨b, o + 1, none⟩ = some (.int .i64 n) ∧ w'.cell? ⟨b, o + 2, none⟩ = some (.int .i64 d) ∧ w'.cell? ⟨b, o + 3, none⟩ = some (.string s)) ∧ (w'.cell? ⟨b, o + 4, none⟩ = some (.int .i64 k') ∧ w'.cell? ⟨b, o + 5, none⟩ = some (.int .i64 n') ∧ w'.cell? ⟨b, o + 6, none⟩ = some (.int .i64 d') ∧ w'.cell? ⟨b, o + 7, none⟩ = some (.string s')))
    (first | exact K.out _ (below4 (btr B0 B4) _ (Nat.le_refl w.heap.size) _ _ _ _) | exact K.out _ (btr B0 B4) | exact K.out _ (btr B0 B3) | exact K.out _ (btr B0 B2) | exact K.out _ (btr B0 B1) | exact K.out _ (btr B0 B0d) | exact K.out _ B0) (first
      | (go_at_call 26; refine (HM.out _).mono ?_; rintro e w1 ⟨rfl, hb1⟩; have B1 : Below W0.heap.size W0 w1 := btr B0d hb1)
      | (go_at_call 132; refine (HC.out _).mono ?_; rintro e w4 ⟨rfl, hb4⟩; have B4 : Below W0.heap.size W0 w4 := btr B1 hb4; obtain ⟨r0, r1, r2, r3, f0, f1, f2, f3⟩ := KR.out _ B4))
  all_goals
    go_wp2
    exact bodyPost_ret (v := V rk rn rd rs) (results_cell_row Tryz.results131 _ _ w.heap.size 25 _ (0, 0) _ rfl (put4 (KH.out _ B4) _ _ _ _) Tryz.underlying25 rfl (by rw [info_v4]; rfl)) rfl ⟨rfl, below4 (btr B0 B4) _ (Nat.le_refl _) _ _ _ _⟩

set_option maxRecDepth 100000 in
set_option maxHeartbeats 4000000 in
theorem g_if (w : World) (b o c : Nat) (k0 n0 d0 : Int) (s0 : ByteArray) (k1 n1 d1 : Int) (s1 : ByteArray) (k2 n2 d2 : Int) (s2 : ByteArray) (rk rn rd : Int) (rs : ByteArray) (hb : b < w.heap.size) (h1 : ValIn w b o k0 n0 d0 s0) (h2 : ValIn w b (o + 4) k1 n1 d1 s1) (h3 : ValIn w b (o + 8) k2 n2 d2 s2) (hk : k0 ≠ 0) (hr : (if (n0 == 1) = true then V k1 n1 d1 s1 else V k2 n2 d2 s2) = V rk rn rd rs) :
    Calls Tryz.prog 133 #[.slice (some ⟨b, o, none⟩) 3 c] w fun e w' => e = .returned (V rk rn rd rs) ∧ Below w.heap.size w w' := by
  have K : Hid (∀ W, Below w.heap.size w W → (W.cell? ⟨b, o, none⟩ = some (.int .i64 k0) ∧ W.cell? ⟨b, o + 1, none⟩ = some (.int .i64 n0) ∧ W.cell? ⟨b, o + 2, none⟩ = some (.int .i64 d0) ∧ W.cell? ⟨b, o + 3, none⟩ = some (.string s0)) ∧ (W.cell? ⟨b, o + 4, none⟩ = some (.int .i64 k1) ∧ W.cell? ⟨b, o + 5, none⟩ = some (.int .i64 n1) ∧ W.cell? ⟨b, o + 6, none⟩ = some (.int .i64 d1) ∧ W.cell? ⟨b, o + 7, none⟩ = some (.string s1)) ∧ (W.cell? ⟨b, o + 8, none⟩ = some (.int .i64 k2) ∧ W.cell? ⟨b, o + 9, none⟩ = some (.int .i64 n2) ∧ W.cell? ⟨b, o + 10, none⟩ = some (.int .i64 d2) ∧ W.cell? ⟨b, o + 11, none⟩ = some (.string s2))) := fun W hW => ⟨h1.below hW hb, h2.below hW hb, h3.below hW hb⟩
  have HR0 := Lib.hid (heap_alloc_new w (.cells #[.int .i64 0, .int .i64 0, .int .i64 0, .string ⟨#[]⟩] 25))
  have hk0 : (k0 == 0) = false := by rw [beq_eq_false_iff_ne]; exact hk
  have HM : Hid (∀ W, Calls Tryz.prog 26 #[V k0 n0 d0 s0] W fun e w' => e = .returned (.bool false) ∧ Below W.heap.size W w') := fun W => by
    have h9 := c_isMissing k0 n0 d0 s0 W
    rw [hk0] at h9
    exact h9
  have HC : Hid (∀ W, Calls Tryz.prog 132 #[.bool (n0 == 1), V k1 n1 d1 s1, V k2 n2 d2 s2] W fun e w' => e = .returned (V rk rn rd rs) ∧ Below W.heap.size W w') := fun W => by
    have h9 := c_chosen (n0 == 1) k1 n1 d1 s1 k2 n2 d2 s2 W
    rw [hr] at h9
    exact h9
  clear hr h1 h2 h3 hk hk0
  obtain ⟨⟨a0, a1, a2, a3⟩, _, _⟩ := K.out _ (Below.refl _ _)
  go_enter Tryz.func133, Tryz.ntmps133
  go_wp2_with fail
  generalize HW : w.alloc (.cells #[.int .i64 0, .int .i64 0, .int .i64 0, .string ⟨#[]⟩] 25) = W0 at *
  have B0 : Below w.heap.size w W0 := by rw [← HW]; exact (Below.refl _ _).alloc (Nat.le_refl _) _
  have hz0 : w.heap.size < W0.heap.size := by rw [← HW]; simp
  clear HW a0 a1 a2 a3
  refine (HM.out _).mono ?_
  rintro e w1 ⟨rfl, hb1⟩
  have B1 : Below w.heap.size w w1 := btr B0 hb1
  have hz1 : w.heap.size < w1.heap.size := Nat.lt_of_lt_of_le hz0 hb1.size
  have HR1 := Lib.hid ((hb1.block _ hz0).trans HR0.out)
  clear HR0 hb1
  have KH : Hid (∀ W, Below w1.heap.size w1 W → W.heap[w.heap.size]? = some (.cells #[.int .i64 0, .int .i64 0, .int .i64 0, .string ⟨#[]⟩] 25 (0, 0))) := fun W hW => (hW.block _ hz1).trans HR1.out
  have KR : Hid (∀ W, Below w1.heap.size w1 W → ResAt W w.heap.size) := fun W hW => res_at ((hW.block _ hz1).trans HR1.out)
  have B1d : Below w1.heap.size w1 w1.drew := Below.drew (Below.refl _ _)
  go_wp2_with fail
  go_region_held3 (fun w' => (w'.cell? ⟨b, o, none⟩ = some (.int .i64 k0) ∧ w'.cell? ⟨b, o + 1, none⟩ = some (.int .i64 n0) ∧ w'.cell? ⟨b, o + 2, none⟩ = some (.int .i64 d0) ∧ w'.cell? ⟨b, o + 3, none⟩ = some (.string s0)) ∧ (w'.cell? ⟨b, o + 4, none⟩ = some (.int .i64 k1) ∧ w'.cell? ⟨b, o + 5, none⟩ = some (.int .i64 n1) ∧ w'.cell? ⟨b, o + 6, none⟩ = some (.int .i64 d1) ∧ w'.cell? ⟨b, o + 7, none⟩ = some (.string s1)) ∧ (w'.cell? ⟨b, o + 8, none⟩ = some (.int .i64 k2) ∧ w'.cell? ⟨b, o + 9, none⟩ = some (.int .i64 n2) ∧ w'.cell? ⟨b, o + 10, none⟩ = some (.int .i64 d2) ∧ w'.cell? ⟨b, o + 11, none⟩ = some (.string s2)))
    (first | exact K.out _ (below4 (btr B1 B2) _ (Nat.le_refl w.heap.size) _ _ _ _) | exact K.out _ (btr B1 B2) | exact K.out _ (btr B1 B1d) | exact K.out _ B1) (first
      | (go_at_call 132; refine (HC.out _).mono ?_; rintro e w2 ⟨rfl, hb2⟩; have B2 : Below w1.heap.size w1 w2 := btr B1d hb2; obtain ⟨r0, r1, r2, r3, f0, f1, f2, f3⟩ := KR.out _ B2))
  all_goals
    go_wp2
    exact bodyPost_ret (v := V rk rn rd rs) (results_cell_row Tryz.results133 _ _ w.heap.size 25 _ (0, 0) _ rfl (put4 (KH.out _ B2) _ _ _ _) Tryz.underlying25 rfl (by rw [info_v4]; rfl)) rfl ⟨rfl, below4 (btr B1 B2) _ (Nat.le_refl _) _ _ _ _⟩

set_option maxRecDepth 100000 in
set_option maxHeartbeats 4000000 in
theorem g_if0 (w : World) (b o c : Nat) (k0 n0 d0 : Int) (s0 : ByteArray) (k1 n1 d1 : Int) (s1 : ByteArray) (k2 n2 d2 : Int) (s2 : ByteArray) (hb : b < w.heap.size) (h1 : ValIn w b o k0 n0 d0 s0) (h2 : ValIn w b (o + 4) k1 n1 d1 s1) (h3 : ValIn w b (o + 8) k2 n2 d2 s2) (hk : k0 = 0) :
    Calls Tryz.prog 133 #[.slice (some ⟨b, o, none⟩) 3 c] w fun e w' => e = .returned (V k0 n0 d0 s0) ∧ Below w.heap.size w w' := by
  subst hk
  have K : Hid (∀ W, Below w.heap.size w W → (W.cell? ⟨b, o, none⟩ = some (.int .i64 0) ∧ W.cell? ⟨b, o + 1, none⟩ = some (.int .i64 n0) ∧ W.cell? ⟨b, o + 2, none⟩ = some (.int .i64 d0) ∧ W.cell? ⟨b, o + 3, none⟩ = some (.string s0)) ∧ (W.cell? ⟨b, o + 4, none⟩ = some (.int .i64 k1) ∧ W.cell? ⟨b, o + 5, none⟩ = some (.int .i64 n1) ∧ W.cell? ⟨b, o + 6, none⟩ = some (.int .i64 d1) ∧ W.cell? ⟨b, o + 7, none⟩ = some (.string s1)) ∧ (W.cell? ⟨b, o + 8, none⟩ = some (.int .i64 k2) ∧ W.cell? ⟨b, o + 9, none⟩ = some (.int .i64 n2) ∧ W.cell? ⟨b, o + 10, none⟩ = some (.int .i64 d2) ∧ W.cell? ⟨b, o + 11, none⟩ = some (.string s2))) := fun W hW => ⟨h1.below hW hb, h2.below hW hb, h3.below hW hb⟩
  have HR0 := Lib.hid (heap_alloc_new w (.cells #[.int .i64 0, .int .i64 0, .int .i64 0, .string ⟨#[]⟩] 25))
  have HM := Lib.hid (fun W => c_isMissing0 n0 d0 s0 W)
  clear h1 h2 h3
  obtain ⟨⟨a0, a1, a2, a3⟩, _, _⟩ := K.out _ (Below.refl _ _)
  go_enter Tryz.func133, Tryz.ntmps133
  go_wp2_with fail
  generalize HW : w.alloc (.cells #[.int .i64 0, .int .i64 0, .int .i64 0, .string ⟨#[]⟩] 25) = W0 at *
  have B0 : Below w.heap.size w W0 := by rw [← HW]; exact (Below.refl _ _).alloc (Nat.le_refl _) _
  have hz0 : w.heap.size < W0.heap.size := by rw [← HW]; simp
  clear HW a0 a1 a2 a3
  refine (HM.out _).mono ?_
  rintro e w1 ⟨rfl, hb1⟩
  have B1 : Below w.heap.size w w1 := btr B0 hb1
  have hz1 : w.heap.size < w1.heap.size := Nat.lt_of_lt_of_le hz0 hb1.size
  have HR1 := Lib.hid ((hb1.block _ hz0).trans HR0.out)
  clear HR0 hb1
  have KH : Hid (∀ W, Below w1.heap.size w1 W → W.heap[w.heap.size]? = some (.cells #[.int .i64 0, .int .i64 0, .int .i64 0, .string ⟨#[]⟩] 25 (0, 0))) := fun W hW => (hW.block _ hz1).trans HR1.out
  have KR : Hid (∀ W, Below w1.heap.size w1 W → ResAt W w.heap.size) := fun W hW => res_at ((hW.block _ hz1).trans HR1.out)
  obtain ⟨r0, r1, r2, r3, f0, f1, f2, f3⟩ := KR.out _ (Below.refl _ _)
  obtain ⟨⟨a0, a1, a2, a3⟩, _, _⟩ := K.out _ B1
  go_wp2
  exact bodyPost_ret (v := V 0 n0 d0 s0) (results_cell_row Tryz.results133 _ _ w.heap.size 25 _ (0, 0) _ rfl (put4 (KH.out _ (Below.refl _ _)) _ _ _ _) Tryz.underlying25 rfl (by rw [info_v4]; rfl)) rfl ⟨rfl, below4 B1 _ (Nat.le_refl _) _ _ _ _⟩

end Go.Proofs.YtnfncdalneifnaaGreatDoor
end

/- Truth values: what decides, and what is passed on; the slice may begin anywhere. -/
section
namespace Go.Proofs.YtnfncdalneifnaaGreatDoor
open Go.RowKit Go.Deep

def TwoO (w : World) (b o : Nat) (k n d : Int) (s : ByteArray) (k' n' d' : Int) (s' : ByteArray) : Prop := ∀ W, Below w.heap.size w W → (W.cell? ⟨b, o, none⟩ = some (.int .i64 k) ∧ W.cell? ⟨b, o + 1, none⟩ = some (.int .i64 n) ∧ W.cell? ⟨b, o + 2, none⟩ = some (.int .i64 d) ∧ W.cell? ⟨b, o + 3, none⟩ = some (.string s)) ∧
  (W.cell? ⟨b, o + 4, none⟩ = some (.int .i64 k') ∧ W.cell? ⟨b, o + 5, none⟩ = some (.int .i64 n') ∧ W.cell? ⟨b, o + 6, none⟩ = some (.int .i64 d') ∧ W.cell? ⟨b, o + 7, none⟩ = some (.string s'))
theorem two_ofO {w : World} {b o : Nat} {k n d : Int} {s : ByteArray} {k' n' d' : Int} {s' : ByteArray} (hb : b < w.heap.size) (h1 : ValIn w b o k n d s) (h2 : ValIn w b (o + 4) k' n' d' s') : TwoO w b o k n d s k' n' d' s' := fun _ hW => ⟨h1.below hW hb, h2.below hW hb⟩

set_option maxRecDepth 100000 in
set_option maxHeartbeats 2000000 in
theorem y_dec0_T (w : World) (b o c : Nat) (k1 n1 d1 : Int) (s1 : ByteArray) (hb : b < w.heap.size) (h1 : ValIn w b o 1 0 0 noS) (h2 : ValIn w b (o + 4) k1 n1 d1 s1) :
    Calls Tryz.prog 129 #[.slice (some ⟨b, o, none⟩) 2 c, .bool false] w fun e w' => e = .returned (V 1 0 0 noS) ∧ Below w.heap.size w w' := by
  have K := Lib.hid (two_ofO hb h1 h2)
  have hr0 := heap_alloc_new w (.cells #[.int .i64 0, .int .i64 0, .int .i64 0, .string ⟨#[]⟩] 25)
  have HR0 := Lib.hid hr0
  clear h1 h2 hr0
  go_enter Tryz.func129, Tryz.ntmps129
  go_wp2_with fail
  generalize HW : w.alloc (.cells #[.int .i64 0, .int .i64 0, .int .i64 0, .string ⟨#[]⟩] 25) = W0 at *
  have B0 : Below w.heap.size w W0 := by rw [← HW]; exact (Below.refl _ _).alloc (Nat.le_refl _) _
  have hz0 : w.heap.size < W0.heap.size := by rw [← HW]; simp
  clear HW
  have KH : Hid (∀ W, Below W0.heap.size W0 W → W.heap[w.heap.size]? = some (.cells #[.int .i64 0, .int .i64 0, .int .i64 0, .string ⟨#[]⟩] 25 (0, 0))) := fun W hW => (hW.block _ hz0).trans HR0.out
  have KR : Hid (∀ W, Below W0.heap.size W0 W → ResAt W w.heap.size) := fun W hW => res_at ((hW.block _ hz0).trans HR0.out)
  have B0d : Below W0.heap.size W0 W0.drew := Below.drew (Below.refl _ _)
  obtain ⟨⟨a0, a1, a2, a3⟩, -⟩ := K.out _ B0
  first
    | go_region_with (first | (go_at_call 62; refine (c_truth0 _).mono ?_; rintro e w1 ⟨rfl, hb1⟩; have B1 : Below W0.heap.size W0 w1 := btr B0d hb1; obtain ⟨⟨e0, e1, e2, e3⟩, -⟩ := K.out _ (btr B0 B1)))
    | fail
  all_goals
    go_wp2_with fail
    refine (c_truth0 _).mono ?_
    rintro e w3 ⟨rfl, hb3⟩
    have B3 : Below W0.heap.size W0 w3 := btr B1 hb3
    obtain ⟨r0, r1, r2, r3, f0, f1, f2, f3⟩ := KR.out _ B3
    go_wp2
    exact bodyPost_ret (v := V 1 0 0 noS) (results_cell_row Tryz.results129 _ _ w.heap.size 25 _ (0, 0) _ rfl (put4 (KH.out _ B3) _ _ _ _) Tryz.underlying25 rfl (by rw [info_v4]; rfl)) rfl ⟨rfl, below4 (btr B0 B3) _ (Nat.le_refl _) _ _ _ _⟩

set_option maxRecDepth 100000 in
set_option maxHeartbeats 2000000 in
theorem y_dec0_MT (w : World) (b o c : Nat) (n0 : Int) (hb : b < w.heap.size) (h1 : ValIn w b o 0 n0 0 noS) (h2 : ValIn w b (o + 4) 1 0 0 noS) :
    Calls Tryz.prog 129 #[.slice (some ⟨b, o, none⟩) 2 c, .bool false] w fun e w' => e = .returned (V 1 0 0 noS) ∧ Below w.heap.size w w' := by
  have K := Lib.hid (two_ofO hb h1 h2)
  have hr0 := heap_alloc_new w (.cells #[.int .i64 0, .int .i64 0, .int .i64 0, .string ⟨#[]⟩] 25)
  have HR0 := Lib.hid hr0
  clear h1 h2 hr0
  go_enter Tryz.func129, Tryz.ntmps129
  go_wp2_with fail
  generalize HW : w.alloc (.cells #[.int .i64 0, .int .i64 0, .int .i64 0, .string ⟨#[]⟩] 25) = W0 at *
  have B0 : Below w.heap.size w W0 := by rw [← HW]; exact (Below.refl _ _).alloc (Nat.le_refl _) _
  have hz0 : w.heap.size < W0.heap.size := by rw [← HW]; simp
  clear HW
  have KH : Hid (∀ W, Below W0.heap.size W0 W → W.heap[w.heap.size]? = some (.cells #[.int .i64 0, .int .i64 0, .int .i64 0, .string ⟨#[]⟩] 25 (0, 0))) := fun W hW => (hW.block _ hz0).trans HR0.out
  have KR : Hid (∀ W, Below W0.heap.size W0 W → ResAt W w.heap.size) := fun W hW => res_at ((hW.block _ hz0).trans HR0.out)
  have B0d : Below W0.heap.size W0 W0.drew := Below.drew (Below.refl _ _)
  go_region_held3 (fun w' => (w'.cell? ⟨b, o, none⟩ = some (.int .i64 0) ∧ w'.cell? ⟨b, o + 1, none⟩ = some (.int .i64 n0) ∧ w'.cell? ⟨b, o + 2, none⟩ = some (.int .i64 0) ∧ w'.cell? ⟨b, o + 3, none⟩ = some (.string noS)) ∧ (w'.cell? ⟨b, o + 4, none⟩ = some (.int .i64 1) ∧ w'.cell? ⟨b, o + 5, none⟩ = some (.int .i64 0) ∧ w'.cell? ⟨b, o + 6, none⟩ = some (.int .i64 0) ∧ w'.cell? ⟨b, o + 7, none⟩ = some (.string noS)))
    (first | exact K.out _ (btr B0 B2) | exact K.out _ (btr B0 B1) | exact K.out _ (btr B0 B0d) | exact K.out _ B0) (first
      | (go_at_call 62; refine (c_truth0 W0.drew).mono ?_; rintro e w1 ⟨rfl, hb1⟩; have B1 : Below W0.heap.size W0 w1 := btr B0d hb1)
      | (go_at_call 62; refine (c_truth0 w1).mono ?_; rintro e w2 ⟨rfl, hb2⟩; have B2 : Below W0.heap.size W0 w2 := btr B1 hb2))
  go_wp2_with fail
  refine (c_truth0 _).mono ?_
  rintro e w3 ⟨rfl, hb3⟩
  have B3 : Below W0.heap.size W0 w3 := btr B2 hb3
  obtain ⟨r0, r1, r2, r3, f0, f1, f2, f3⟩ := KR.out _ B3
  go_wp2
  exact bodyPost_ret (v := V 1 0 0 noS) (results_cell_row Tryz.results129 _ _ w.heap.size 25 _ (0, 0) _ rfl (put4 (KH.out _ B3) _ _ _ _) Tryz.underlying25 rfl (by rw [info_v4]; rfl)) rfl ⟨rfl, below4 (btr B0 B3) _ (Nat.le_refl _) _ _ _ _⟩

set_option maxRecDepth 100000 in
set_option maxHeartbeats 2000000 in
theorem y_dec0_MM (w : World) (b o c : Nat) (n0 : Int) (n1 : Int) (hb : b < w.heap.size) (h1 : ValIn w b o 0 n0 0 noS) (h2 : ValIn w b (o + 4) 0 n1 0 noS) :
    Calls Tryz.prog 129 #[.slice (some ⟨b, o, none⟩) 2 c, .bool false] w fun e w' => e = .returned (V 0 n0 0 noS) ∧ Below w.heap.size w w' := by
  have K := Lib.hid (two_ofO hb h1 h2)
  have hr0 := heap_alloc_new w (.cells #[.int .i64 0, .int .i64 0, .int .i64 0, .string ⟨#[]⟩] 25)
  have HR0 := Lib.hid hr0
  clear h1 h2 hr0
  go_enter Tryz.func129, Tryz.ntmps129
  go_wp2_with fail
  generalize HW : w.alloc (.cells #[.int .i64 0, .int .i64 0, .int .i64 0, .string ⟨#[]⟩] 25) = W0 at *
  have B0 : Below w.heap.size w W0 := by rw [← HW]; exact (Below.refl _ _).alloc (Nat.le_refl _) _
  have hz0 : w.heap.size < W0.heap.size := by rw [← HW]; simp
  clear HW
  have KH : Hid (∀ W, Below W0.heap.size W0 W → W.heap[w.heap.size]? = some (.cells #[.int .i64 0, .int .i64 0, .int .i64 0, .string ⟨#[]⟩] 25 (0, 0))) := fun W hW => (hW.block _ hz0).trans HR0.out
  have KR : Hid (∀ W, Below W0.heap.size W0 W → ResAt W w.heap.size) := fun W hW => res_at ((hW.block _ hz0).trans HR0.out)
  have B0d : Below W0.heap.size W0 W0.drew := Below.drew (Below.refl _ _)
  go_region_held3 (fun w' => (w'.cell? ⟨b, o, none⟩ = some (.int .i64 0) ∧ w'.cell? ⟨b, o + 1, none⟩ = some (.int .i64 n0) ∧ w'.cell? ⟨b, o + 2, none⟩ = some (.int .i64 0) ∧ w'.cell? ⟨b, o + 3, none⟩ = some (.string noS)) ∧ (w'.cell? ⟨b, o + 4, none⟩ = some (.int .i64 0) ∧ w'.cell? ⟨b, o + 5, none⟩ = some (.int .i64 n1) ∧ w'.cell? ⟨b, o + 6, none⟩ = some (.int .i64 0) ∧ w'.cell? ⟨b, o + 7, none⟩ = some (.string noS)))
    (first | exact K.out _ (btr B0 B2) | exact K.out _ (btr B0 B1) | exact K.out _ (btr B0 B0d) | exact K.out _ B0) (first
      | (go_at_call 62; refine (c_truth0 W0.drew).mono ?_; rintro e w1 ⟨rfl, hb1⟩; have B1 : Below W0.heap.size W0 w1 := btr B0d hb1)
      | (go_at_call 62; refine (c_truth0 w1).mono ?_; rintro e w2 ⟨rfl, hb2⟩; have B2 : Below W0.heap.size W0 w2 := btr B1 hb2))
  go_wp2_with fail
  have B2d : Below W0.heap.size W0 w2.drew := Below.drew B2
  go_region_held3 (fun w' => (w'.cell? ⟨b, o, none⟩ = some (.int .i64 0) ∧ w'.cell? ⟨b, o + 1, none⟩ = some (.int .i64 n0) ∧ w'.cell? ⟨b, o + 2, none⟩ = some (.int .i64 0) ∧ w'.cell? ⟨b, o + 3, none⟩ = some (.string noS)) ∧ (w'.cell? ⟨b, o + 4, none⟩ = some (.int .i64 0) ∧ w'.cell? ⟨b, o + 5, none⟩ = some (.int .i64 n1) ∧ w'.cell? ⟨b, o + 6, none⟩ = some (.int .i64 0) ∧ w'.cell? ⟨b, o + 7, none⟩ = some (.string noS)))
    (first | exact K.out _ (((((btr B0 B4).setCell (p := ⟨w.heap.size, 0, none⟩) (Nat.le_refl w.heap.size) _).setCell (p := ⟨w.heap.size, 1, none⟩) (Nat.le_refl w.heap.size) _).setCell (p := ⟨w.heap.size, 2, none⟩) (Nat.le_refl w.heap.size) _).setCell (p := ⟨w.heap.size, 3, none⟩) (Nat.le_refl w.heap.size) _) | exact K.out _ (btr B0 B4) | exact K.out _ (btr B0 B3) | exact K.out _ (btr B0 B2d) | exact K.out _ (btr B0 B2)) (first
      | (go_at_call 26; refine (c_isMissing0 n0 0 noS _).mono ?_; rintro e w3 ⟨rfl, hb3⟩; have B3 : Below W0.heap.size W0 w3 := btr B2d hb3)
      | (go_at_call 132; refine (c_chosen true 0 n0 0 noS 0 n1 0 noS _).mono ?_; rintro e w4 ⟨rfl, hb4⟩; have B4 : Below W0.heap.size W0 w4 := btr B3 hb4; obtain ⟨r0, r1, r2, r3, f0, f1, f2, f3⟩ := KR.out _ B4))
  go_wp2
  exact bodyPost_ret (v := V 0 n0 0 noS) (results_cell_row Tryz.results129 _ _ w.heap.size 25 _ (0, 0) _ rfl (put4 (KH.out _ B4) _ _ _ _) Tryz.underlying25 rfl (by rw [info_v4]; rfl)) rfl ⟨rfl, below4 (btr B0 B4) _ (Nat.le_refl _) _ _ _ _⟩

set_option maxRecDepth 100000 in
set_option maxHeartbeats 2000000 in
theorem y_dec0_MO (w : World) (b o c : Nat) (n0 : Int) (hb : b < w.heap.size) (h1 : ValIn w b o 0 n0 0 noS) (h2 : ValIn w b (o + 4) 1 1 0 noS) :
    Calls Tryz.prog 129 #[.slice (some ⟨b, o, none⟩) 2 c, .bool false] w fun e w' => e = .returned (V 0 n0 0 noS) ∧ Below w.heap.size w w' := by
  have K := Lib.hid (two_ofO hb h1 h2)
  have hr0 := heap_alloc_new w (.cells #[.int .i64 0, .int .i64 0, .int .i64 0, .string ⟨#[]⟩] 25)
  have HR0 := Lib.hid hr0
  clear h1 h2 hr0
  go_enter Tryz.func129, Tryz.ntmps129
  go_wp2_with fail
  generalize HW : w.alloc (.cells #[.int .i64 0, .int .i64 0, .int .i64 0, .string ⟨#[]⟩] 25) = W0 at *
  have B0 : Below w.heap.size w W0 := by rw [← HW]; exact (Below.refl _ _).alloc (Nat.le_refl _) _
  have hz0 : w.heap.size < W0.heap.size := by rw [← HW]; simp
  clear HW
  have KH : Hid (∀ W, Below W0.heap.size W0 W → W.heap[w.heap.size]? = some (.cells #[.int .i64 0, .int .i64 0, .int .i64 0, .string ⟨#[]⟩] 25 (0, 0))) := fun W hW => (hW.block _ hz0).trans HR0.out
  have KR : Hid (∀ W, Below W0.heap.size W0 W → ResAt W w.heap.size) := fun W hW => res_at ((hW.block _ hz0).trans HR0.out)
  have B0d : Below W0.heap.size W0 W0.drew := Below.drew (Below.refl _ _)
  go_region_held3 (fun w' => (w'.cell? ⟨b, o, none⟩ = some (.int .i64 0) ∧ w'.cell? ⟨b, o + 1, none⟩ = some (.int .i64 n0) ∧ w'.cell? ⟨b, o + 2, none⟩ = some (.int .i64 0) ∧ w'.cell? ⟨b, o + 3, none⟩ = some (.string noS)) ∧ (w'.cell? ⟨b, o + 4, none⟩ = some (.int .i64 1) ∧ w'.cell? ⟨b, o + 5, none⟩ = some (.int .i64 1) ∧ w'.cell? ⟨b, o + 6, none⟩ = some (.int .i64 0) ∧ w'.cell? ⟨b, o + 7, none⟩ = some (.string noS)))
    (first | exact K.out _ (btr B0 B2) | exact K.out _ (btr B0 B1) | exact K.out _ (btr B0 B0d) | exact K.out _ B0) (first
      | (go_at_call 62; refine (c_truth0 W0.drew).mono ?_; rintro e w1 ⟨rfl, hb1⟩; have B1 : Below W0.heap.size W0 w1 := btr B0d hb1)
      | (go_at_call 62; refine (c_truth0 w1).mono ?_; rintro e w2 ⟨rfl, hb2⟩; have B2 : Below W0.heap.size W0 w2 := btr B1 hb2))
  go_wp2_with fail
  have B2d : Below W0.heap.size W0 w2.drew := Below.drew B2
  go_region_held3 (fun w' => (w'.cell? ⟨b, o, none⟩ = some (.int .i64 0) ∧ w'.cell? ⟨b, o + 1, none⟩ = some (.int .i64 n0) ∧ w'.cell? ⟨b, o + 2, none⟩ = some (.int .i64 0) ∧ w'.cell? ⟨b, o + 3, none⟩ = some (.string noS)) ∧ (w'.cell? ⟨b, o + 4, none⟩ = some (.int .i64 1) ∧ w'.cell? ⟨b, o + 5, none⟩ = some (.int .i64 1) ∧ w'.cell? ⟨b, o + 6, none⟩ = some (.int .i64 0) ∧ w'.cell? ⟨b, o + 7, none⟩ = some (.string noS)))
    (first | exact K.out _ (((((btr B0 B4).setCell (p := ⟨w.heap.size, 0, none⟩) (Nat.le_refl w.heap.size) _).setCell (p := ⟨w.heap.size, 1, none⟩) (Nat.le_refl w.heap.size) _).setCell (p := ⟨w.heap.size, 2, none⟩) (Nat.le_refl w.heap.size) _).setCell (p := ⟨w.heap.size, 3, none⟩) (Nat.le_refl w.heap.size) _) | exact K.out _ (btr B0 B4) | exact K.out _ (btr B0 B3) | exact K.out _ (btr B0 B2d) | exact K.out _ (btr B0 B2)) (first
      | (go_at_call 26; refine (c_isMissing0 n0 0 noS _).mono ?_; rintro e w3 ⟨rfl, hb3⟩; have B3 : Below W0.heap.size W0 w3 := btr B2d hb3)
      | (go_at_call 132; refine (c_chosen true 0 n0 0 noS 1 1 0 noS _).mono ?_; rintro e w4 ⟨rfl, hb4⟩; have B4 : Below W0.heap.size W0 w4 := btr B3 hb4; obtain ⟨r0, r1, r2, r3, f0, f1, f2, f3⟩ := KR.out _ B4))
  go_wp2
  exact bodyPost_ret (v := V 0 n0 0 noS) (results_cell_row Tryz.results129 _ _ w.heap.size 25 _ (0, 0) _ rfl (put4 (KH.out _ B4) _ _ _ _) Tryz.underlying25 rfl (by rw [info_v4]; rfl)) rfl ⟨rfl, below4 (btr B0 B4) _ (Nat.le_refl _) _ _ _ _⟩

set_option maxRecDepth 100000 in
set_option maxHeartbeats 2000000 in
theorem y_dec0_OT (w : World) (b o c : Nat) (hb : b < w.heap.size) (h1 : ValIn w b o 1 1 0 noS) (h2 : ValIn w b (o + 4) 1 0 0 noS) :
    Calls Tryz.prog 129 #[.slice (some ⟨b, o, none⟩) 2 c, .bool false] w fun e w' => e = .returned (V 1 0 0 noS) ∧ Below w.heap.size w w' := by
  have K := Lib.hid (two_ofO hb h1 h2)
  have hr0 := heap_alloc_new w (.cells #[.int .i64 0, .int .i64 0, .int .i64 0, .string ⟨#[]⟩] 25)
  have HR0 := Lib.hid hr0
  clear h1 h2 hr0
  go_enter Tryz.func129, Tryz.ntmps129
  go_wp2_with fail
  generalize HW : w.alloc (.cells #[.int .i64 0, .int .i64 0, .int .i64 0, .string ⟨#[]⟩] 25) = W0 at *
  have B0 : Below w.heap.size w W0 := by rw [← HW]; exact (Below.refl _ _).alloc (Nat.le_refl _) _
  have hz0 : w.heap.size < W0.heap.size := by rw [← HW]; simp
  clear HW
  have KH : Hid (∀ W, Below W0.heap.size W0 W → W.heap[w.heap.size]? = some (.cells #[.int .i64 0, .int .i64 0, .int .i64 0, .string ⟨#[]⟩] 25 (0, 0))) := fun W hW => (hW.block _ hz0).trans HR0.out
  have KR : Hid (∀ W, Below W0.heap.size W0 W → ResAt W w.heap.size) := fun W hW => res_at ((hW.block _ hz0).trans HR0.out)
  have B0d : Below W0.heap.size W0 W0.drew := Below.drew (Below.refl _ _)
  go_region_held3 (fun w' => (w'.cell? ⟨b, o, none⟩ = some (.int .i64 1) ∧ w'.cell? ⟨b, o + 1, none⟩ = some (.int .i64 1) ∧ w'.cell? ⟨b, o + 2, none⟩ = some (.int .i64 0) ∧ w'.cell? ⟨b, o + 3, none⟩ = some (.string noS)) ∧ (w'.cell? ⟨b, o + 4, none⟩ = some (.int .i64 1) ∧ w'.cell? ⟨b, o + 5, none⟩ = some (.int .i64 0) ∧ w'.cell? ⟨b, o + 6, none⟩ = some (.int .i64 0) ∧ w'.cell? ⟨b, o + 7, none⟩ = some (.string noS)))
    (first | exact K.out _ (btr B0 B2) | exact K.out _ (btr B0 B1) | exact K.out _ (btr B0 B0d) | exact K.out _ B0) (first
      | (go_at_call 62; refine (c_truth0 W0.drew).mono ?_; rintro e w1 ⟨rfl, hb1⟩; have B1 : Below W0.heap.size W0 w1 := btr B0d hb1)
      | (go_at_call 62; refine (c_truth0 w1).mono ?_; rintro e w2 ⟨rfl, hb2⟩; have B2 : Below W0.heap.size W0 w2 := btr B1 hb2))
  go_wp2_with fail
  refine (c_truth0 _).mono ?_
  rintro e w3 ⟨rfl, hb3⟩
  have B3 : Below W0.heap.size W0 w3 := btr B2 hb3
  obtain ⟨r0, r1, r2, r3, f0, f1, f2, f3⟩ := KR.out _ B3
  go_wp2
  exact bodyPost_ret (v := V 1 0 0 noS) (results_cell_row Tryz.results129 _ _ w.heap.size 25 _ (0, 0) _ rfl (put4 (KH.out _ B3) _ _ _ _) Tryz.underlying25 rfl (by rw [info_v4]; rfl)) rfl ⟨rfl, below4 (btr B0 B3) _ (Nat.le_refl _) _ _ _ _⟩

set_option maxRecDepth 100000 in
set_option maxHeartbeats 2000000 in
theorem y_dec0_OM (w : World) (b o c : Nat) (n1 : Int) (hb : b < w.heap.size) (h1 : ValIn w b o 1 1 0 noS) (h2 : ValIn w b (o + 4) 0 n1 0 noS) :
    Calls Tryz.prog 129 #[.slice (some ⟨b, o, none⟩) 2 c, .bool false] w fun e w' => e = .returned (V 0 n1 0 noS) ∧ Below w.heap.size w w' := by
  have K := Lib.hid (two_ofO hb h1 h2)
  have hr0 := heap_alloc_new w (.cells #[.int .i64 0, .int .i64 0, .int .i64 0, .string ⟨#[]⟩] 25)
  have HR0 := Lib.hid hr0
  clear h1 h2 hr0
  go_enter Tryz.func129, Tryz.ntmps129
  go_wp2_with fail
  generalize HW : w.alloc (.cells #[.int .i64 0, .int .i64 0, .int .i64 0, .string ⟨#[]⟩] 25) = W0 at *
  have B0 : Below w.heap.size w W0 := by rw [← HW]; exact (Below.refl _ _).alloc (Nat.le_refl _) _
  have hz0 : w.heap.size < W0.heap.size := by rw [← HW]; simp
  clear HW
  have KH : Hid (∀ W, Below W0.heap.size W0 W → W.heap[w.heap.size]? = some (.cells #[.int .i64 0, .int .i64 0, .int .i64 0, .string ⟨#[]⟩] 25 (0, 0))) := fun W hW => (hW.block _ hz0).trans HR0.out
  have KR : Hid (∀ W, Below W0.heap.size W0 W → ResAt W w.heap.size) := fun W hW => res_at ((hW.block _ hz0).trans HR0.out)
  have B0d : Below W0.heap.size W0 W0.drew := Below.drew (Below.refl _ _)
  go_region_held3 (fun w' => (w'.cell? ⟨b, o, none⟩ = some (.int .i64 1) ∧ w'.cell? ⟨b, o + 1, none⟩ = some (.int .i64 1) ∧ w'.cell? ⟨b, o + 2, none⟩ = some (.int .i64 0) ∧ w'.cell? ⟨b, o + 3, none⟩ = some (.string noS)) ∧ (w'.cell? ⟨b, o + 4, none⟩ = some (.int .i64 0) ∧ w'.cell? ⟨b, o + 5, none⟩ = some (.int .i64 n1) ∧ w'.cell? ⟨b, o + 6, none⟩ = some (.int .i64 0) ∧ w'.cell? ⟨b, o + 7, none⟩ = some (.string noS)))
    (first | exact K.out _ (btr B0 B2) | exact K.out _ (btr B0 B1) | exact K.out _ (btr B0 B0d) | exact K.out _ B0) (first
      | (go_at_call 62; refine (c_truth0 W0.drew).mono ?_; rintro e w1 ⟨rfl, hb1⟩; have B1 : Below W0.heap.size W0 w1 := btr B0d hb1)
      | (go_at_call 62; refine (c_truth0 w1).mono ?_; rintro e w2 ⟨rfl, hb2⟩; have B2 : Below W0.heap.size W0 w2 := btr B1 hb2))
  go_wp2_with fail
  have B2d : Below W0.heap.size W0 w2.drew := Below.drew B2
  go_region_held3 (fun w' => (w'.cell? ⟨b, o, none⟩ = some (.int .i64 1) ∧ w'.cell? ⟨b, o + 1, none⟩ = some (.int .i64 1) ∧ w'.cell? ⟨b, o + 2, none⟩ = some (.int .i64 0) ∧ w'.cell? ⟨b, o + 3, none⟩ = some (.string noS)) ∧ (w'.cell? ⟨b, o + 4, none⟩ = some (.int .i64 0) ∧ w'.cell? ⟨b, o + 5, none⟩ = some (.int .i64 n1) ∧ w'.cell? ⟨b, o + 6, none⟩ = some (.int .i64 0) ∧ w'.cell? ⟨b, o + 7, none⟩ = some (.string noS)))
    (first | exact K.out _ (((((btr B0 B4).setCell (p := ⟨w.heap.size, 0, none⟩) (Nat.le_refl w.heap.size) _).setCell (p := ⟨w.heap.size, 1, none⟩) (Nat.le_refl w.heap.size) _).setCell (p := ⟨w.heap.size, 2, none⟩) (Nat.le_refl w.heap.size) _).setCell (p := ⟨w.heap.size, 3, none⟩) (Nat.le_refl w.heap.size) _) | exact K.out _ (btr B0 B4) | exact K.out _ (btr B0 B3) | exact K.out _ (btr B0 B2d) | exact K.out _ (btr B0 B2)) (first
      | (go_at_call 26; refine (c_isMissing1 1 0 noS _).mono ?_; rintro e w3 ⟨rfl, hb3⟩; have B3 : Below W0.heap.size W0 w3 := btr B2d hb3)
      | (go_at_call 132; refine (c_chosen false 1 1 0 noS 0 n1 0 noS _).mono ?_; rintro e w4 ⟨rfl, hb4⟩; have B4 : Below W0.heap.size W0 w4 := btr B3 hb4; obtain ⟨r0, r1, r2, r3, f0, f1, f2, f3⟩ := KR.out _ B4))
  go_wp2
  exact bodyPost_ret (v := V 0 n1 0 noS) (results_cell_row Tryz.results129 _ _ w.heap.size 25 _ (0, 0) _ rfl (put4 (KH.out _ B4) _ _ _ _) Tryz.underlying25 rfl (by rw [info_v4]; rfl)) rfl ⟨rfl, below4 (btr B0 B4) _ (Nat.le_refl _) _ _ _ _⟩

set_option maxRecDepth 100000 in
set_option maxHeartbeats 2000000 in
theorem y_dec0_OO (w : World) (b o c : Nat) (hb : b < w.heap.size) (h1 : ValIn w b o 1 1 0 noS) (h2 : ValIn w b (o + 4) 1 1 0 noS) :
    Calls Tryz.prog 129 #[.slice (some ⟨b, o, none⟩) 2 c, .bool false] w fun e w' => e = .returned (V 1 1 0 noS) ∧ Below w.heap.size w w' := by
  have K := Lib.hid (two_ofO hb h1 h2)
  have hr0 := heap_alloc_new w (.cells #[.int .i64 0, .int .i64 0, .int .i64 0, .string ⟨#[]⟩] 25)
  have HR0 := Lib.hid hr0
  clear h1 h2 hr0
  go_enter Tryz.func129, Tryz.ntmps129
  go_wp2_with fail
  generalize HW : w.alloc (.cells #[.int .i64 0, .int .i64 0, .int .i64 0, .string ⟨#[]⟩] 25) = W0 at *
  have B0 : Below w.heap.size w W0 := by rw [← HW]; exact (Below.refl _ _).alloc (Nat.le_refl _) _
  have hz0 : w.heap.size < W0.heap.size := by rw [← HW]; simp
  clear HW
  have KH : Hid (∀ W, Below W0.heap.size W0 W → W.heap[w.heap.size]? = some (.cells #[.int .i64 0, .int .i64 0, .int .i64 0, .string ⟨#[]⟩] 25 (0, 0))) := fun W hW => (hW.block _ hz0).trans HR0.out
  have KR : Hid (∀ W, Below W0.heap.size W0 W → ResAt W w.heap.size) := fun W hW => res_at ((hW.block _ hz0).trans HR0.out)
  have B0d : Below W0.heap.size W0 W0.drew := Below.drew (Below.refl _ _)
  go_region_held3 (fun w' => (w'.cell? ⟨b, o, none⟩ = some (.int .i64 1) ∧ w'.cell? ⟨b, o + 1, none⟩ = some (.int .i64 1) ∧ w'.cell? ⟨b, o + 2, none⟩ = some (.int .i64 0) ∧ w'.cell? ⟨b, o + 3, none⟩ = some (.string noS)) ∧ (w'.cell? ⟨b, o + 4, none⟩ = some (.int .i64 1) ∧ w'.cell? ⟨b, o + 5, none⟩ = some (.int .i64 1) ∧ w'.cell? ⟨b, o + 6, none⟩ = some (.int .i64 0) ∧ w'.cell? ⟨b, o + 7, none⟩ = some (.string noS)))
    (first | exact K.out _ (btr B0 B2) | exact K.out _ (btr B0 B1) | exact K.out _ (btr B0 B0d) | exact K.out _ B0) (first
      | (go_at_call 62; refine (c_truth0 W0.drew).mono ?_; rintro e w1 ⟨rfl, hb1⟩; have B1 : Below W0.heap.size W0 w1 := btr B0d hb1)
      | (go_at_call 62; refine (c_truth0 w1).mono ?_; rintro e w2 ⟨rfl, hb2⟩; have B2 : Below W0.heap.size W0 w2 := btr B1 hb2))
  go_wp2_with fail
  have B2d : Below W0.heap.size W0 w2.drew := Below.drew B2
  go_region_held3 (fun w' => (w'.cell? ⟨b, o, none⟩ = some (.int .i64 1) ∧ w'.cell? ⟨b, o + 1, none⟩ = some (.int .i64 1) ∧ w'.cell? ⟨b, o + 2, none⟩ = some (.int .i64 0) ∧ w'.cell? ⟨b, o + 3, none⟩ = some (.string noS)) ∧ (w'.cell? ⟨b, o + 4, none⟩ = some (.int .i64 1) ∧ w'.cell? ⟨b, o + 5, none⟩ = some (.int .i64 1) ∧ w'.cell? ⟨b, o + 6, none⟩ = some (.int .i64 0) ∧ w'.cell? ⟨b, o + 7, none⟩ = some (.string noS)))
    (first | exact K.out _ (((((btr B0 B4).setCell (p := ⟨w.heap.size, 0, none⟩) (Nat.le_refl w.heap.size) _).setCell (p := ⟨w.heap.size, 1, none⟩) (Nat.le_refl w.heap.size) _).setCell (p := ⟨w.heap.size, 2, none⟩) (Nat.le_refl w.heap.size) _).setCell (p := ⟨w.heap.size, 3, none⟩) (Nat.le_refl w.heap.size) _) | exact K.out _ (btr B0 B4) | exact K.out _ (btr B0 B3) | exact K.out _ (btr B0 B2d) | exact K.out _ (btr B0 B2)) (first
      | (go_at_call 26; refine (c_isMissing1 1 0 noS _).mono ?_; rintro e w3 ⟨rfl, hb3⟩; have B3 : Below W0.heap.size W0 w3 := btr B2d hb3)
      | (go_at_call 132; refine (c_chosen false 1 1 0 noS 1 1 0 noS _).mono ?_; rintro e w4 ⟨rfl, hb4⟩; have B4 : Below W0.heap.size W0 w4 := btr B3 hb4; obtain ⟨r0, r1, r2, r3, f0, f1, f2, f3⟩ := KR.out _ B4))
  go_wp2
  exact bodyPost_ret (v := V 1 1 0 noS) (results_cell_row Tryz.results129 _ _ w.heap.size 25 _ (0, 0) _ rfl (put4 (KH.out _ B4) _ _ _ _) Tryz.underlying25 rfl (by rw [info_v4]; rfl)) rfl ⟨rfl, below4 (btr B0 B4) _ (Nat.le_refl _) _ _ _ _⟩

set_option maxRecDepth 100000 in
set_option maxHeartbeats 2000000 in
theorem y_dec1_T (w : World) (b o c : Nat) (k1 n1 d1 : Int) (s1 : ByteArray) (hb : b < w.heap.size) (h1 : ValIn w b o 1 1 0 noS) (h2 : ValIn w b (o + 4) k1 n1 d1 s1) :
    Calls Tryz.prog 129 #[.slice (some ⟨b, o, none⟩) 2 c, .bool true] w fun e w' => e = .returned (V 1 1 0 noS) ∧ Below w.heap.size w w' := by
  have K := Lib.hid (two_ofO hb h1 h2)
  have hr0 := heap_alloc_new w (.cells #[.int .i64 0, .int .i64 0, .int .i64 0, .string ⟨#[]⟩] 25)
  have HR0 := Lib.hid hr0
  clear h1 h2 hr0
  go_enter Tryz.func129, Tryz.ntmps129
  go_wp2_with fail
  generalize HW : w.alloc (.cells #[.int .i64 0, .int .i64 0, .int .i64 0, .string ⟨#[]⟩] 25) = W0 at *
  have B0 : Below w.heap.size w W0 := by rw [← HW]; exact (Below.refl _ _).alloc (Nat.le_refl _) _
  have hz0 : w.heap.size < W0.heap.size := by rw [← HW]; simp
  clear HW
  have KH : Hid (∀ W, Below W0.heap.size W0 W → W.heap[w.heap.size]? = some (.cells #[.int .i64 0, .int .i64 0, .int .i64 0, .string ⟨#[]⟩] 25 (0, 0))) := fun W hW => (hW.block _ hz0).trans HR0.out
  have KR : Hid (∀ W, Below W0.heap.size W0 W → ResAt W w.heap.size) := fun W hW => res_at ((hW.block _ hz0).trans HR0.out)
  have B0d : Below W0.heap.size W0 W0.drew := Below.drew (Below.refl _ _)
  obtain ⟨⟨a0, a1, a2, a3⟩, -⟩ := K.out _ B0
  first
    | go_region_with (first | (go_at_call 62; refine (c_truth1 _).mono ?_; rintro e w1 ⟨rfl, hb1⟩; have B1 : Below W0.heap.size W0 w1 := btr B0d hb1; obtain ⟨⟨e0, e1, e2, e3⟩, -⟩ := K.out _ (btr B0 B1)))
    | fail
  all_goals
    go_wp2_with fail
    refine (c_truth1 _).mono ?_
    rintro e w3 ⟨rfl, hb3⟩
    have B3 : Below W0.heap.size W0 w3 := btr B1 hb3
    obtain ⟨r0, r1, r2, r3, f0, f1, f2, f3⟩ := KR.out _ B3
    go_wp2
    exact bodyPost_ret (v := V 1 1 0 noS) (results_cell_row Tryz.results129 _ _ w.heap.size 25 _ (0, 0) _ rfl (put4 (KH.out _ B3) _ _ _ _) Tryz.underlying25 rfl (by rw [info_v4]; rfl)) rfl ⟨rfl, below4 (btr B0 B3) _ (Nat.le_refl _) _ _ _ _⟩

set_option maxRecDepth 100000 in
set_option maxHeartbeats 2000000 in
theorem y_dec1_MT (w : World) (b o c : Nat) (n0 : Int) (hb : b < w.heap.size) (h1 : ValIn w b o 0 n0 0 noS) (h2 : ValIn w b (o + 4) 1 1 0 noS) :
    Calls Tryz.prog 129 #[.slice (some ⟨b, o, none⟩) 2 c, .bool true] w fun e w' => e = .returned (V 1 1 0 noS) ∧ Below w.heap.size w w' := by
  have K := Lib.hid (two_ofO hb h1 h2)
  have hr0 := heap_alloc_new w (.cells #[.int .i64 0, .int .i64 0, .int .i64 0, .string ⟨#[]⟩] 25)
  have HR0 := Lib.hid hr0
  clear h1 h2 hr0
  go_enter Tryz.func129, Tryz.ntmps129
  go_wp2_with fail
  generalize HW : w.alloc (.cells #[.int .i64 0, .int .i64 0, .int .i64 0, .string ⟨#[]⟩] 25) = W0 at *
  have B0 : Below w.heap.size w W0 := by rw [← HW]; exact (Below.refl _ _).alloc (Nat.le_refl _) _
  have hz0 : w.heap.size < W0.heap.size := by rw [← HW]; simp
  clear HW
  have KH : Hid (∀ W, Below W0.heap.size W0 W → W.heap[w.heap.size]? = some (.cells #[.int .i64 0, .int .i64 0, .int .i64 0, .string ⟨#[]⟩] 25 (0, 0))) := fun W hW => (hW.block _ hz0).trans HR0.out
  have KR : Hid (∀ W, Below W0.heap.size W0 W → ResAt W w.heap.size) := fun W hW => res_at ((hW.block _ hz0).trans HR0.out)
  have B0d : Below W0.heap.size W0 W0.drew := Below.drew (Below.refl _ _)
  go_region_held3 (fun w' => (w'.cell? ⟨b, o, none⟩ = some (.int .i64 0) ∧ w'.cell? ⟨b, o + 1, none⟩ = some (.int .i64 n0) ∧ w'.cell? ⟨b, o + 2, none⟩ = some (.int .i64 0) ∧ w'.cell? ⟨b, o + 3, none⟩ = some (.string noS)) ∧ (w'.cell? ⟨b, o + 4, none⟩ = some (.int .i64 1) ∧ w'.cell? ⟨b, o + 5, none⟩ = some (.int .i64 1) ∧ w'.cell? ⟨b, o + 6, none⟩ = some (.int .i64 0) ∧ w'.cell? ⟨b, o + 7, none⟩ = some (.string noS)))
    (first | exact K.out _ (btr B0 B2) | exact K.out _ (btr B0 B1) | exact K.out _ (btr B0 B0d) | exact K.out _ B0) (first
      | (go_at_call 62; refine (c_truth1 W0.drew).mono ?_; rintro e w1 ⟨rfl, hb1⟩; have B1 : Below W0.heap.size W0 w1 := btr B0d hb1)
      | (go_at_call 62; refine (c_truth1 w1).mono ?_; rintro e w2 ⟨rfl, hb2⟩; have B2 : Below W0.heap.size W0 w2 := btr B1 hb2))
  go_wp2_with fail
  refine (c_truth1 _).mono ?_
  rintro e w3 ⟨rfl, hb3⟩
  have B3 : Below W0.heap.size W0 w3 := btr B2 hb3
  obtain ⟨r0, r1, r2, r3, f0, f1, f2, f3⟩ := KR.out _ B3
  go_wp2
  exact bodyPost_ret (v := V 1 1 0 noS) (results_cell_row Tryz.results129 _ _ w.heap.size 25 _ (0, 0) _ rfl (put4 (KH.out _ B3) _ _ _ _) Tryz.underlying25 rfl (by rw [info_v4]; rfl)) rfl ⟨rfl, below4 (btr B0 B3) _ (Nat.le_refl _) _ _ _ _⟩

set_option maxRecDepth 100000 in
set_option maxHeartbeats 2000000 in
theorem y_dec1_MM (w : World) (b o c : Nat) (n0 : Int) (n1 : Int) (hb : b < w.heap.size) (h1 : ValIn w b o 0 n0 0 noS) (h2 : ValIn w b (o + 4) 0 n1 0 noS) :
    Calls Tryz.prog 129 #[.slice (some ⟨b, o, none⟩) 2 c, .bool true] w fun e w' => e = .returned (V 0 n0 0 noS) ∧ Below w.heap.size w w' := by
  have K := Lib.hid (two_ofO hb h1 h2)
  have hr0 := heap_alloc_new w (.cells #[.int .i64 0, .int .i64 0, .int .i64 0, .string ⟨#[]⟩] 25)
  have HR0 := Lib.hid hr0
  clear h1 h2 hr0
  go_enter Tryz.func129, Tryz.ntmps129
  go_wp2_with fail
  generalize HW : w.alloc (.cells #[.int .i64 0, .int .i64 0, .int .i64 0, .string ⟨#[]⟩] 25) = W0 at *
  have B0 : Below w.heap.size w W0 := by rw [← HW]; exact (Below.refl _ _).alloc (Nat.le_refl _) _
  have hz0 : w.heap.size < W0.heap.size := by rw [← HW]; simp
  clear HW
  have KH : Hid (∀ W, Below W0.heap.size W0 W → W.heap[w.heap.size]? = some (.cells #[.int .i64 0, .int .i64 0, .int .i64 0, .string ⟨#[]⟩] 25 (0, 0))) := fun W hW => (hW.block _ hz0).trans HR0.out
  have KR : Hid (∀ W, Below W0.heap.size W0 W → ResAt W w.heap.size) := fun W hW => res_at ((hW.block _ hz0).trans HR0.out)
  have B0d : Below W0.heap.size W0 W0.drew := Below.drew (Below.refl _ _)
  go_region_held3 (fun w' => (w'.cell? ⟨b, o, none⟩ = some (.int .i64 0) ∧ w'.cell? ⟨b, o + 1, none⟩ = some (.int .i64 n0) ∧ w'.cell? ⟨b, o + 2, none⟩ = some (.int .i64 0) ∧ w'.cell? ⟨b, o + 3, none⟩ = some (.string noS)) ∧ (w'.cell? ⟨b, o + 4, none⟩ = some (.int .i64 0) ∧ w'.cell? ⟨b, o + 5, none⟩ = some (.int .i64 n1) ∧ w'.cell? ⟨b, o + 6, none⟩ = some (.int .i64 0) ∧ w'.cell? ⟨b, o + 7, none⟩ = some (.string noS)))
    (first | exact K.out _ (btr B0 B2) | exact K.out _ (btr B0 B1) | exact K.out _ (btr B0 B0d) | exact K.out _ B0) (first
      | (go_at_call 62; refine (c_truth1 W0.drew).mono ?_; rintro e w1 ⟨rfl, hb1⟩; have B1 : Below W0.heap.size W0 w1 := btr B0d hb1)
      | (go_at_call 62; refine (c_truth1 w1).mono ?_; rintro e w2 ⟨rfl, hb2⟩; have B2 : Below W0.heap.size W0 w2 := btr B1 hb2))
  go_wp2_with fail
  have B2d : Below W0.heap.size W0 w2.drew := Below.drew B2
  go_region_held3 (fun w' => (w'.cell? ⟨b, o, none⟩ = some (.int .i64 0) ∧ w'.cell? ⟨b, o + 1, none⟩ = some (.int .i64 n0) ∧ w'.cell? ⟨b, o + 2, none⟩ = some (.int .i64 0) ∧ w'.cell? ⟨b, o + 3, none⟩ = some (.string noS)) ∧ (w'.cell? ⟨b, o + 4, none⟩ = some (.int .i64 0) ∧ w'.cell? ⟨b, o + 5, none⟩ = some (.int .i64 n1) ∧ w'.cell? ⟨b, o + 6, none⟩ = some (.int .i64 0) ∧ w'.cell? ⟨b, o + 7, none⟩ = some (.string noS)))
    (first | exact K.out _ (((((btr B0 B4).setCell (p := ⟨w.heap.size, 0, none⟩) (Nat.le_refl w.heap.size) _).setCell (p := ⟨w.heap.size, 1, none⟩) (Nat.le_refl w.heap.size) _).setCell (p := ⟨w.heap.size, 2, none⟩) (Nat.le_refl w.heap.size) _).setCell (p := ⟨w.heap.size, 3, none⟩) (Nat.le_refl w.heap.size) _) | exact K.out _ (btr B0 B4) | exact K.out _ (btr B0 B3) | exact K.out _ (btr B0 B2d) | exact K.out _ (btr B0 B2)) (first
      | (go_at_call 26; refine (c_isMissing0 n0 0 noS _).mono ?_; rintro e w3 ⟨rfl, hb3⟩; have B3 : Below W0.heap.size W0 w3 := btr B2d hb3)
      | (go_at_call 132; refine (c_chosen true 0 n0 0 noS 0 n1 0 noS _).mono ?_; rintro e w4 ⟨rfl, hb4⟩; have B4 : Below W0.heap.size W0 w4 := btr B3 hb4; obtain ⟨r0, r1, r2, r3, f0, f1, f2, f3⟩ := KR.out _ B4))
  go_wp2
  exact bodyPost_ret (v := V 0 n0 0 noS) (results_cell_row Tryz.results129 _ _ w.heap.size 25 _ (0, 0) _ rfl (put4 (KH.out _ B4) _ _ _ _) Tryz.underlying25 rfl (by rw [info_v4]; rfl)) rfl ⟨rfl, below4 (btr B0 B4) _ (Nat.le_refl _) _ _ _ _⟩

set_option maxRecDepth 100000 in
set_option maxHeartbeats 2000000 in
theorem y_dec1_MO (w : World) (b o c : Nat) (n0 : Int) (hb : b < w.heap.size) (h1 : ValIn w b o 0 n0 0 noS) (h2 : ValIn w b (o + 4) 1 0 0 noS) :
    Calls Tryz.prog 129 #[.slice (some ⟨b, o, none⟩) 2 c, .bool true] w fun e w' => e = .returned (V 0 n0 0 noS) ∧ Below w.heap.size w w' := by
  have K := Lib.hid (two_ofO hb h1 h2)
  have hr0 := heap_alloc_new w (.cells #[.int .i64 0, .int .i64 0, .int .i64 0, .string ⟨#[]⟩] 25)
  have HR0 := Lib.hid hr0
  clear h1 h2 hr0
  go_enter Tryz.func129, Tryz.ntmps129
  go_wp2_with fail
  generalize HW : w.alloc (.cells #[.int .i64 0, .int .i64 0, .int .i64 0, .string ⟨#[]⟩] 25) = W0 at *
  have B0 : Below w.heap.size w W0 := by rw [← HW]; exact (Below.refl _ _).alloc (Nat.le_refl _) _
  have hz0 : w.heap.size < W0.heap.size := by rw [← HW]; simp
  clear HW
  have KH : Hid (∀ W, Below W0.heap.size W0 W → W.heap[w.heap.size]? = some (.cells #[.int .i64 0, .int .i64 0, .int .i64 0, .string ⟨#[]⟩] 25 (0, 0))) := fun W hW => (hW.block _ hz0).trans HR0.out
  have KR : Hid (∀ W, Below W0.heap.size W0 W → ResAt W w.heap.size) := fun W hW => res_at ((hW.block _ hz0).trans HR0.out)
  have B0d : Below W0.heap.size W0 W0.drew := Below.drew (Below.refl _ _)
  go_region_held3 (fun w' => (w'.cell? ⟨b, o, none⟩ = some (.int .i64 0) ∧ w'.cell? ⟨b, o + 1, none⟩ = some (.int .i64 n0) ∧ w'.cell? ⟨b, o + 2, none⟩ = some (.int .i64 0) ∧ w'.cell? ⟨b, o + 3, none⟩ = some (.string noS)) ∧ (w'.cell? ⟨b, o + 4, none⟩ = some (.int .i64 1) ∧ w'.cell? ⟨b, o + 5, none⟩ = some (.int .i64 0) ∧ w'.cell? ⟨b, o + 6, none⟩ = some (.int .i64 0) ∧ w'.cell? ⟨b, o + 7, none⟩ = some (.string noS)))
    (first | exact K.out _ (btr B0 B2) | exact K.out _ (btr B0 B1) | exact K.out _ (btr B0 B0d) | exact K.out _ B0) (first
      | (go_at_call 62; refine (c_truth1 W0.drew).mono ?_; rintro e w1 ⟨rfl, hb1⟩; have B1 : Below W0.heap.size W0 w1 := btr B0d hb1)
      | (go_at_call 62; refine (c_truth1 w1).mono ?_; rintro e w2 ⟨rfl, hb2⟩; have B2 : Below W0.heap.size W0 w2 := btr B1 hb2))
  go_wp2_with fail
  have B2d : Below W0.heap.size W0 w2.drew := Below.drew B2
  go_region_held3 (fun w' => (w'.cell? ⟨b, o, none⟩ = some (.int .i64 0) ∧ w'.cell? ⟨b, o + 1, none⟩ = some (.int .i64 n0) ∧ w'.cell? ⟨b, o + 2, none⟩ = some (.int .i64 0) ∧ w'.cell? ⟨b, o + 3, none⟩ = some (.string noS)) ∧ (w'.cell? ⟨b, o + 4, none⟩ = some (.int .i64 1) ∧ w'.cell? ⟨b, o + 5, none⟩ = some (.int .i64 0) ∧ w'.cell? ⟨b, o + 6, none⟩ = some (.int .i64 0) ∧ w'.cell? ⟨b, o + 7, none⟩ = some (.string noS)))
    (first | exact K.out _ (((((btr B0 B4).setCell (p := ⟨w.heap.size, 0, none⟩) (Nat.le_refl w.heap.size) _).setCell (p := ⟨w.heap.size, 1, none⟩) (Nat.le_refl w.heap.size) _).setCell (p := ⟨w.heap.size, 2, none⟩) (Nat.le_refl w.heap.size) _).setCell (p := ⟨w.heap.size, 3, none⟩) (Nat.le_refl w.heap.size) _) | exact K.out _ (btr B0 B4) | exact K.out _ (btr B0 B3) | exact K.out _ (btr B0 B2d) | exact K.out _ (btr B0 B2)) (first
      | (go_at_call 26; refine (c_isMissing0 n0 0 noS _).mono ?_; rintro e w3 ⟨rfl, hb3⟩; have B3 : Below W0.heap.size W0 w3 := btr B2d hb3)
      | (go_at_call 132; refine (c_chosen true 0 n0 0 noS 1 0 0 noS _).mono ?_; rintro e w4 ⟨rfl, hb4⟩; have B4 : Below W0.heap.size W0 w4 := btr B3 hb4; obtain ⟨r0, r1, r2, r3, f0, f1, f2, f3⟩ := KR.out _ B4))
  go_wp2
  exact bodyPost_ret (v := V 0 n0 0 noS) (results_cell_row Tryz.results129 _ _ w.heap.size 25 _ (0, 0) _ rfl (put4 (KH.out _ B4) _ _ _ _) Tryz.underlying25 rfl (by rw [info_v4]; rfl)) rfl ⟨rfl, below4 (btr B0 B4) _ (Nat.le_refl _) _ _ _ _⟩

set_option maxRecDepth 100000 in
set_option maxHeartbeats 2000000 in
theorem y_dec1_OT (w : World) (b o c : Nat) (hb : b < w.heap.size) (h1 : ValIn w b o 1 0 0 noS) (h2 : ValIn w b (o + 4) 1 1 0 noS) :
    Calls Tryz.prog 129 #[.slice (some ⟨b, o, none⟩) 2 c, .bool true] w fun e w' => e = .returned (V 1 1 0 noS) ∧ Below w.heap.size w w' := by
  have K := Lib.hid (two_ofO hb h1 h2)
  have hr0 := heap_alloc_new w (.cells #[.int .i64 0, .int .i64 0, .int .i64 0, .string ⟨#[]⟩] 25)
  have HR0 := Lib.hid hr0
  clear h1 h2 hr0
  go_enter Tryz.func129, Tryz.ntmps129
  go_wp2_with fail
  generalize HW : w.alloc (.cells #[.int .i64 0, .int .i64 0, .int .i64 0, .string ⟨#[]⟩] 25) = W0 at *
  have B0 : Below w.heap.size w W0 := by rw [← HW]; exact (Below.refl _ _).alloc (Nat.le_refl _) _
  have hz0 : w.heap.size < W0.heap.size := by rw [← HW]; simp
  clear HW
  have KH : Hid (∀ W, Below W0.heap.size W0 W → W.heap[w.heap.size]? = some (.cells #[.int .i64 0, .int .i64 0, .int .i64 0, .string ⟨#[]⟩] 25 (0, 0))) := fun W hW => (hW.block _ hz0).trans HR0.out
  have KR : Hid (∀ W, Below W0.heap.size W0 W → ResAt W w.heap.size) := fun W hW => res_at ((hW.block _ hz0).trans HR0.out)
  have B0d : Below W0.heap.size W0 W0.drew := Below.drew (Below.refl _ _)
  go_region_held3 (fun w' => (w'.cell? ⟨b, o, none⟩ = some (.int .i64 1) ∧ w'.cell? ⟨b, o + 1, none⟩ = some (.int .i64 0) ∧ w'.cell? ⟨b, o + 2, none⟩ = some (.int .i64 0) ∧ w'.cell? ⟨b, o + 3, none⟩ = some (.string noS)) ∧ (w'.cell? ⟨b, o + 4, none⟩ = some (.int .i64 1) ∧ w'.cell? ⟨b, o + 5, none⟩ = some (.int .i64 1) ∧ w'.cell? ⟨b, o + 6, none⟩ = some (.int .i64 0) ∧ w'.cell? ⟨b, o + 7, none⟩ = some (.string noS)))
    (first | exact K.out _ (btr B0 B2) | exact K.out _ (btr B0 B1) | exact K.out _ (btr B0 B0d) | exact K.out _ B0) (first
      | (go_at_call 62; refine (c_truth1 W0.drew).mono ?_; rintro e w1 ⟨rfl, hb1⟩; have B1 : Below W0.heap.size W0 w1 := btr B0d hb1)
      | (go_at_call 62; refine (c_truth1 w1).mono ?_; rintro e w2 ⟨rfl, hb2⟩; have B2 : Below W0.heap.size W0 w2 := btr B1 hb2))
  go_wp2_with fail
  refine (c_truth1 _).mono ?_
  rintro e w3 ⟨rfl, hb3⟩
  have B3 : Below W0.heap.size W0 w3 := btr B2 hb3
  obtain ⟨r0, r1, r2, r3, f0, f1, f2, f3⟩ := KR.out _ B3
  go_wp2
  exact bodyPost_ret (v := V 1 1 0 noS) (results_cell_row Tryz.results129 _ _ w.heap.size 25 _ (0, 0) _ rfl (put4 (KH.out _ B3) _ _ _ _) Tryz.underlying25 rfl (by rw [info_v4]; rfl)) rfl ⟨rfl, below4 (btr B0 B3) _ (Nat.le_refl _) _ _ _ _⟩

set_option maxRecDepth 100000 in
set_option maxHeartbeats 2000000 in
theorem y_dec1_OM (w : World) (b o c : Nat) (n1 : Int) (hb : b < w.heap.size) (h1 : ValIn w b o 1 0 0 noS) (h2 : ValIn w b (o + 4) 0 n1 0 noS) :
    Calls Tryz.prog 129 #[.slice (some ⟨b, o, none⟩) 2 c, .bool true] w fun e w' => e = .returned (V 0 n1 0 noS) ∧ Below w.heap.size w w' := by
  have K := Lib.hid (two_ofO hb h1 h2)
  have hr0 := heap_alloc_new w (.cells #[.int .i64 0, .int .i64 0, .int .i64 0, .string ⟨#[]⟩] 25)
  have HR0 := Lib.hid hr0
  clear h1 h2 hr0
  go_enter Tryz.func129, Tryz.ntmps129
  go_wp2_with fail
  generalize HW : w.alloc (.cells #[.int .i64 0, .int .i64 0, .int .i64 0, .string ⟨#[]⟩] 25) = W0 at *
  have B0 : Below w.heap.size w W0 := by rw [← HW]; exact (Below.refl _ _).alloc (Nat.le_refl _) _
  have hz0 : w.heap.size < W0.heap.size := by rw [← HW]; simp
  clear HW
  have KH : Hid (∀ W, Below W0.heap.size W0 W → W.heap[w.heap.size]? = some (.cells #[.int .i64 0, .int .i64 0, .int .i64 0, .string ⟨#[]⟩] 25 (0, 0))) := fun W hW => (hW.block _ hz0).trans HR0.out
  have KR : Hid (∀ W, Below W0.heap.size W0 W → ResAt W w.heap.size) := fun W hW => res_at ((hW.block _ hz0).trans HR0.out)
  have B0d : Below W0.heap.size W0 W0.drew := Below.drew (Below.refl _ _)
  go_region_held3 (fun w' => (w'.cell? ⟨b, o, none⟩ = some (.int .i64 1) ∧ w'.cell? ⟨b, o + 1, none⟩ = some (.int .i64 0) ∧ w'.cell? ⟨b, o + 2, none⟩ = some (.int .i64 0) ∧ w'.cell? ⟨b, o + 3, none⟩ = some (.string noS)) ∧ (w'.cell? ⟨b, o + 4, none⟩ = some (.int .i64 0) ∧ w'.cell? ⟨b, o + 5, none⟩ = some (.int .i64 n1) ∧ w'.cell? ⟨b, o + 6, none⟩ = some (.int .i64 0) ∧ w'.cell? ⟨b, o + 7, none⟩ = some (.string noS)))
    (first | exact K.out _ (btr B0 B2) | exact K.out _ (btr B0 B1) | exact K.out _ (btr B0 B0d) | exact K.out _ B0) (first
      | (go_at_call 62; refine (c_truth1 W0.drew).mono ?_; rintro e w1 ⟨rfl, hb1⟩; have B1 : Below W0.heap.size W0 w1 := btr B0d hb1)
      | (go_at_call 62; refine (c_truth1 w1).mono ?_; rintro e w2 ⟨rfl, hb2⟩; have B2 : Below W0.heap.size W0 w2 := btr B1 hb2))
  go_wp2_with fail
  have B2d : Below W0.heap.size W0 w2.drew := Below.drew B2
  go_region_held3 (fun w' => (w'.cell? ⟨b, o, none⟩ = some (.int .i64 1) ∧ w'.cell? ⟨b, o + 1, none⟩ = some (.int .i64 0) ∧ w'.cell? ⟨b, o + 2, none⟩ = some (.int .i64 0) ∧ w'.cell? ⟨b, o + 3, none⟩ = some (.string noS)) ∧ (w'.cell? ⟨b, o + 4, none⟩ = some (.int .i64 0) ∧ w'.cell? ⟨b, o + 5, none⟩ = some (.int .i64 n1) ∧ w'.cell? ⟨b, o + 6, none⟩ = some (.int .i64 0) ∧ w'.cell? ⟨b, o + 7, none⟩ = some (.string noS)))
    (first | exact K.out _ (((((btr B0 B4).setCell (p := ⟨w.heap.size, 0, none⟩) (Nat.le_refl w.heap.size) _).setCell (p := ⟨w.heap.size, 1, none⟩) (Nat.le_refl w.heap.size) _).setCell (p := ⟨w.heap.size, 2, none⟩) (Nat.le_refl w.heap.size) _).setCell (p := ⟨w.heap.size, 3, none⟩) (Nat.le_refl w.heap.size) _) | exact K.out _ (btr B0 B4) | exact K.out _ (btr B0 B3) | exact K.out _ (btr B0 B2d) | exact K.out _ (btr B0 B2)) (first
      | (go_at_call 26; refine (c_isMissing1 0 0 noS _).mono ?_; rintro e w3 ⟨rfl, hb3⟩; have B3 : Below W0.heap.size W0 w3 := btr B2d hb3)
      | (go_at_call 132; refine (c_chosen false 1 0 0 noS 0 n1 0 noS _).mono ?_; rintro e w4 ⟨rfl, hb4⟩; have B4 : Below W0.heap.size W0 w4 := btr B3 hb4; obtain ⟨r0, r1, r2, r3, f0, f1, f2, f3⟩ := KR.out _ B4))
  go_wp2
  exact bodyPost_ret (v := V 0 n1 0 noS) (results_cell_row Tryz.results129 _ _ w.heap.size 25 _ (0, 0) _ rfl (put4 (KH.out _ B4) _ _ _ _) Tryz.underlying25 rfl (by rw [info_v4]; rfl)) rfl ⟨rfl, below4 (btr B0 B4) _ (Nat.le_refl _) _ _ _ _⟩

set_option maxRecDepth 100000 in
set_option maxHeartbeats 2000000 in
theorem y_dec1_OO (w : World) (b o c : Nat) (hb : b < w.heap.size) (h1 : ValIn w b o 1 0 0 noS) (h2 : ValIn w b (o + 4) 1 0 0 noS) :
    Calls Tryz.prog 129 #[.slice (some ⟨b, o, none⟩) 2 c, .bool true] w fun e w' => e = .returned (V 1 0 0 noS) ∧ Below w.heap.size w w' := by
  have K := Lib.hid (two_ofO hb h1 h2)
  have hr0 := heap_alloc_new w (.cells #[.int .i64 0, .int .i64 0, .int .i64 0, .string ⟨#[]⟩] 25)
  have HR0 := Lib.hid hr0
  clear h1 h2 hr0
  go_enter Tryz.func129, Tryz.ntmps129
  go_wp2_with fail
  generalize HW : w.alloc (.cells #[.int .i64 0, .int .i64 0, .int .i64 0, .string ⟨#[]⟩] 25) = W0 at *
  have B0 : Below w.heap.size w W0 := by rw [← HW]; exact (Below.refl _ _).alloc (Nat.le_refl _) _
  have hz0 : w.heap.size < W0.heap.size := by rw [← HW]; simp
  clear HW
  have KH : Hid (∀ W, Below W0.heap.size W0 W → W.heap[w.heap.size]? = some (.cells #[.int .i64 0, .int .i64 0, .int .i64 0, .string ⟨#[]⟩] 25 (0, 0))) := fun W hW => (hW.block _ hz0).trans HR0.out
  have KR : Hid (∀ W, Below W0.heap.size W0 W → ResAt W w.heap.size) := fun W hW => res_at ((hW.block _ hz0).trans HR0.out)
  have B0d : Below W0.heap.size W0 W0.drew := Below.drew (Below.refl _ _)
  go_region_held3 (fun w' => (w'.cell? ⟨b, o, none⟩ = some (.int .i64 1) ∧ w'.cell? ⟨b, o + 1, none⟩ = some (.int .i64 0) ∧ w'.cell? ⟨b, o + 2, none⟩ = some (.int .i64 0) ∧ w'.cell? ⟨b, o + 3, none⟩ = some (.string noS)) ∧ (w'.cell? ⟨b, o + 4, none⟩ = some (.int .i64 1) ∧ w'.cell? ⟨b, o + 5, none⟩ = some (.int .i64 0) ∧ w'.cell? ⟨b, o + 6, none⟩ = some (.int .i64 0) ∧ w'.cell? ⟨b, o + 7, none⟩ = some (.string noS)))
    (first | exact K.out _ (btr B0 B2) | exact K.out _ (btr B0 B1) | exact K.out _ (btr B0 B0d) | exact K.out _ B0) (first
      | (go_at_call 62; refine (c_truth1 W0.drew).mono ?_; rintro e w1 ⟨rfl, hb1⟩; have B1 : Below W0.heap.size W0 w1 := btr B0d hb1)
      | (go_at_call 62; refine (c_truth1 w1).mono ?_; rintro e w2 ⟨rfl, hb2⟩; have B2 : Below W0.heap.size W0 w2 := btr B1 hb2))
  go_wp2_with fail
  have B2d : Below W0.heap.size W0 w2.drew := Below.drew B2
  go_region_held3 (fun w' => (w'.cell? ⟨b, o, none⟩ = some (.int .i64 1) ∧ w'.cell? ⟨b, o + 1, none⟩ = some (.int .i64 0) ∧ w'.cell? ⟨b, o + 2, none⟩ = some (.int .i64 0) ∧ w'.cell? ⟨b, o + 3, none⟩ = some (.string noS)) ∧ (w'.cell? ⟨b, o + 4, none⟩ = some (.int .i64 1) ∧ w'.cell? ⟨b, o + 5, none⟩ = some (.int .i64 0) ∧ w'.cell? ⟨b, o + 6, none⟩ = some (.int .i64 0) ∧ w'.cell? ⟨b, o + 7, none⟩ = some (.string noS)))
    (first | exact K.out _ (((((btr B0 B4).setCell (p := ⟨w.heap.size, 0, none⟩) (Nat.le_refl w.heap.size) _).setCell (p := ⟨w.heap.size, 1, none⟩) (Nat.le_refl w.heap.size) _).setCell (p := ⟨w.heap.size, 2, none⟩) (Nat.le_refl w.heap.size) _).setCell (p := ⟨w.heap.size, 3, none⟩) (Nat.le_refl w.heap.size) _) | exact K.out _ (btr B0 B4) | exact K.out _ (btr B0 B3) | exact K.out _ (btr B0 B2d) | exact K.out _ (btr B0 B2)) (first
      | (go_at_call 26; refine (c_isMissing1 0 0 noS _).mono ?_; rintro e w3 ⟨rfl, hb3⟩; have B3 : Below W0.heap.size W0 w3 := btr B2d hb3)
      | (go_at_call 132; refine (c_chosen false 1 0 0 noS 1 0 0 noS _).mono ?_; rintro e w4 ⟨rfl, hb4⟩; have B4 : Below W0.heap.size W0 w4 := btr B3 hb4; obtain ⟨r0, r1, r2, r3, f0, f1, f2, f3⟩ := KR.out _ B4))
  go_wp2
  exact bodyPost_ret (v := V 1 0 0 noS) (results_cell_row Tryz.results129 _ _ w.heap.size 25 _ (0, 0) _ rfl (put4 (KH.out _ B4) _ _ _ _) Tryz.underlying25 rfl (by rw [info_v4]; rfl)) rfl ⟨rfl, below4 (btr B0 B4) _ (Nat.le_refl _) _ _ _ _⟩
set_option maxRecDepth 100000 in
set_option maxHeartbeats 2000000 in
theorem y_and (w : World) (b o c : Nat) (k n d : Int) (s : ByteArray) (HD : ∀ W, Below w.heap.size w W → Calls Tryz.prog 129 #[.slice (some ⟨b, o, none⟩) 2 c, .bool false] W fun e w' => e = .returned (V k n d s) ∧ Below W.heap.size W w') :
    Calls Tryz.prog 128 #[.slice (some ⟨b, o, none⟩) 2 c] w fun e w' => e = .returned (V k n d s) ∧ Below w.heap.size w w' := by
  have HDh := Lib.hid HD
  have HR0 := Lib.hid (heap_alloc_new w (.cells #[.int .i64 0, .int .i64 0, .int .i64 0, .string ⟨#[]⟩] 25))
  clear HD
  go_enter Tryz.func128, Tryz.ntmps128
  go_wp2_with fail
  generalize HW : w.alloc (.cells #[.int .i64 0, .int .i64 0, .int .i64 0, .string ⟨#[]⟩] 25) = W0 at *
  have B0 : Below w.heap.size w W0 := by rw [← HW]; exact (Below.refl _ _).alloc (Nat.le_refl _) _
  have hz0 : w.heap.size < W0.heap.size := by rw [← HW]; simp
  clear HW
  refine (HDh.out _ B0).mono ?_
  rintro e w1 ⟨rfl, hb1⟩
  have hh1 := (hb1.block _ hz0).trans HR0.out
  obtain ⟨r0, r1, r2, r3, f0, f1, f2, f3⟩ := res_at hh1
  have HH1 := Lib.hid hh1
  clear hh1 HDh
  go_wp2
  exact bodyPost_ret (v := V k n d s) (results_cell_row Tryz.results128 _ _ w.heap.size 25 _ (0, 0) _ rfl (put4 HH1.out _ _ _ _) Tryz.underlying25 rfl (by rw [info_v4]; rfl)) rfl ⟨rfl, below4 (btr B0 hb1) _ (Nat.le_refl _) _ _ _ _⟩
set_option maxRecDepth 100000 in
set_option maxHeartbeats 2000000 in
theorem y_or (w : World) (b o c : Nat) (k n d : Int) (s : ByteArray) (HD : ∀ W, Below w.heap.size w W → Calls Tryz.prog 129 #[.slice (some ⟨b, o, none⟩) 2 c, .bool true] W fun e w' => e = .returned (V k n d s) ∧ Below W.heap.size W w') :
    Calls Tryz.prog 130 #[.slice (some ⟨b, o, none⟩) 2 c] w fun e w' => e = .returned (V k n d s) ∧ Below w.heap.size w w' := by
  have HDh := Lib.hid HD
  have HR0 := Lib.hid (heap_alloc_new w (.cells #[.int .i64 0, .int .i64 0, .int .i64 0, .string ⟨#[]⟩] 25))
  clear HD
  go_enter Tryz.func130, Tryz.ntmps130
  go_wp2_with fail
  generalize HW : w.alloc (.cells #[.int .i64 0, .int .i64 0, .int .i64 0, .string ⟨#[]⟩] 25) = W0 at *
  have B0 : Below w.heap.size w W0 := by rw [← HW]; exact (Below.refl _ _).alloc (Nat.le_refl _) _
  have hz0 : w.heap.size < W0.heap.size := by rw [← HW]; simp
  clear HW
  refine (HDh.out _ B0).mono ?_
  rintro e w1 ⟨rfl, hb1⟩
  have hh1 := (hb1.block _ hz0).trans HR0.out
  obtain ⟨r0, r1, r2, r3, f0, f1, f2, f3⟩ := res_at hh1
  have HH1 := Lib.hid hh1
  clear hh1 HDh
  go_wp2
  exact bodyPost_ret (v := V k n d s) (results_cell_row Tryz.results130 _ _ w.heap.size 25 _ (0, 0) _ rfl (put4 HH1.out _ _ _ _) Tryz.underlying25 rfl (by rw [info_v4]; rfl)) rfl ⟨rfl, below4 (btr B0 hb1) _ (Nat.le_refl _) _ _ _ _⟩

end Go.Proofs.YtnfncdalneifnaaGreatDoor
end

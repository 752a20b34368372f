/- Doing several steps of Euclid's algorithm: what the call returns. -/
import Derived.Test.YtnfncdalneifnaaGreatDoorZFore
import Derived.Deep.RegionHeld3
import Derived.Deep.DeepCutAuto
namespace Go.Proofs.YtnfncdalneifnaaGreatDoor
open Go.RowKit Go.Deep

theorem btr3 {a b c : World} (h : Below a.heap.size a b) (k : Below b.heap.size b c) : Below a.heap.size a c := h.trans (k.mono h.size)
theorem n_difference (w : World) (v v' : Value) (x y p q r : Nat) (h : NatAt w v x) (h' : NatAt w v' y) (hn : nw x ≤ 1000000000) (hn' : nw y ≤ 1000000000) (hp : p < W64) (hq : q < W64) (hr : r + y * q = x * p) (hrm : r < W64 ^ max (nw x) (nw y)) :
    Calls Tryz.prog 180 #[v, U p, v', U q] w (NatRet w r) := by
  obtain ⟨A, c, rfl, _, _, h3⟩ := h
  obtain ⟨A', c', rfl, _, _, h3'⟩ := h'
  exact (c_difference w _ A A' c c' x y p q r h3 h3' (Nat.le_refl _) hn hn' hp hq hr hrm).mono fun _ _ h => h.ret
theorem five_below {w w' : World} {b : Nat} {c0 c1 c2 c3 c4 : Value} (hb : Below w.heap.size w w') (hlt : b < w.heap.size)
    (h : w.cell? ⟨b, 0, none⟩ = some c0 ∧ w.cell? ⟨b, 1, none⟩ = some c1 ∧ w.cell? ⟨b, 2, none⟩ = some c2 ∧ w.cell? ⟨b, 3, none⟩ = some c3 ∧ w.cell? ⟨b, 4, none⟩ = some c4) :
    w'.cell? ⟨b, 0, none⟩ = some c0 ∧ w'.cell? ⟨b, 1, none⟩ = some c1 ∧ w'.cell? ⟨b, 2, none⟩ = some c2 ∧ w'.cell? ⟨b, 3, none⟩ = some c3 ∧ w'.cell? ⟨b, 4, none⟩ = some c4 :=
  ⟨(hb.cell (p := ⟨b, 0, none⟩) hlt).trans h.1, (hb.cell (p := ⟨b, 1, none⟩) hlt).trans h.2.1, (hb.cell (p := ⟨b, 2, none⟩) hlt).trans h.2.2.1, (hb.cell (p := ⟨b, 3, none⟩) hlt).trans h.2.2.2.1, (hb.cell (p := ⟨b, 4, none⟩) hlt).trans h.2.2.2.2⟩

set_option maxRecDepth 100000 in
set_option maxHeartbeats 4000000 in
theorem n_done (w : World) (v v' : Value) (a b cnt a0 b0 a1 b1 X Y : Nat) (h : NatAt w v a) (h' : NatAt w v' b) (hn : nw a ≤ 1000000000) (hn' : nw b ≤ 1000000000) (h1 : a0 < W64) (h2 : b0 < W64) (h3 : a1 < W64) (h4 : b1 < W64) (hc : cnt < 4294967296)
    (hX : X ≤ b) (hY : Y ≤ b) (hev : cnt % 2 = 0 → X + b * b0 = a * a0 ∧ Y + a * a1 = b * b1) (hod : cnt % 2 ≠ 0 → X + a * a0 = b * b0 ∧ Y + b * b1 = a * a1) :
    Calls Tryz.prog 155 #[St cnt a0 b0 a1 b1, v, v'] w (NatRet2 w X Y) := by
  have hbm : b < W64 ^ max (nw a) (nw b) := Nat.lt_of_lt_of_le (lt_nw b) (Nat.pow_le_pow_right W64_pos (Nat.le_max_right _ _))
  have hbm' : b < W64 ^ max (nw b) (nw a) := Nat.lt_of_lt_of_le (lt_nw b) (Nat.pow_le_pow_right W64_pos (Nat.le_max_left _ _))
  have H := Lib.hid h
  have H' := Lib.hid h'
  by_cases hp : cnt % 2 = 0
  · have hp1 : (((cnt : Int) % 2) == 0) = true := by rw [beq_iff_eq]; omega
    have HD1 : Hid (∀ W, Below w.heap.size w W → Calls Tryz.prog 180 #[v, U a0, v', U b0] W (NatRet W X)) := fun W hW => n_difference W v v' a b a0 b0 X (h.below hW) (h'.below hW) hn hn' h1 h2 (hev hp).1 (by omega)
    have HD2 : Hid (∀ W, Below w.heap.size w W → Calls Tryz.prog 180 #[v', U b1, v, U a1] W (NatRet W Y)) := fun W hW => n_difference W v' v b a b1 a1 Y (h'.below hW) (h.below hW) hn' hn h4 h3 (hev hp).2 (by omega)
    clear h h' hev hod hbm hbm' hX hY hn hn'
    go_enter Tryz.func155, Tryz.ntmps155
    go_wp2_with fail
    have hh := heap_alloc_new w (.cells #[.int .i64 cnt, U a0, U b0, U a1, U b1] 166)
    have B1 : Below w.heap.size w (w.alloc (.cells #[.int .i64 cnt, U a0, U b0, U a1, U b1] 166)) := (Below.refl _ _).alloc (Nat.le_refl _) _
    have hlt : w.heap.size < (w.alloc (.cells #[.int .i64 cnt, U a0, U b0, U a1, U b1] 166)).heap.size := by simp
    generalize w.alloc (.cells #[.int .i64 cnt, U a0, U b0, U a1, U b1] 166) = w1 at *
    have K0 : Hid (w1.cell? ⟨w.heap.size, 0, none⟩ = some (.int .i64 cnt) ∧ w1.cell? ⟨w.heap.size, 1, none⟩ = some (U a0) ∧ w1.cell? ⟨w.heap.size, 2, none⟩ = some (U b0) ∧ w1.cell? ⟨w.heap.size, 3, none⟩ = some (U a1) ∧ w1.cell? ⟨w.heap.size, 4, none⟩ = some (U b1)) := by
      refine ⟨?_, ?_, ?_, ?_, ?_⟩ <;> (rw [cell_of_row _ _ _ _ _ _ hh]; rfl)
    have KK : Hid (∀ W, Below w1.heap.size w1 W → W.cell? ⟨w.heap.size, 0, none⟩ = some (.int .i64 cnt) ∧ W.cell? ⟨w.heap.size, 1, none⟩ = some (U a0) ∧ W.cell? ⟨w.heap.size, 2, none⟩ = some (U b0) ∧ W.cell? ⟨w.heap.size, 3, none⟩ = some (U a1) ∧ W.cell? ⟨w.heap.size, 4, none⟩ = some (U b1)) := fun W hW => five_below hW hlt K0.out
    have B0 : Below w1.heap.size w1 w1.drew := Below.drew (Below.refl _ _)
    have HE1 : Hid (∀ W, Below w1.heap.size w1 W → Calls Tryz.prog 180 #[v, U a0, v', U b0] W (NatRet W X)) := fun W hW => HD1.out W (btr3 B1 hW)
    have HE2 : Hid (∀ W, Below w1.heap.size w1 W → Calls Tryz.prog 180 #[v', U b1, v, U a1] W (NatRet W Y)) := fun W hW => HD2.out W (btr3 B1 hW)
    clear hh hlt HD1 HD2
    go_region_held3 (fun w' => w'.cell? ⟨w.heap.size, 0, none⟩ = some (.int .i64 cnt) ∧ w'.cell? ⟨w.heap.size, 1, none⟩ = some (U a0) ∧ w'.cell? ⟨w.heap.size, 2, none⟩ = some (U b0) ∧ w'.cell? ⟨w.heap.size, 3, none⟩ = some (U a1) ∧ w'.cell? ⟨w.heap.size, 4, none⟩ = some (U b1))
      (first | exact KK.out _ BY | exact KK.out _ BX | exact KK.out _ B0 | exact KK.out _ (Below.refl _ _)) (first
        | (go_at_call 180; (with_reducible refine (HE1.out _ (by first | exact BY | exact B0)).mono ?_); rintro e w2 ⟨u, rfl, hu, hbX⟩; have BX : Below w1.heap.size w1 w2 := (by first | exact btr3 BY hbX | exact btr3 B0 hbX))
        | (go_at_call 180; (with_reducible refine (HE2.out _ (by first | exact BX | exact B0)).mono ?_); rintro e w3 ⟨u', rfl, hu', hbY⟩; have BY : Below w1.heap.size w1 w3 := (by first | exact btr3 BX hbY | exact btr3 B0 hbY)))
    all_goals
      go_wp2
      go_ret2
      first
        | exact ⟨u, u', rfl, hu.below hbY, hu', btr3 B1 BY⟩
        | exact ⟨u, u', rfl, hu, hu'.below hbX, btr3 B1 BX⟩
  · have hp1 : (((cnt : Int) % 2) == 0) = false := by rw [beq_eq_false_iff_ne]; omega
    have HD1 : Hid (∀ W, Below w.heap.size w W → Calls Tryz.prog 180 #[v', U b0, v, U a0] W (NatRet W X)) := fun W hW => n_difference W v' v b a b0 a0 X (h'.below hW) (h.below hW) hn' hn h2 h1 (hod hp).1 (by omega)
    have HD2 : Hid (∀ W, Below w.heap.size w W → Calls Tryz.prog 180 #[v, U a1, v', U b1] W (NatRet W Y)) := fun W hW => n_difference W v v' a b a1 b1 Y (h.below hW) (h'.below hW) hn hn' h3 h4 (hod hp).2 (by omega)
    clear h h' hev hod hbm hbm' hX hY hn hn'
    go_enter Tryz.func155, Tryz.ntmps155
    go_wp2_with fail
    have hh := heap_alloc_new w (.cells #[.int .i64 cnt, U a0, U b0, U a1, U b1] 166)
    have B1 : Below w.heap.size w (w.alloc (.cells #[.int .i64 cnt, U a0, U b0, U a1, U b1] 166)) := (Below.refl _ _).alloc (Nat.le_refl _) _
    have hlt : w.heap.size < (w.alloc (.cells #[.int .i64 cnt, U a0, U b0, U a1, U b1] 166)).heap.size := by simp
    generalize w.alloc (.cells #[.int .i64 cnt, U a0, U b0, U a1, U b1] 166) = w1 at *
    have K0 : Hid (w1.cell? ⟨w.heap.size, 0, none⟩ = some (.int .i64 cnt) ∧ w1.cell? ⟨w.heap.size, 1, none⟩ = some (U a0) ∧ w1.cell? ⟨w.heap.size, 2, none⟩ = some (U b0) ∧ w1.cell? ⟨w.heap.size, 3, none⟩ = some (U a1) ∧ w1.cell? ⟨w.heap.size, 4, none⟩ = some (U b1)) := by
      refine ⟨?_, ?_, ?_, ?_, ?_⟩ <;> (rw [cell_of_row _ _ _ _ _ _ hh]; rfl)
    have KK : Hid (∀ W, Below w1.heap.size w1 W → W.cell? ⟨w.heap.size, 0, none⟩ = some (.int .i64 cnt) ∧ W.cell? ⟨w.heap.size, 1, none⟩ = some (U a0) ∧ W.cell? ⟨w.heap.size, 2, none⟩ = some (U b0) ∧ W.cell? ⟨w.heap.size, 3, none⟩ = some (U a1) ∧ W.cell? ⟨w.heap.size, 4, none⟩ = some (U b1)) := fun W hW => five_below hW hlt K0.out
    have B0 : Below w1.heap.size w1 w1.drew := Below.drew (Below.refl _ _)
    have HE1 : Hid (∀ W, Below w1.heap.size w1 W → Calls Tryz.prog 180 #[v', U b0, v, U a0] W (NatRet W X)) := fun W hW => HD1.out W (btr3 B1 hW)
    have HE2 : Hid (∀ W, Below w1.heap.size w1 W → Calls Tryz.prog 180 #[v, U a1, v', U b1] W (NatRet W Y)) := fun W hW => HD2.out W (btr3 B1 hW)
    clear hh hlt HD1 HD2
    go_region_held3 (fun w' => w'.cell? ⟨w.heap.size, 0, none⟩ = some (.int .i64 cnt) ∧ w'.cell? ⟨w.heap.size, 1, none⟩ = some (U a0) ∧ w'.cell? ⟨w.heap.size, 2, none⟩ = some (U b0) ∧ w'.cell? ⟨w.heap.size, 3, none⟩ = some (U a1) ∧ w'.cell? ⟨w.heap.size, 4, none⟩ = some (U b1))
      (first | exact KK.out _ BY | exact KK.out _ BX | exact KK.out _ B0 | exact KK.out _ (Below.refl _ _)) (first
        | (go_at_call 180; (with_reducible refine (HE1.out _ (by first | exact BY | exact B0)).mono ?_); rintro e w2 ⟨u, rfl, hu, hbX⟩; have BX : Below w1.heap.size w1 w2 := (by first | exact btr3 BY hbX | exact btr3 B0 hbX))
        | (go_at_call 180; (with_reducible refine (HE2.out _ (by first | exact BX | exact B0)).mono ?_); rintro e w3 ⟨u', rfl, hu', hbY⟩; have BY : Below w1.heap.size w1 w3 := (by first | exact btr3 BX hbY | exact btr3 B0 hbY)))
    all_goals
      go_wp2
      go_ret2
      first
        | exact ⟨u, u', rfl, hu.below hbY, hu', btr3 B1 BY⟩
        | exact ⟨u, u', rfl, hu, hu'.below hbX, btr3 B1 BX⟩
end Go.Proofs.YtnfncdalneifnaaGreatDoor

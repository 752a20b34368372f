/- Values of cells: small makers, validity, order. -/
import Derived.Test.YtnfncdalneifnaaGreatDoorZFloor
namespace Go.Proofs.YtnfncdalneifnaaGreatDoor
open Go.RowKit Go.Deep

/-- A value: its Kind, N, D and S. -/
abbrev V (k n d : Int) (s : ByteArray) : Value := .agg #[.int .i64 k, .int .i64 n, .int .i64 d, .string s]
abbrev noS : ByteArray := ⟨#[]⟩

set_option maxHeartbeats 400000 in
theorem c_missing (n : Int) (w : World) :
    Calls Tryz.prog 61 #[.int .i64 n] w fun e w' => e = .returned (V 0 n 0 noS) ∧ Below w.heap.size w w' := by
  go_enter Tryz.func61, Tryz.ntmps61
  go_wp2
  exact bodyPost_ret (v := V 0 n 0 noS) (by simp [results, Tryz.results61, go_sem]) rfl ⟨rfl, (Below.refl _ _).alloc (Nat.le_refl _) _⟩
set_option maxHeartbeats 400000 in
theorem c_whole (n : Int) (w : World) :
    Calls Tryz.prog 113 #[.int .i64 n] w fun e w' => e = .returned (V 2 n 1 noS) ∧ Below w.heap.size w w' := by
  go_enter Tryz.func113, Tryz.ntmps113
  go_wp2
  exact bodyPost_ret (v := V 2 n 1 noS) (by simp [results, Tryz.results113, go_sem]) rfl ⟨rfl, (Below.refl _ _).alloc (Nat.le_refl _) _⟩
def bit (b : Bool) : Int := if b then 1 else 0
set_option maxHeartbeats 400000 in
theorem c_truth (b : Bool) (w : World) :
    Calls Tryz.prog 62 #[.bool b] w fun e w' => e = .returned (V 1 (bit b) 0 noS) ∧ Below w.heap.size w w' := by
  cases b
  · go_enter Tryz.func62, Tryz.ntmps62
    go_wp2
    exact bodyPost_ret (v := V 1 0 0 noS) (by simp [results, Tryz.results62, go_sem]) rfl ⟨rfl, (Below.refl _ _).alloc (Nat.le_refl _) _⟩
  · go_enter Tryz.func62, Tryz.ntmps62
    go_wp2
    exact bodyPost_ret (v := V 1 1 0 noS) (by simp [results, Tryz.results62, go_sem]) rfl ⟨rfl, (Below.refl _ _).alloc (Nat.le_refl _) _⟩

theorem c_truth0 (w : World) : Calls Tryz.prog 62 #[.bool false] w fun e w' => e = .returned (V 1 0 0 noS) ∧ Below w.heap.size w w' := c_truth false w
theorem c_truth1 (w : World) : Calls Tryz.prog 62 #[.bool true] w fun e w' => e = .returned (V 1 1 0 noS) ∧ Below w.heap.size w w' := c_truth true w
/-- What a box of a value gives: its four cells, in a world that is as the old one below. -/
theorem box_facts (w : World) (k n d : Int) (s : ByteArray) : ∃ W b, w.alloc (.cells #[.int .i64 k, .int .i64 n, .int .i64 d, .string s] 25) = W ∧ w.heap.size = b ∧ b < W.heap.size ∧ Below w.heap.size w W ∧
    Hid (∀ W', Below W.heap.size W W' → W'.cell? ⟨b, 0, none⟩ = some (.int .i64 k) ∧ W'.cell? ⟨b, 1, none⟩ = some (.int .i64 n) ∧ W'.cell? ⟨b, 2, none⟩ = some (.int .i64 d) ∧ W'.cell? ⟨b, 3, none⟩ = some (.string s)) := by
  refine ⟨_, _, rfl, rfl, by simp, (Below.refl _ _).alloc (Nat.le_refl _) _, fun W' hW => ?_⟩
  have hh := heap_alloc_new w (.cells #[.int .i64 k, .int .i64 n, .int .i64 d, .string s] 25)
  have hl : w.heap.size < (w.alloc (.cells #[.int .i64 k, .int .i64 n, .int .i64 d, .string s] 25)).heap.size := by simp
  refine ⟨(hW.cell (p := ⟨w.heap.size, 0, none⟩) hl).trans ?_, (hW.cell (p := ⟨w.heap.size, 1, none⟩) hl).trans ?_, (hW.cell (p := ⟨w.heap.size, 2, none⟩) hl).trans ?_, (hW.cell (p := ⟨w.heap.size, 3, none⟩) hl).trans ?_⟩ <;> (rw [cell_of_row _ _ _ _ _ _ hh]; rfl)

set_option maxHeartbeats 2000000 in
theorem c_valid_missing (n : Int) (w : World) (h1 : 1 ≤ n) (h2 : n ≤ 255) :
    Calls Tryz.prog 24 #[V 0 n 0 noS] w fun e w' => e = .returned (.bool true) ∧ Below w.heap.size w w' := by
  obtain ⟨W, b, hW, hb, hlt, hbel, K⟩ := box_facts w 0 n 0 noS
  have HW := Lib.hid hW
  have HB := Lib.hid hb
  clear hW hb
  go_enter Tryz.func24, Tryz.ntmps24
  go_wp2_with fail
  rw [HW.out, HB.out]
  rw [HB.out] at hbel
  have B0 : Below W.heap.size W W.drew := Below.drew (Below.refl _ _)
  go_region_held3 (fun w' => w'.cell? ⟨b, 0, none⟩ = some (.int .i64 0) ∧ w'.cell? ⟨b, 1, none⟩ = some (.int .i64 n) ∧ w'.cell? ⟨b, 2, none⟩ = some (.int .i64 0) ∧ w'.cell? ⟨b, 3, none⟩ = some (.string noS))
    (first | exact K.out _ B1 | exact K.out _ B0 | exact K.out _ (Below.refl _ _)) (first
      | (go_at_call 61; refine (c_missing n _).mono ?_; rintro e w1 ⟨rfl, hb1⟩; have B1 : Below W.heap.size W w1 := btr B0 hb1))
  go_wp2
  go_ret
  rw [HB.out]
  exact ⟨rfl, hbel.trans (B1.mono (by have := hbel.size; have := HB.out; omega))⟩

set_option maxHeartbeats 2000000 in
theorem c_valid_none (w : World) :
    Calls Tryz.prog 24 #[V 0 0 0 noS] w fun e w' => e = .returned (.bool false) ∧ Below w.heap.size w w' := by
  obtain ⟨W, b, hW, hb, hlt, hbel, K⟩ := box_facts w 0 0 0 noS
  have HW := Lib.hid hW
  have HB := Lib.hid hb
  clear hW hb
  go_enter Tryz.func24, Tryz.ntmps24
  go_wp2_with fail
  rw [HW.out, HB.out]
  rw [HB.out] at hbel
  have B0 : Below W.heap.size W W.drew := Below.drew (Below.refl _ _)
  obtain ⟨k0, k1, k2, k3⟩ := K.out _ (Below.refl _ _)
  first
    | go_region_with (first | (go_at_call 61; refine (c_missing 0 _).mono ?_; rintro e w1 ⟨rfl, hb1⟩; have B1 : Below W.heap.size W w1 := btr B0 hb1; obtain ⟨a0, a1, a2, a3⟩ := K.out _ B1))
    | fail
  all_goals
    go_wp2
    go_ret
    rw [HB.out]
    exact ⟨rfl, hbel.trans (B1.mono (by have := hbel.size; have := HB.out; omega))⟩

set_option maxHeartbeats 2000000 in
theorem c_valid_truth (t : Bool) (w : World) :
    Calls Tryz.prog 24 #[V 1 (bit t) 0 noS] w fun e w' => e = .returned (.bool true) ∧ Below w.heap.size w w' := by
  obtain ⟨W, b, hW, hb, hlt, hbel, K⟩ := box_facts w 1 (bit t) 0 noS
  have HW := Lib.hid hW
  have HB := Lib.hid hb
  clear hW hb
  cases t
  · go_enter Tryz.func24, Tryz.ntmps24
    go_wp2_with fail
    rw [show (bit false) = 0 from rfl] at HW K ⊢
    rw [HW.out, HB.out]
    rw [HB.out] at hbel
    have B0 : Below W.heap.size W W.drew := Below.drew (Below.refl _ _)
    go_region_held3 (fun w' => w'.cell? ⟨b, 0, none⟩ = some (.int .i64 1) ∧ w'.cell? ⟨b, 1, none⟩ = some (.int .i64 0) ∧ w'.cell? ⟨b, 2, none⟩ = some (.int .i64 0) ∧ w'.cell? ⟨b, 3, none⟩ = some (.string noS))
      (first | exact K.out _ B1 | exact K.out _ B0 | exact K.out _ (Below.refl _ _)) (first
        | (go_at_call 62; refine (c_truth0 _).mono ?_; rintro e w1 ⟨rfl, hb1⟩; have B1 : Below W.heap.size W w1 := btr B0 hb1))
    go_wp2
    go_ret
    rw [HB.out]
    exact ⟨rfl, hbel.trans (B1.mono (by have := hbel.size; have := HB.out; omega))⟩
  · go_enter Tryz.func24, Tryz.ntmps24
    go_wp2_with fail
    rw [show (bit true) = 1 from rfl] at HW K ⊢
    rw [HW.out, HB.out]
    rw [HB.out] at hbel
    have B0 : Below W.heap.size W W.drew := Below.drew (Below.refl _ _)
    go_region_held3 (fun w' => w'.cell? ⟨b, 0, none⟩ = some (.int .i64 1) ∧ w'.cell? ⟨b, 1, none⟩ = some (.int .i64 1) ∧ w'.cell? ⟨b, 2, none⟩ = some (.int .i64 0) ∧ w'.cell? ⟨b, 3, none⟩ = some (.string noS))
      (first | exact K.out _ B1 | exact K.out _ B0 | exact K.out _ (Below.refl _ _)) (first
        | (go_at_call 62; refine (c_truth1 _).mono ?_; rintro e w1 ⟨rfl, hb1⟩; have B1 : Below W.heap.size W w1 := btr B0 hb1))
    go_wp2
    go_ret
    rw [HB.out]
    exact ⟨rfl, hbel.trans (B1.mono (by have := hbel.size; have := HB.out; omega))⟩

/-- Numerator and denominator of a numeric value. -/
def Low (n d : Int) : Prop := -1099511627776 ≤ n ∧ n ≤ 1099511627776 ∧ 1 ≤ d ∧ d ≤ 1099511627776 ∧ Nat.gcd n.natAbs d.natAbs = 1
set_option maxHeartbeats 1000000 in
theorem c_lowest (n d : Int) (w : World) (h : Low n d) :
    Calls Tryz.prog 63 #[.int .i64 n, .int .i64 d] w fun e w' => e = .returned (.bool true) ∧ ∃ k, w' = w.drewN k := by
  obtain ⟨h1, h2, h3, h4, h5⟩ := h
  have HA := Lib.hid (c_absolute n w (by omega) (by omega))
  have HG : Hid (∀ W, Calls Tryz.prog 39 #[U n.natAbs, .int .u64 d] W fun e w' => e = .returned (.int .u64 1) ∧ ∃ k, w' = W.drewN k) := by
    intro W
    have h9 := c_commonWord n.natAbs d.natAbs W
    rw [h5, show U d.natAbs = .int .u64 d from by show Value.int _ _ = _; congr 1; omega] at h9
    exact h9
  clear h5
  go_enter Tryz.func63, Tryz.ntmps63
  go_wp2_with fail
  refine HA.out.mono ?_
  rintro e w' ⟨rfl, rfl⟩
  clear HA
  go_wp2_with fail
  refine (HG.out _).mono ?_
  rintro e w' ⟨rfl, k, rfl⟩
  go_wp2
  go_ret
  exact ⟨rfl, k, rfl⟩

set_option maxHeartbeats 2000000 in
theorem c_valid_num (n d : Int) (w : World) (h : Low n d) :
    Calls Tryz.prog 24 #[V 2 n d noS] w fun e w' => e = .returned (.bool true) ∧ Below w.heap.size w w' := by
  obtain ⟨W, b, hW, hb, hlt, hbel, K⟩ := box_facts w 2 n d noS
  have HW := Lib.hid hW
  have HB := Lib.hid hb
  obtain ⟨k0, k1, k2, k3⟩ := K.out _ (Below.refl _ _)
  have HL := Lib.hid (c_lowest n d W h)
  clear hW hb h
  go_enter Tryz.func24, Tryz.ntmps24
  go_wp2_with fail
  rw [HW.out]
  refine HL.out.mono ?_
  rintro e w' ⟨rfl, k, rfl⟩
  go_wp2
  go_ret
  exact ⟨rfl, Below.drewN_ hbel k⟩

/-- Bytes that may stand in the text of a value. -/
def Txt (s : ByteArray) : Prop := s.size ≤ 16 ∧ ∀ i (h : i < s.size), 32 ≤ (s[i].toNat : Int) ∧ (s[i].toNat : Int) ≤ 126
set_option maxHeartbeats 1000000 in
theorem c_printable (s : ByteArray) (w : World) (h : Txt s) :
    Calls Tryz.prog 64 #[.string s] w fun e w' => e = .returned (.bool true) ∧ w = w' := by
  obtain ⟨h1, h2⟩ := h
  have H2 := Lib.hid h2
  clear h2
  go_enter Tryz.func64, Tryz.ntmps64
  go_wp2
  go_loop [3, 9] (fun _ i => ∃ k : Nat, k ≤ s.size ∧ i = .int .i64 k) (fun _ i => s.size - (intOf i).toNat)
  case atStart => exact ⟨0, Nat.zero_le _, rfl⟩
  case round =>
    obtain ⟨k, hk, rfl⟩ := hrel
    by_cases hlt : k < s.size
    · obtain ⟨g1, g2⟩ := H2.out k hlt
      go_wp2
      go_round
      case rel => exact ⟨k + 1, by omega, by go_num⟩
      case measure => simp [intOf]; omega
    · go_wp2
      go_ret
      exact ⟨rfl, rfl⟩

set_option maxHeartbeats 2000000 in
theorem c_valid_text (s : ByteArray) (w : World) (h : Txt s) :
    Calls Tryz.prog 24 #[V 3 0 0 s] w fun e w' => e = .returned (.bool true) ∧ Below w.heap.size w w' := by
  obtain ⟨W, b, hW, hb, hlt, hbel, K⟩ := box_facts w 3 0 0 s
  have HW := Lib.hid hW
  have HB := Lib.hid hb
  obtain ⟨k0, k1, k2, k3⟩ := K.out _ (Below.refl _ _)
  have HL := Lib.hid (c_printable s W h)
  clear hW hb h
  go_enter Tryz.func24, Tryz.ntmps24
  go_wp2_with fail
  rw [HW.out]
  refine HL.out.mono ?_
  rintro e w' ⟨rfl, rfl⟩
  go_wp2
  go_ret
  exact ⟨rfl, hbel⟩

/-- What makes a value valid here: a reason, a Boolean, a number, or a text. -/
inductive Good : Int → Int → Int → ByteArray → Prop
  | missing (n : Int) (h1 : 1 ≤ n) (h2 : n ≤ 255) : Good 0 n 0 noS
  | truth (t : Bool) : Good 1 (bit t) 0 noS
  | num (n d : Int) (h : Low n d) : Good 2 n d noS
  | text (s : ByteArray) (h : Txt s) : Good 3 0 0 s
theorem c_validValue (k n d : Int) (s : ByteArray) (w : World) (h : Good k n d s) :
    Calls Tryz.prog 24 #[V k n d s] w fun e w' => e = .returned (.bool true) ∧ Below w.heap.size w w' := by
  cases h with
  | missing n h1 h2 => exact c_valid_missing n w h1 h2
  | truth t => exact c_valid_truth t w
  | num n d h => exact c_valid_num n d w h
  | text s h => exact c_valid_text s w h
end Go.Proofs.YtnfncdalneifnaaGreatDoor

/- ExactDoes: whatever the operation and the values, Do of the program answers as the document's own account does, and changes nothing of what it is given: the law returns true. Its row lists package-level variables of Go's library, tied to the program's text by the card. -/
import Derived.Test.YtnfncdalneifnaaGreatDoorZSpe9
import Derived.Test.YtnfncdalneifnaaGreatDoorZRow
import Derived.ChangeArms
import Derived.ChangeSlices
import Derived.Test.YtnfncdalneifnaaGreatDoorZSpo9
import Derived.Test.YtnfncdalneifnaaGreatDoorZSpq9
import Derived.Test.YtnfncdalneifnaaGreatDoorZDoX9
import Derived.Test.YtnfncdalneifnaaGreatDoorZRunG
import Derived.Test.YtnfncdalneifnaaGreatDoorZInv
import Derived.Test.YtnfncdalneifnaaGreatDoorZWk
import Derived.Laws.AppendOwn
import Derived.Laws.AppendOwnNone
import Derived.Deep.AppendLies
import Derived.Test.YtnfncdalneifnaaGreatDoorTie
import Derived.Test.YtnfncdalneifnaaGreatDoorCards
import Derived.SevenTiedAt

/- From the row's condition to the walk: a list of values of cells, whose strings have lengths. -/
section
namespace Go.Proofs.YtnfncdalneifnaaGreatDoor
open Go Go.ChangeShapes Go.WideShapes Go.ChangeAt Go.RowKit

theorem val_fields9 : ∃ f0 f1 f2 f3 : Field, Tryz.prog.underlying 25 = some (.struct #[f0, f1, f2, f3]) ∧ f0.type = 3 ∧ f0.offset = 0 ∧ f1.type = 2 ∧ f1.offset = 1 ∧ f2.type = 2 ∧ f2.offset = 2 ∧ f3.type = 9 ∧ f3.offset = 3 :=
  ⟨_, _, _, _, Tryz.underlying25, rfl, rfl, rfl, rfl, rfl, rfl, rfl, rfl⟩
section
variable {H : Type} {enc : TypeId × Value → H} {w : World} {base : Nat} {spare : Nat → Bool} {held : Bool}
theorem open_val9 {fuel : Nat} {c0 c1 c2 c3 : Value} {x : DataW H × List MemPlace} (h : DataW.trod enc Tryz.prog w base spare held fuel 25 [c0, c1, c2, c3] = some x) :
    ∃ (k n d : Int) (s : ByteArray), c0 = .int .i64 k ∧ c1 = .int .i64 n ∧ c2 = .int .i64 d ∧ c3 = .string s ∧ s.size ≤ 9223372036854775807 := by
  obtain ⟨f0, f1, f2, f3, hu, t0, o0, t1, o1, t2, o2, t3, o3⟩ := val_fields9
  obtain ⟨xs, n, _, _, _, hlen, hf⟩ := DataW.trod_struct hu h
  have l0 : 0 < xs.length := by rw [hlen]; simp
  have l1 : 1 < xs.length := by rw [hlen]; simp
  have l2 : 2 < xs.length := by rw [hlen]; simp
  have l3 : 3 < xs.length := by rw [hlen]; simp
  have q0 := hf 0 f0 rfl
  have q1 := hf 1 f1 rfl
  have q2 := hf 2 f2 rfl
  have q3 := hf 3 f3 rfl
  have ci : Tryz.prog.cellsOf 3 = 1 := by kernel_rfl
  have c6 : Tryz.prog.cellsOf 2 = 1 := by kernel_rfl
  have cs : Tryz.prog.cellsOf 9 = 1 := by kernel_rfl
  rw [t0, o0, ci, List.getElem?_eq_getElem l0] at q0
  rw [t1, o1, c6, List.getElem?_eq_getElem l1] at q1
  rw [t2, o2, c6, List.getElem?_eq_getElem l2] at q2
  rw [t3, o3, cs, List.getElem?_eq_getElem l3] at q3
  obtain ⟨z0, e0, _, _⟩ := DataW.trod_int Tryz.underlying3 q0
  obtain ⟨z1, e1, _, _⟩ := DataW.trod_int Tryz.underlying2 q1
  obtain ⟨z2, e2, _, _⟩ := DataW.trod_int Tryz.underlying2 q2
  obtain ⟨z3, e3, _, l9⟩ := DataW.trod_string Tryz.underlying9 q3
  exact ⟨z0, z1, z2, z3, by simpa using e0, by simpa using e1, by simpa using e2, by simpa using e3, l9⟩

/-- The cells of a list of values. -/
theorem open_vals9 {fuel : Nat} {A : Option Addr} {n cap : Nat} {x : DataW H × List MemPlace} (h : DataW.trod enc Tryz.prog w base spare held fuel 22 [.slice A n cap] = some x) :
    ∃ (kk nn dd : Nat → Int) (ss : Nat → ByteArray), Vals w A n kk nn dd ss ∧ (A = none → n = 0 ∧ cap = 0) ∧ ∀ k, k < n → (ss k).size ≤ 9223372036854775807 := by
  have c4 : Tryz.prog.cellsOf 25 = 4 := by kernel_rfl
  rcases DataW.trod_slice Tryz.underlying22 h with ⟨h0, _⟩ | ⟨a, len, cap', elems, rest, m, _, hcs, _, hb, hl, hm, hlen, hel, hsp, hns⟩
  · obtain ⟨rfl, rfl, rfl⟩ : A = none ∧ n = 0 ∧ cap = 0 := by simpa using h0
    exact ⟨fun _ => 0, fun _ => 0, fun _ => 0, fun _ => noS, fun h9 => absurd h9 (by omega), fun _ => ⟨rfl, rfl⟩, fun _ h9 => absurd h9 (by omega)⟩
  · obtain ⟨rfl, rfl, rfl⟩ : A = some a ∧ n = len ∧ cap = cap' := by simpa using hcs
    have each : ∀ k, k < n → ∃ y : Int × Int × Int × ByteArray, w.cell? (a.add (k * 4)) = some (.int .i64 y.1) ∧ w.cell? ((a.add (k * 4)).add 1) = some (.int .i64 y.2.1) ∧ w.cell? ((a.add (k * 4)).add 2) = some (.int .i64 y.2.2.1) ∧ w.cell? ((a.add (k * 4)).add 3) = some (.string y.2.2.2) ∧ y.2.2.2.size ≤ 9223372036854775807 := by
      intro k hk
      have h1 := hel k hk
      have hk' : k < elems.length := by omega
      rw [c4, List.getElem?_eq_getElem hk', Option.bind_eq_some_iff] at h1
      obtain ⟨cs', hcs', hy⟩ := h1
      obtain ⟨_, hl2, hcell⟩ := World.cells?_some hcs'
      match cs', hl2 with
      | [c0, c1, c2, c3], _ =>
        obtain ⟨z0, z1, z2, z3, rfl, rfl, rfl, rfl, l9⟩ := open_val9 hy
        exact ⟨(z0, z1, z2, z3), by simpa [Addr.add] using hcell 0 (by omega), by simpa using hcell 1 (by omega), by simpa using hcell 2 (by omega), by simpa using hcell 3 (by omega), l9⟩
    have pick : ∃ f : Nat → Int × Int × Int × ByteArray, ∀ k, k < n → w.cell? (a.add (k * 4)) = some (.int .i64 (f k).1) ∧ w.cell? ((a.add (k * 4)).add 1) = some (.int .i64 (f k).2.1) ∧ w.cell? ((a.add (k * 4)).add 2) = some (.int .i64 (f k).2.2.1) ∧ w.cell? ((a.add (k * 4)).add 3) = some (.string (f k).2.2.2) ∧ (f k).2.2.2.size ≤ 9223372036854775807 :=
      ⟨fun k => if hk : k < n then (each k hk).choose else (0, 0, 0, noS), fun k hk => by
        simp only [dif_pos hk]
        exact (each k hk).choose_spec⟩
    obtain ⟨f, hf⟩ := pick
    refine ⟨fun k => (f k).1, fun k => (f k).2.1, fun k => (f k).2.2.1, fun k => (f k).2.2.2, fun hn => ?_, fun h9 => (by cases h9), fun k hk => (hf k hk).2.2.2.2⟩
    obtain ⟨b, off, spot⟩ := a
    have hspot : spot = none := by simpa [Addr.add] using World.cell?_spot (hf 0 hn).1
    subst hspot
    refine ⟨b, off, rfl, ?_, fun k hk => ?_⟩
    · exact cell_lt (b := b) (o := off + 0 * 4) (by have := (hf 0 hn).1; rw [Go.WideShapes.add_plain] at this; exact this)
    · obtain ⟨q1, q2, q3, q4, _⟩ := hf k hk
      rw [Go.WideShapes.add_plain] at q1 q2 q3 q4
      rw [Go.WideShapes.add_plain] at q2 q3 q4
      exact ⟨q1, q2, q3, q4⟩
end
end Go.Proofs.YtnfncdalneifnaaGreatDoor
end

/- Do of the program and of the reference, operation by operation. -/
section
namespace Go.Proofs.YtnfncdalneifnaaGreatDoor
open Go Go.RowKit Go.Deep

theorem vals_at {w : World} {A : Option Addr} {n : Nat} {kk nn dd : Nat → Int} {ss : Nat → ByteArray} (hv : Vals w A n kk nn dd ss) (hn : 0 < n) : ∃ b o, A = some ⟨b, o, none⟩ ∧ b < w.heap.size ∧ ValIn w b o (kk 0) (nn 0) (dd 0) (ss 0) ∧ (1 < n → ValIn w b (o + 4) (kk 1) (nn 1) (dd 1) (ss 1)) ∧ (2 < n → ValIn w b (o + 8) (kk 2) (nn 2) (dd 2) (ss 2)) := by
  obtain ⟨b, o, h1, h2, h3⟩ := hv hn
  exact ⟨b, o, h1, h2, h3 0 hn, fun h => h3 1 h, fun h => h3 2 h⟩
theorem kind_of {k n d : Int} {s : ByteArray} (h : Good k n d s) : k = 0 ∨ k = 1 ∨ k = 2 ∨ k = 3 := by
  cases h <;> simp
theorem num_ok {k n d : Int} {s : ByteArray} (h : Good k n d s) (e : k = 2) : (okB k n d s && k == 2) = true := by
  rw [okB_good.2 h, e]; rfl
theorem good9_num {k n d : Int} {s : ByteArray} (h : Good k n d s) (hk : k = 2) : s = noS ∧ Low n d := by
  cases h with
  | num n d h => exact ⟨rfl, h⟩
  | missing => omega
  | truth => omega
  | text => omega
theorem good9_bool {k n d : Int} {s : ByteArray} (h : Good k n d s) (hk : k = 1) : s = noS ∧ d = 0 ∧ (n = 0 ∨ n = 1) := by
  cases h with
  | truth t => cases t <;> simp [bit]
  | missing => omega
  | num => omega
  | text => omega
set_option maxRecDepth 100000 in
set_option maxHeartbeats 2000000 in
theorem both_op4 (kk nn dd : Nat → Int) (ss : Nat → ByteArray) (hg : ∀ k, k < 1 → Good (kk k) (nn k) (dd k) (ss k)) : Both 4 1 kk nn dd ss := by
  have hk0 := kind_of (hg 0 (by omega))
  have hall := all_ok hg
  have e : (sFold (n3' 2 0 0) kk 1).isSome = ((kk 0 == 0 || kk 0 == 1)) := by
    rcases hk0 with h0 | h0 | h0 | h0 <;> simp [sFold, sStep, n3', h0]
  refine both_of 4 1 1 2 0 0 1 110 kk nn dd ss (by omega) (by omega) rfl (fun W => f_op4 W) hg (enters_of Tryz.func110 (by kernel_rfl) rfl) ?_ ?_ ?_
  · intro w A cap hv W hW
    obtain ⟨b, o, rfl, hb, h0, h1, h2⟩ := vals_at hv (by omega)
    rw [e]
    exact r_kinds4 W b o cap _ _ _ _  (Nat.lt_of_lt_of_le hb hW.size) (h0.below hW hb)
  · exact fun w A cap _ W _ => r_special0 4 W A 1 cap (by simp)
  · intro hs hno
    rw [e] at hs
    have e0 : kk 0 = 1 := by
      have := hno 0 (by omega)
      simp at hs
      omega
    obtain ⟨g1, g2, g3⟩ := good9_bool (hg 0 (by omega)) e0
    rcases g3 with g3 | g3
    · refine ⟨1, bit true, 0, noS, ?_, ?_⟩
      · intro w A cap hv W hW
        obtain ⟨b, o, rfl, hb, h0, h1, h2⟩ := vals_at hv (by omega)
        have b0 := h0.below hW hb
        have hbW := Nat.lt_of_lt_of_le hb hW.size
        rw [e0] at b0
        have h9 := g_not W b o cap (nn 0) (dd 0) (ss 0) hbW b0
        rw [g3] at h9
        exact h9
      · intro w A cap hv hK
        exact R_run4f w 4 A 1 cap kk nn dd ss rfl (by omega) (by omega) hv rfl rfl hall hK 0 0 0 noS (fun W _ => r_special0 4 W _ 1 cap (by simp)) hno ⟨e0, g3, g2, g1⟩
    · refine ⟨1, bit false, 0, noS, ?_, ?_⟩
      · intro w A cap hv W hW
        obtain ⟨b, o, rfl, hb, h0, h1, h2⟩ := vals_at hv (by omega)
        have b0 := h0.below hW hb
        have hbW := Nat.lt_of_lt_of_le hb hW.size
        rw [e0] at b0
        have h9 := g_not W b o cap (nn 0) (dd 0) (ss 0) hbW b0
        rw [g3] at h9
        exact h9
      · intro w A cap hv hK
        exact R_run4t w 4 A 1 cap kk nn dd ss rfl (by omega) (by omega) hv rfl rfl hall hK 0 0 0 noS (fun W _ => r_special0 4 W _ 1 cap (by simp)) hno ⟨e0, g3, g2, g1⟩
set_option maxRecDepth 100000 in
set_option maxHeartbeats 2000000 in
theorem both_op5 (kk nn dd : Nat → Int) (ss : Nat → ByteArray) (hg : ∀ k, k < 1 → Good (kk k) (nn k) (dd k) (ss k)) : Both 5 1 kk nn dd ss := by
  have hk0 := kind_of (hg 0 (by omega))
  have hall := all_ok hg
  have e : (sFold (n3' 3 0 0) kk 1).isSome = ((kk 0 == 0 || kk 0 == 2)) := by
    rcases hk0 with h0 | h0 | h0 | h0 <;> simp [sFold, sStep, n3', h0]
  refine both_of 5 1 1 3 0 0 0 111 kk nn dd ss (by omega) (by omega) rfl (fun W => f_op5 W) hg (enters_of Tryz.func111 (by kernel_rfl) rfl) ?_ ?_ ?_
  · intro w A cap hv W hW
    obtain ⟨b, o, rfl, hb, h0, h1, h2⟩ := vals_at hv (by omega)
    rw [e]
    exact (r_kindsG5 5 (by decide)) W b o cap _ _ _ _  (Nat.lt_of_lt_of_le hb hW.size) (h0.below hW hb)
  · exact fun w A cap _ W _ => r_special0 5 W A 1 cap (by simp)
  · intro hs hno
    rw [e] at hs
    have e0 : kk 0 = 2 := by
      have := hno 0 (by omega)
      simp at hs
      omega
    obtain ⟨g1, g2⟩ := good9_num (hg 0 (by omega)) e0
    refine ⟨valK (-qV (nn 0) (dd 0)), valN (-qV (nn 0) (dd 0)), valD (-qV (nn 0) (dd 0)), noS, ?_, ?_⟩
    · intro w A cap hv W hW
      obtain ⟨b, o, rfl, hb, h0, h1, h2⟩ := vals_at hv (by omega)
      have b0 := h0.below hW hb
      have hbW := Nat.lt_of_lt_of_le hb hW.size
      rw [e0, g1] at b0
      have h9 := g_neg W b o cap (nn 0) (dd 0) hbW b0 g2
      rw [show (0 : Rat) - qV (nn 0) (dd 0) = -qV (nn 0) (dd 0) by rw [Rat.sub_eq_add_neg, Rat.zero_add]] at h9
      exact h9
    · intro w A cap hv hK
      exact R_run5 w 5 A 1 cap kk nn dd ss rfl (by omega) (by omega) hv rfl rfl hall hK 0 0 0 noS (fun W _ => r_special0 5 W _ 1 cap (by simp)) hno (num_ok (hg 0 (by omega)) e0)
set_option maxRecDepth 100000 in
set_option maxHeartbeats 2000000 in
theorem both_op6 (kk nn dd : Nat → Int) (ss : Nat → ByteArray) (hg : ∀ k, k < 1 → Good (kk k) (nn k) (dd k) (ss k)) : Both 6 1 kk nn dd ss := by
  have hk0 := kind_of (hg 0 (by omega))
  have hall := all_ok hg
  have e : (sFold (n3' 3 0 0) kk 1).isSome = ((kk 0 == 0 || kk 0 == 2)) := by
    rcases hk0 with h0 | h0 | h0 | h0 <;> simp [sFold, sStep, n3', h0]
  refine both_of 6 1 1 3 0 0 2 114 kk nn dd ss (by omega) (by omega) rfl (fun W => f_op6 W) hg (enters_of Tryz.func114 (by kernel_rfl) rfl) ?_ ?_ ?_
  · intro w A cap hv W hW
    obtain ⟨b, o, rfl, hb, h0, h1, h2⟩ := vals_at hv (by omega)
    rw [e]
    exact (r_kindsG5 6 (by decide)) W b o cap _ _ _ _  (Nat.lt_of_lt_of_le hb hW.size) (h0.below hW hb)
  · exact fun w A cap _ W _ => r_special0 6 W A 1 cap (by simp)
  · intro hs hno
    rw [e] at hs
    have e0 : kk 0 = 2 := by
      have := hno 0 (by omega)
      simp at hs
      omega
    obtain ⟨g1, g2⟩ := good9_num (hg 0 (by omega)) e0
    refine ⟨valK (((qV (nn 0) (dd 0)).floor : Int) : Rat), valN (((qV (nn 0) (dd 0)).floor : Int) : Rat), valD (((qV (nn 0) (dd 0)).floor : Int) : Rat), noS, ?_, ?_⟩
    · intro w A cap hv W hW
      obtain ⟨b, o, rfl, hb, h0, h1, h2⟩ := vals_at hv (by omega)
      have b0 := h0.below hW hb
      have hbW := Nat.lt_of_lt_of_le hb hW.size
      rw [e0, g1] at b0
      have h9 := g_floor W b o cap (nn 0) (dd 0) hbW b0 g2
      exact h9
    · intro w A cap hv hK
      exact R_run6 w 6 A 1 cap kk nn dd ss rfl (by omega) (by omega) hv rfl rfl hall hK 0 0 0 noS (fun W _ => r_special0 6 W _ 1 cap (by simp)) hno (num_ok (hg 0 (by omega)) e0)
set_option maxRecDepth 100000 in
set_option maxHeartbeats 2000000 in
theorem both_op7 (kk nn dd : Nat → Int) (ss : Nat → ByteArray) (hg : ∀ k, k < 1 → Good (kk k) (nn k) (dd k) (ss k)) : Both 7 1 kk nn dd ss := by
  have hk0 := kind_of (hg 0 (by omega))
  have hall := all_ok hg
  have e : (sFold (n3' 1 0 0) kk 1).isSome = (true) := by
    rcases hk0 with h0 | h0 | h0 | h0 <;> simp [sFold, sStep, n3', h0]
  refine both_len 7 1 1 1 0 0 1 115 kk nn dd ss (by omega) (by omega) rfl (fun W => f_op7 W) hg (enters_of Tryz.func115 (by kernel_rfl) rfl) ?_ ?_
  · intro w A cap hv W hW
    obtain ⟨b, o, rfl, hb, h0, h1, h2⟩ := vals_at hv (by omega)
    rw [e]
    exact (r_kindsG7 7 (by decide)) W b o cap _ _ _ _  (Nat.lt_of_lt_of_le hb hW.size) (h0.below hW hb)
  · intro hs
    refine ⟨1, (if kk 0 = 0 then 1 else 0), 0, noS, ?_, ?_⟩
    · intro w A cap hv W hW
      obtain ⟨b, o, rfl, hb, h0, h1, h2⟩ := vals_at hv (by omega)
      have b0 := h0.below hW hb
      have hbW := Nat.lt_of_lt_of_le hb hW.size
      have h9 := g_missing W b o cap (kk 0) (nn 0) (dd 0) (ss 0) hbW b0
      rw [show bit (kk 0 == 0) = (if kk 0 = 0 then 1 else 0) by unfold bit; simp only [beq_iff_eq]] at h9
      exact h9
    · intro w A cap hv hK
      refine R_spec w 7 A 1 cap kk nn dd ss rfl (by omega) (by omega) hv hall hK _ _ _ _ fun W hW => ?_
      obtain ⟨b, o, rfl, hb, h0, h1, h2⟩ := vals_at hv (by omega)
      exact r_special7 W b o cap _ _ _ _ (Nat.lt_of_lt_of_le hb hW.size) (h0.below hW hb)
set_option maxRecDepth 100000 in
set_option maxHeartbeats 2000000 in
theorem both_op8 (kk nn dd : Nat → Int) (ss : Nat → ByteArray) (hg : ∀ k, k < 1 → Good (kk k) (nn k) (dd k) (ss k)) : Both 8 1 kk nn dd ss := by
  have hk0 := kind_of (hg 0 (by omega))
  have hall := all_ok hg
  have e : (sFold (n3' 1 0 0) kk 1).isSome = (true) := by
    rcases hk0 with h0 | h0 | h0 | h0 <;> simp [sFold, sStep, n3', h0]
  refine both_len 8 1 1 1 0 0 2 116 kk nn dd ss (by omega) (by omega) rfl (fun W => f_op8 W) hg (enters_of Tryz.func116 (by kernel_rfl) rfl) ?_ ?_
  · intro w A cap hv W hW
    obtain ⟨b, o, rfl, hb, h0, h1, h2⟩ := vals_at hv (by omega)
    rw [e]
    exact (r_kindsG7 8 (by decide)) W b o cap _ _ _ _  (Nat.lt_of_lt_of_le hb hW.size) (h0.below hW hb)
  · intro hs
    refine ⟨2, (if kk 0 = 0 then nn 0 else 0), 1, noS, ?_, ?_⟩
    · intro w A cap hv W hW
      obtain ⟨b, o, rfl, hb, h0, h1, h2⟩ := vals_at hv (by omega)
      have b0 := h0.below hW hb
      have hbW := Nat.lt_of_lt_of_le hb hW.size
      exact g_reason W b o cap (kk 0) (nn 0) (dd 0) (ss 0) hbW b0
    · intro w A cap hv hK
      refine R_spec w 8 A 1 cap kk nn dd ss rfl (by omega) (by omega) hv hall hK _ _ _ _ fun W hW => ?_
      obtain ⟨b, o, rfl, hb, h0, h1, h2⟩ := vals_at hv (by omega)
      exact r_special8 W b o cap _ _ _ _ (Nat.lt_of_lt_of_le hb hW.size) (h0.below hW hb)
set_option maxRecDepth 100000 in
set_option maxHeartbeats 2000000 in
theorem both_op9 (kk nn dd : Nat → Int) (ss : Nat → ByteArray) (hg : ∀ k, k < 2 → Good (kk k) (nn k) (dd k) (ss k)) : Both 9 2 kk nn dd ss := by
  have hk0 := kind_of (hg 0 (by omega))
  have hk1 := kind_of (hg 1 (by omega))
  have hall := all_ok hg
  have e : (sFold (n3' 3 3 0) kk 2).isSome = ((kk 0 == 0 || kk 0 == 2) && (kk 1 == 0 || kk 1 == 2)) := by
    rcases hk0 with h0 | h0 | h0 | h0 <;> rcases hk1 with h1 | h1 | h1 | h1 <;> simp [sFold, sStep, n3', h0, h1]
  refine both_of 9 2 2 3 3 0 0 117 kk nn dd ss (by omega) (by omega) rfl (fun W => f_op9 W) hg (enters_of Tryz.func117 (by kernel_rfl) rfl) ?_ ?_ ?_
  · intro w A cap hv W hW
    obtain ⟨b, o, rfl, hb, h0, h1, h2⟩ := vals_at hv (by omega)
    rw [e]
    exact (r_kindsG9 9 (by decide)) W b o cap _ _ _ _ _ _ _ _  (Nat.lt_of_lt_of_le hb hW.size) (h0.below hW hb) ((h1 (by omega)).below hW hb)
  · exact fun w A cap _ W _ => r_special0 9 W A 2 cap (by simp)
  · intro hs hno
    rw [e] at hs
    have e0 : kk 0 = 2 := by
      have := hno 0 (by omega)
      simp at hs
      omega
    have e1 : kk 1 = 2 := by
      have := hno 1 (by omega)
      simp at hs
      omega
    obtain ⟨g1, g2⟩ := good9_num (hg 0 (by omega)) e0
    obtain ⟨g3, g4⟩ := good9_num (hg 1 (by omega)) e1
    refine ⟨valK (qV (nn 0) (dd 0) + qV (nn 1) (dd 1)), valN (qV (nn 0) (dd 0) + qV (nn 1) (dd 1)), valD (qV (nn 0) (dd 0) + qV (nn 1) (dd 1)), noS, ?_, ?_⟩
    · intro w A cap hv W hW
      obtain ⟨b, o, rfl, hb, h0, h1, h2⟩ := vals_at hv (by omega)
      have b0 := h0.below hW hb
      have hbW := Nat.lt_of_lt_of_le hb hW.size
      have b1 := (h1 (by omega)).below hW hb
      rw [e0, g1] at b0
      rw [e1, g3] at b1
      exact g_add W b o cap _ _ _ _ hbW b0 b1 g2 g4
    · intro w A cap hv hK
      exact R_run9 w 9 A 2 cap kk nn dd ss rfl (by omega) (by omega) hv rfl rfl hall hK 0 0 0 noS (fun W _ => r_special0 9 W _ 2 cap (by simp)) hno (num_ok (hg 0 (by omega)) e0) (num_ok (hg 1 (by omega)) e1)
set_option maxRecDepth 100000 in
set_option maxHeartbeats 2000000 in
theorem both_op10 (kk nn dd : Nat → Int) (ss : Nat → ByteArray) (hg : ∀ k, k < 2 → Good (kk k) (nn k) (dd k) (ss k)) : Both 10 2 kk nn dd ss := by
  have hk0 := kind_of (hg 0 (by omega))
  have hk1 := kind_of (hg 1 (by omega))
  have hall := all_ok hg
  have e : (sFold (n3' 3 3 0) kk 2).isSome = ((kk 0 == 0 || kk 0 == 2) && (kk 1 == 0 || kk 1 == 2)) := by
    rcases hk0 with h0 | h0 | h0 | h0 <;> rcases hk1 with h1 | h1 | h1 | h1 <;> simp [sFold, sStep, n3', h0, h1]
  refine both_of 10 2 2 3 3 0 0 118 kk nn dd ss (by omega) (by omega) rfl (fun W => f_op10 W) hg (enters_of Tryz.func118 (by kernel_rfl) rfl) ?_ ?_ ?_
  · intro w A cap hv W hW
    obtain ⟨b, o, rfl, hb, h0, h1, h2⟩ := vals_at hv (by omega)
    rw [e]
    exact (r_kindsG9 10 (by decide)) W b o cap _ _ _ _ _ _ _ _  (Nat.lt_of_lt_of_le hb hW.size) (h0.below hW hb) ((h1 (by omega)).below hW hb)
  · exact fun w A cap _ W _ => r_special0 10 W A 2 cap (by simp)
  · intro hs hno
    rw [e] at hs
    have e0 : kk 0 = 2 := by
      have := hno 0 (by omega)
      simp at hs
      omega
    have e1 : kk 1 = 2 := by
      have := hno 1 (by omega)
      simp at hs
      omega
    obtain ⟨g1, g2⟩ := good9_num (hg 0 (by omega)) e0
    obtain ⟨g3, g4⟩ := good9_num (hg 1 (by omega)) e1
    refine ⟨valK (qV (nn 0) (dd 0) - qV (nn 1) (dd 1)), valN (qV (nn 0) (dd 0) - qV (nn 1) (dd 1)), valD (qV (nn 0) (dd 0) - qV (nn 1) (dd 1)), noS, ?_, ?_⟩
    · intro w A cap hv W hW
      obtain ⟨b, o, rfl, hb, h0, h1, h2⟩ := vals_at hv (by omega)
      have b0 := h0.below hW hb
      have hbW := Nat.lt_of_lt_of_le hb hW.size
      have b1 := (h1 (by omega)).below hW hb
      rw [e0, g1] at b0
      rw [e1, g3] at b1
      exact g_sub W b o cap _ _ _ _ hbW b0 b1 g2 g4
    · intro w A cap hv hK
      exact R_run10 w 10 A 2 cap kk nn dd ss rfl (by omega) (by omega) hv rfl rfl hall hK 0 0 0 noS (fun W _ => r_special0 10 W _ 2 cap (by simp)) hno (num_ok (hg 0 (by omega)) e0) (num_ok (hg 1 (by omega)) e1)
set_option maxRecDepth 100000 in
set_option maxHeartbeats 2000000 in
theorem both_op11 (kk nn dd : Nat → Int) (ss : Nat → ByteArray) (hg : ∀ k, k < 2 → Good (kk k) (nn k) (dd k) (ss k)) : Both 11 2 kk nn dd ss := by
  have hk0 := kind_of (hg 0 (by omega))
  have hk1 := kind_of (hg 1 (by omega))
  have hall := all_ok hg
  have e : (sFold (n3' 3 3 0) kk 2).isSome = ((kk 0 == 0 || kk 0 == 2) && (kk 1 == 0 || kk 1 == 2)) := by
    rcases hk0 with h0 | h0 | h0 | h0 <;> rcases hk1 with h1 | h1 | h1 | h1 <;> simp [sFold, sStep, n3', h0, h1]
  refine both_of 11 2 2 3 3 0 0 119 kk nn dd ss (by omega) (by omega) rfl (fun W => f_op11 W) hg (enters_of Tryz.func119 (by kernel_rfl) rfl) ?_ ?_ ?_
  · intro w A cap hv W hW
    obtain ⟨b, o, rfl, hb, h0, h1, h2⟩ := vals_at hv (by omega)
    rw [e]
    exact (r_kindsG9 11 (by decide)) W b o cap _ _ _ _ _ _ _ _  (Nat.lt_of_lt_of_le hb hW.size) (h0.below hW hb) ((h1 (by omega)).below hW hb)
  · exact fun w A cap _ W _ => r_special0 11 W A 2 cap (by simp)
  · intro hs hno
    rw [e] at hs
    have e0 : kk 0 = 2 := by
      have := hno 0 (by omega)
      simp at hs
      omega
    have e1 : kk 1 = 2 := by
      have := hno 1 (by omega)
      simp at hs
      omega
    obtain ⟨g1, g2⟩ := good9_num (hg 0 (by omega)) e0
    obtain ⟨g3, g4⟩ := good9_num (hg 1 (by omega)) e1
    refine ⟨valK (qV (nn 0) (dd 0) * qV (nn 1) (dd 1)), valN (qV (nn 0) (dd 0) * qV (nn 1) (dd 1)), valD (qV (nn 0) (dd 0) * qV (nn 1) (dd 1)), noS, ?_, ?_⟩
    · intro w A cap hv W hW
      obtain ⟨b, o, rfl, hb, h0, h1, h2⟩ := vals_at hv (by omega)
      have b0 := h0.below hW hb
      have hbW := Nat.lt_of_lt_of_le hb hW.size
      have b1 := (h1 (by omega)).below hW hb
      rw [e0, g1] at b0
      rw [e1, g3] at b1
      exact g_mul W b o cap _ _ _ _ hbW b0 b1 g2 g4
    · intro w A cap hv hK
      exact R_run11 w 11 A 2 cap kk nn dd ss rfl (by omega) (by omega) hv rfl rfl hall hK 0 0 0 noS (fun W _ => r_special0 11 W _ 2 cap (by simp)) hno (num_ok (hg 0 (by omega)) e0) (num_ok (hg 1 (by omega)) e1)
set_option maxRecDepth 100000 in
set_option maxHeartbeats 2000000 in
theorem both_op12 (kk nn dd : Nat → Int) (ss : Nat → ByteArray) (hg : ∀ k, k < 2 → Good (kk k) (nn k) (dd k) (ss k)) : Both 12 2 kk nn dd ss := by
  have hk0 := kind_of (hg 0 (by omega))
  have hk1 := kind_of (hg 1 (by omega))
  have hall := all_ok hg
  have e : (sFold (n3' 3 3 0) kk 2).isSome = ((kk 0 == 0 || kk 0 == 2) && (kk 1 == 0 || kk 1 == 2)) := by
    rcases hk0 with h0 | h0 | h0 | h0 <;> rcases hk1 with h1 | h1 | h1 | h1 <;> simp [sFold, sStep, n3', h0, h1]
  refine both_of 12 2 2 3 3 0 3 121 kk nn dd ss (by omega) (by omega) rfl (fun W => f_op12 W) hg (enters_of Tryz.func121 (by kernel_rfl) rfl) ?_ ?_ ?_
  · intro w A cap hv W hW
    obtain ⟨b, o, rfl, hb, h0, h1, h2⟩ := vals_at hv (by omega)
    rw [e]
    exact (r_kindsG9 12 (by decide)) W b o cap _ _ _ _ _ _ _ _  (Nat.lt_of_lt_of_le hb hW.size) (h0.below hW hb) ((h1 (by omega)).below hW hb)
  · exact fun w A cap _ W _ => r_special0 12 W A 2 cap (by simp)
  · intro hs hno
    rw [e] at hs
    have e0 : kk 0 = 2 := by
      have := hno 0 (by omega)
      simp at hs
      omega
    have e1 : kk 1 = 2 := by
      have := hno 1 (by omega)
      simp at hs
      omega
    obtain ⟨g1, g2⟩ := good9_num (hg 0 (by omega)) e0
    obtain ⟨g3, g4⟩ := good9_num (hg 1 (by omega)) e1
    by_cases hz : qV (nn 1) (dd 1) = 0
    · refine ⟨0, 3, 0, noS, ?_, ?_⟩
      · intro w A cap hv W hW
        obtain ⟨b, o, rfl, hb, h0, h1, h2⟩ := vals_at hv (by omega)
        have b0 := h0.below hW hb
        have hbW := Nat.lt_of_lt_of_le hb hW.size
        have b1 := (h1 (by omega)).below hW hb
        rw [e0, g1] at b0
        rw [e1, g3] at b1
        exact g_quo0 W b o cap _ _ _ _ hbW b0 b1 g2 g4 hz
      · intro w A cap hv hK
        exact R_run12z w 12 A 2 cap kk nn dd ss rfl (by omega) (by omega) hv rfl rfl hall hK 0 0 0 noS (fun W _ => r_special0 12 W _ 2 cap (by simp)) hno (num_ok (hg 0 (by omega)) e0) (num_ok (hg 1 (by omega)) e1) hz
    · refine ⟨valK (qV (nn 0) (dd 0) / qV (nn 1) (dd 1)), valN (qV (nn 0) (dd 0) / qV (nn 1) (dd 1)), valD (qV (nn 0) (dd 0) / qV (nn 1) (dd 1)), noS, ?_, ?_⟩
      · intro w A cap hv W hW
        obtain ⟨b, o, rfl, hb, h0, h1, h2⟩ := vals_at hv (by omega)
        have b0 := h0.below hW hb
        have hbW := Nat.lt_of_lt_of_le hb hW.size
        have b1 := (h1 (by omega)).below hW hb
        rw [e0, g1] at b0
        rw [e1, g3] at b1
        exact g_quo W b o cap _ _ _ _ hbW b0 b1 g2 g4 hz
      · intro w A cap hv hK
        exact R_run12 w 12 A 2 cap kk nn dd ss rfl (by omega) (by omega) hv rfl rfl hall hK 0 0 0 noS (fun W _ => r_special0 12 W _ 2 cap (by simp)) hno (num_ok (hg 0 (by omega)) e0) (num_ok (hg 1 (by omega)) e1) hz
set_option maxRecDepth 100000 in
set_option maxHeartbeats 2000000 in
theorem both_op13 (kk nn dd : Nat → Int) (ss : Nat → ByteArray) (hg : ∀ k, k < 2 → Good (kk k) (nn k) (dd k) (ss k)) : Both 13 2 kk nn dd ss := by
  have hk0 := kind_of (hg 0 (by omega))
  have hk1 := kind_of (hg 1 (by omega))
  have hall := all_ok hg
  have e : (sFold (n3' 4 4 0) kk 2).isSome = ((kk 0 == 0 || kk 1 == 0 || kk 0 == kk 1)) := by
    rcases hk0 with h0 | h0 | h0 | h0 <;> rcases hk1 with h1 | h1 | h1 | h1 <;> simp [sFold, sStep, n3', h0, h1]
  refine both_of 13 2 2 4 4 0 1 122 kk nn dd ss (by omega) (by omega) rfl (fun W => f_op13 W) hg (enters_of Tryz.func122 (by kernel_rfl) rfl) ?_ ?_ ?_
  · intro w A cap hv W hW
    obtain ⟨b, o, rfl, hb, h0, h1, h2⟩ := vals_at hv (by omega)
    rw [e]
    exact (r_kindsG13 13 (by decide)) W b o cap _ _ _ _ _ _ _ _  (Nat.lt_of_lt_of_le hb hW.size) (h0.below hW hb) ((h1 (by omega)).below hW hb)
  · exact fun w A cap _ W _ => r_special0 13 W A 2 cap (by simp)
  · intro hs hno
    refine ⟨1, bit ((ordV (kk 0) (nn 0) (dd 0) (ss 0) (kk 1) (nn 1) (dd 1) (ss 1)) == 0), 0, noS, ?_, ?_⟩
    rotate_left
    · intro w A cap hv hK
      exact R_run13 w 13 A 2 cap kk nn dd ss rfl (by omega) (by omega) hv rfl rfl hall hK 0 0 0 noS (fun W _ => r_special0 13 W _ 2 cap (by simp)) hno
    · intro w A cap hv W hW
      obtain ⟨b, o, rfl, hb, h0, h1, h2⟩ := vals_at hv (by omega)
      exact g_eqE w b o cap _ _ _ _ _ _ _ _ hb h0 (h1 (by omega)) W hW
set_option maxRecDepth 100000 in
set_option maxHeartbeats 2000000 in
theorem both_op14 (kk nn dd : Nat → Int) (ss : Nat → ByteArray) (hg : ∀ k, k < 2 → Good (kk k) (nn k) (dd k) (ss k)) : Both 14 2 kk nn dd ss := by
  have hk0 := kind_of (hg 0 (by omega))
  have hk1 := kind_of (hg 1 (by omega))
  have hall := all_ok hg
  have e : (sFold (n3' 4 4 0) kk 2).isSome = ((kk 0 == 0 || kk 1 == 0 || kk 0 == kk 1)) := by
    rcases hk0 with h0 | h0 | h0 | h0 <;> rcases hk1 with h1 | h1 | h1 | h1 <;> simp [sFold, sStep, n3', h0, h1]
  refine both_of 14 2 2 4 4 0 1 123 kk nn dd ss (by omega) (by omega) rfl (fun W => f_op14 W) hg (enters_of Tryz.func123 (by kernel_rfl) rfl) ?_ ?_ ?_
  · intro w A cap hv W hW
    obtain ⟨b, o, rfl, hb, h0, h1, h2⟩ := vals_at hv (by omega)
    rw [e]
    exact (r_kindsG13 14 (by decide)) W b o cap _ _ _ _ _ _ _ _  (Nat.lt_of_lt_of_le hb hW.size) (h0.below hW hb) ((h1 (by omega)).below hW hb)
  · exact fun w A cap _ W _ => r_special0 14 W A 2 cap (by simp)
  · intro hs hno
    refine ⟨1, bit ((ordV (kk 0) (nn 0) (dd 0) (ss 0) (kk 1) (nn 1) (dd 1) (ss 1)) != 0), 0, noS, ?_, ?_⟩
    rotate_left
    · intro w A cap hv hK
      exact R_run14 w 14 A 2 cap kk nn dd ss rfl (by omega) (by omega) hv rfl rfl hall hK 0 0 0 noS (fun W _ => r_special0 14 W _ 2 cap (by simp)) hno
    · intro w A cap hv W hW
      obtain ⟨b, o, rfl, hb, h0, h1, h2⟩ := vals_at hv (by omega)
      exact g_neE w b o cap _ _ _ _ _ _ _ _ hb h0 (h1 (by omega)) W hW
set_option maxRecDepth 100000 in
set_option maxHeartbeats 2000000 in
theorem both_op15 (kk nn dd : Nat → Int) (ss : Nat → ByteArray) (hg : ∀ k, k < 2 → Good (kk k) (nn k) (dd k) (ss k)) : Both 15 2 kk nn dd ss := by
  have hk0 := kind_of (hg 0 (by omega))
  have hk1 := kind_of (hg 1 (by omega))
  have hall := all_ok hg
  have e : (sFold (n3' 4 4 0) kk 2).isSome = ((kk 0 == 0 || kk 1 == 0 || kk 0 == kk 1)) := by
    rcases hk0 with h0 | h0 | h0 | h0 <;> rcases hk1 with h1 | h1 | h1 | h1 <;> simp [sFold, sStep, n3', h0, h1]
  refine both_of 15 2 2 4 4 0 1 124 kk nn dd ss (by omega) (by omega) rfl (fun W => f_op15 W) hg (enters_of Tryz.func124 (by kernel_rfl) rfl) ?_ ?_ ?_
  · intro w A cap hv W hW
    obtain ⟨b, o, rfl, hb, h0, h1, h2⟩ := vals_at hv (by omega)
    rw [e]
    exact (r_kindsG13 15 (by decide)) W b o cap _ _ _ _ _ _ _ _  (Nat.lt_of_lt_of_le hb hW.size) (h0.below hW hb) ((h1 (by omega)).below hW hb)
  · exact fun w A cap _ W _ => r_special0 15 W A 2 cap (by simp)
  · intro hs hno
    refine ⟨1, bit (decide ((ordV (kk 0) (nn 0) (dd 0) (ss 0) (kk 1) (nn 1) (dd 1) (ss 1)) < 0)), 0, noS, ?_, ?_⟩
    rotate_left
    · intro w A cap hv hK
      exact R_run15 w 15 A 2 cap kk nn dd ss rfl (by omega) (by omega) hv rfl rfl hall hK 0 0 0 noS (fun W _ => r_special0 15 W _ 2 cap (by simp)) hno
    · intro w A cap hv W hW
      obtain ⟨b, o, rfl, hb, h0, h1, h2⟩ := vals_at hv (by omega)
      exact g_ltE w b o cap _ _ _ _ _ _ _ _ hb h0 (h1 (by omega)) W hW
set_option maxRecDepth 100000 in
set_option maxHeartbeats 2000000 in
theorem both_op16 (kk nn dd : Nat → Int) (ss : Nat → ByteArray) (hg : ∀ k, k < 2 → Good (kk k) (nn k) (dd k) (ss k)) : Both 16 2 kk nn dd ss := by
  have hk0 := kind_of (hg 0 (by omega))
  have hk1 := kind_of (hg 1 (by omega))
  have hall := all_ok hg
  have e : (sFold (n3' 4 4 0) kk 2).isSome = ((kk 0 == 0 || kk 1 == 0 || kk 0 == kk 1)) := by
    rcases hk0 with h0 | h0 | h0 | h0 <;> rcases hk1 with h1 | h1 | h1 | h1 <;> simp [sFold, sStep, n3', h0, h1]
  refine both_of 16 2 2 4 4 0 1 125 kk nn dd ss (by omega) (by omega) rfl (fun W => f_op16 W) hg (enters_of Tryz.func125 (by kernel_rfl) rfl) ?_ ?_ ?_
  · intro w A cap hv W hW
    obtain ⟨b, o, rfl, hb, h0, h1, h2⟩ := vals_at hv (by omega)
    rw [e]
    exact (r_kindsG13 16 (by decide)) W b o cap _ _ _ _ _ _ _ _  (Nat.lt_of_lt_of_le hb hW.size) (h0.below hW hb) ((h1 (by omega)).below hW hb)
  · exact fun w A cap _ W _ => r_special0 16 W A 2 cap (by simp)
  · intro hs hno
    refine ⟨1, bit (decide ((ordV (kk 0) (nn 0) (dd 0) (ss 0) (kk 1) (nn 1) (dd 1) (ss 1)) ≤ 0)), 0, noS, ?_, ?_⟩
    rotate_left
    · intro w A cap hv hK
      exact R_run16 w 16 A 2 cap kk nn dd ss rfl (by omega) (by omega) hv rfl rfl hall hK 0 0 0 noS (fun W _ => r_special0 16 W _ 2 cap (by simp)) hno
    · intro w A cap hv W hW
      obtain ⟨b, o, rfl, hb, h0, h1, h2⟩ := vals_at hv (by omega)
      exact g_leE w b o cap _ _ _ _ _ _ _ _ hb h0 (h1 (by omega)) W hW
set_option maxRecDepth 100000 in
set_option maxHeartbeats 2000000 in
theorem both_op17 (kk nn dd : Nat → Int) (ss : Nat → ByteArray) (hg : ∀ k, k < 2 → Good (kk k) (nn k) (dd k) (ss k)) : Both 17 2 kk nn dd ss := by
  have hk0 := kind_of (hg 0 (by omega))
  have hk1 := kind_of (hg 1 (by omega))
  have hall := all_ok hg
  have e : (sFold (n3' 4 4 0) kk 2).isSome = ((kk 0 == 0 || kk 1 == 0 || kk 0 == kk 1)) := by
    rcases hk0 with h0 | h0 | h0 | h0 <;> rcases hk1 with h1 | h1 | h1 | h1 <;> simp [sFold, sStep, n3', h0, h1]
  refine both_of 17 2 2 4 4 0 1 126 kk nn dd ss (by omega) (by omega) rfl (fun W => f_op17 W) hg (enters_of Tryz.func126 (by kernel_rfl) rfl) ?_ ?_ ?_
  · intro w A cap hv W hW
    obtain ⟨b, o, rfl, hb, h0, h1, h2⟩ := vals_at hv (by omega)
    rw [e]
    exact (r_kindsG13 17 (by decide)) W b o cap _ _ _ _ _ _ _ _  (Nat.lt_of_lt_of_le hb hW.size) (h0.below hW hb) ((h1 (by omega)).below hW hb)
  · exact fun w A cap _ W _ => r_special0 17 W A 2 cap (by simp)
  · intro hs hno
    refine ⟨1, bit (decide (0 < (ordV (kk 0) (nn 0) (dd 0) (ss 0) (kk 1) (nn 1) (dd 1) (ss 1)))), 0, noS, ?_, ?_⟩
    rotate_left
    · intro w A cap hv hK
      exact R_run17 w 17 A 2 cap kk nn dd ss rfl (by omega) (by omega) hv rfl rfl hall hK 0 0 0 noS (fun W _ => r_special0 17 W _ 2 cap (by simp)) hno
    · intro w A cap hv W hW
      obtain ⟨b, o, rfl, hb, h0, h1, h2⟩ := vals_at hv (by omega)
      exact g_gtE w b o cap _ _ _ _ _ _ _ _ hb h0 (h1 (by omega)) W hW
set_option maxRecDepth 100000 in
set_option maxHeartbeats 2000000 in
theorem both_op18 (kk nn dd : Nat → Int) (ss : Nat → ByteArray) (hg : ∀ k, k < 2 → Good (kk k) (nn k) (dd k) (ss k)) : Both 18 2 kk nn dd ss := by
  have hk0 := kind_of (hg 0 (by omega))
  have hk1 := kind_of (hg 1 (by omega))
  have hall := all_ok hg
  have e : (sFold (n3' 4 4 0) kk 2).isSome = ((kk 0 == 0 || kk 1 == 0 || kk 0 == kk 1)) := by
    rcases hk0 with h0 | h0 | h0 | h0 <;> rcases hk1 with h1 | h1 | h1 | h1 <;> simp [sFold, sStep, n3', h0, h1]
  refine both_of 18 2 2 4 4 0 1 127 kk nn dd ss (by omega) (by omega) rfl (fun W => f_op18 W) hg (enters_of Tryz.func127 (by kernel_rfl) rfl) ?_ ?_ ?_
  · intro w A cap hv W hW
    obtain ⟨b, o, rfl, hb, h0, h1, h2⟩ := vals_at hv (by omega)
    rw [e]
    exact (r_kindsG13 18 (by decide)) W b o cap _ _ _ _ _ _ _ _  (Nat.lt_of_lt_of_le hb hW.size) (h0.below hW hb) ((h1 (by omega)).below hW hb)
  · exact fun w A cap _ W _ => r_special0 18 W A 2 cap (by simp)
  · intro hs hno
    refine ⟨1, bit (decide (0 ≤ (ordV (kk 0) (nn 0) (dd 0) (ss 0) (kk 1) (nn 1) (dd 1) (ss 1)))), 0, noS, ?_, ?_⟩
    rotate_left
    · intro w A cap hv hK
      exact R_run18 w 18 A 2 cap kk nn dd ss rfl (by omega) (by omega) hv rfl rfl hall hK 0 0 0 noS (fun W _ => r_special0 18 W _ 2 cap (by simp)) hno
    · intro w A cap hv W hW
      obtain ⟨b, o, rfl, hb, h0, h1, h2⟩ := vals_at hv (by omega)
      exact g_geE w b o cap _ _ _ _ _ _ _ _ hb h0 (h1 (by omega)) W hW
set_option maxRecDepth 100000 in
set_option maxHeartbeats 2000000 in
theorem both_op21 (kk nn dd : Nat → Int) (ss : Nat → ByteArray) (hg : ∀ k, k < 2 → Good (kk k) (nn k) (dd k) (ss k)) : Both 21 2 kk nn dd ss := by
  have hk0 := kind_of (hg 0 (by omega))
  have hk1 := kind_of (hg 1 (by omega))
  have hall := all_ok hg
  have e : (sFold (n3' 4 4 0) kk 2).isSome = ((kk 0 == 0 || kk 1 == 0 || kk 0 == kk 1)) := by
    rcases hk0 with h0 | h0 | h0 | h0 <;> rcases hk1 with h1 | h1 | h1 | h1 <;> simp [sFold, sStep, n3', h0, h1]
  refine both_len 21 2 2 4 4 0 0 131 kk nn dd ss (by omega) (by omega) rfl (fun W => f_op21 W) hg (enters_of Tryz.func131 (by kernel_rfl) rfl) ?_ ?_
  · intro w A cap hv W hW
    obtain ⟨b, o, rfl, hb, h0, h1, h2⟩ := vals_at hv (by omega)
    rw [e]
    exact (r_kindsG13 21 (by decide)) W b o cap _ _ _ _ _ _ _ _  (Nat.lt_of_lt_of_le hb hW.size) (h0.below hW hb) ((h1 (by omega)).below hW hb)
  · intro hs
    by_cases hz : kk 0 = 0
    · refine ⟨kk 1, nn 1, dd 1, ss 1, ?_, ?_⟩
      · intro w A cap hv W hW
        obtain ⟨b, o, rfl, hb, h0, h1, h2⟩ := vals_at hv (by omega)
        have b0 := h0.below hW hb
        have hbW := Nat.lt_of_lt_of_le hb hW.size
        exact g_else W b o cap _ _ _ _ _ _ _ _ _ _ _ _ hbW b0 ((h1 (by omega)).below hW hb) (by rw [if_pos (by rw [beq_iff_eq]; exact hz)])
      · intro w A cap hv hK
        refine R_spec w 21 A 2 cap kk nn dd ss rfl (by omega) (by omega) hv hall hK _ _ _ _ fun W hW => ?_
        obtain ⟨b, o, rfl, hb, h0, h1, h2⟩ := vals_at hv (by omega)
        exact r_special21a W b o cap _ _ _ _ _ _ _ _ (Nat.lt_of_lt_of_le hb hW.size) (h0.below hW hb) ((h1 (by omega)).below hW hb) hz
    · refine ⟨kk 0, nn 0, dd 0, ss 0, ?_, ?_⟩
      · intro w A cap hv W hW
        obtain ⟨b, o, rfl, hb, h0, h1, h2⟩ := vals_at hv (by omega)
        have b0 := h0.below hW hb
        have hbW := Nat.lt_of_lt_of_le hb hW.size
        exact g_else W b o cap _ _ _ _ _ _ _ _ _ _ _ _ hbW b0 ((h1 (by omega)).below hW hb) (by rw [if_neg (by rw [beq_iff_eq]; exact hz)])
      · intro w A cap hv hK
        refine R_spec w 21 A 2 cap kk nn dd ss rfl (by omega) (by omega) hv hall hK _ _ _ _ fun W hW => ?_
        obtain ⟨b, o, rfl, hb, h0, h1, h2⟩ := vals_at hv (by omega)
        exact r_special21b W b o cap _ _ _ _ _ _ _ _ (Nat.lt_of_lt_of_le hb hW.size) (h0.below hW hb) ((h1 (by omega)).below hW hb) hz
set_option maxRecDepth 100000 in
set_option maxHeartbeats 2000000 in
theorem both_op22 (kk nn dd : Nat → Int) (ss : Nat → ByteArray) (hg : ∀ k, k < 3 → Good (kk k) (nn k) (dd k) (ss k)) : Both 22 3 kk nn dd ss := by
  have hk0 := kind_of (hg 0 (by omega))
  have hk1 := kind_of (hg 1 (by omega))
  have hk2 := kind_of (hg 2 (by omega))
  have hall := all_ok hg
  have e : (sFold (n3' 2 4 4) kk 3).isSome = ((kk 0 == 0 || kk 0 == 1) && (kk 1 == 0 || kk 2 == 0 || kk 1 == kk 2)) := by
    rcases hk0 with h0 | h0 | h0 | h0 <;> rcases hk1 with h1 | h1 | h1 | h1 <;> rcases hk2 with h2 | h2 | h2 | h2 <;> simp [sFold, sStep, n3', h0, h1, h2]
  refine both_len 22 3 3 2 4 4 0 133 kk nn dd ss (by omega) (by omega) rfl (fun W => f_op22 W) hg (enters_of Tryz.func133 (by kernel_rfl) rfl) ?_ ?_
  · intro w A cap hv W hW
    obtain ⟨b, o, rfl, hb, h0, h1, h2⟩ := vals_at hv (by omega)
    rw [e]
    exact r_kinds22 W b o cap _ _ _ _ _ _ _ _ _ _ _ _  (Nat.lt_of_lt_of_le hb hW.size) (h0.below hW hb) ((h1 (by omega)).below hW hb) ((h2 (by omega)).below hW hb)
  · intro hs
    by_cases hz : kk 0 = 0
    · refine ⟨kk 0, nn 0, dd 0, ss 0, ?_, ?_⟩
      · intro w A cap hv W hW
        obtain ⟨b, o, rfl, hb, h0, h1, h2⟩ := vals_at hv (by omega)
        have b0 := h0.below hW hb
        have hbW := Nat.lt_of_lt_of_le hb hW.size
        exact g_if0 W b o cap _ _ _ _ _ _ _ _ _ _ _ _ hbW b0 ((h1 (by omega)).below hW hb) ((h2 (by omega)).below hW hb) hz
      · intro w A cap hv hK
        refine R_spec w 22 A 3 cap kk nn dd ss rfl (by omega) (by omega) hv hall hK _ _ _ _ fun W hW => ?_
        obtain ⟨b, o, rfl, hb, h0, h1, h2⟩ := vals_at hv (by omega)
        exact r_special22a W b o cap _ _ _ _ _ _ _ _ _ _ _ _ (Nat.lt_of_lt_of_le hb hW.size) (h0.below hW hb) ((h1 (by omega)).below hW hb) ((h2 (by omega)).below hW hb) hz
    · rw [e] at hs
      have e0 : kk 0 = 1 := by
        simp at hs
        omega
      obtain ⟨g1, g2, g3⟩ := good9_bool (hg 0 (by omega)) e0
      rcases g3 with g3 | g3
      · refine ⟨kk 2, nn 2, dd 2, ss 2, ?_, ?_⟩
        · intro w A cap hv W hW
          obtain ⟨b, o, rfl, hb, h0, h1, h2⟩ := vals_at hv (by omega)
          have b0 := h0.below hW hb
          have hbW := Nat.lt_of_lt_of_le hb hW.size
          exact g_if W b o cap _ _ _ _ _ _ _ _ _ _ _ _ _ _ _ _ hbW b0 ((h1 (by omega)).below hW hb) ((h2 (by omega)).below hW hb) hz (by rw [if_neg (by rw [g3]; decide)])
        · intro w A cap hv hK
          refine R_spec w 22 A 3 cap kk nn dd ss rfl (by omega) (by omega) hv hall hK _ _ _ _ fun W hW => ?_
          obtain ⟨b, o, rfl, hb, h0, h1, h2⟩ := vals_at hv (by omega)
          exact r_special22c W b o cap _ _ _ _ _ _ _ _ _ _ _ _ (Nat.lt_of_lt_of_le hb hW.size) (h0.below hW hb) ((h1 (by omega)).below hW hb) ((h2 (by omega)).below hW hb) ⟨e0, g3, g2, g1⟩
      · refine ⟨kk 1, nn 1, dd 1, ss 1, ?_, ?_⟩
        · intro w A cap hv W hW
          obtain ⟨b, o, rfl, hb, h0, h1, h2⟩ := vals_at hv (by omega)
          have b0 := h0.below hW hb
          have hbW := Nat.lt_of_lt_of_le hb hW.size
          exact g_if W b o cap _ _ _ _ _ _ _ _ _ _ _ _ _ _ _ _ hbW b0 ((h1 (by omega)).below hW hb) ((h2 (by omega)).below hW hb) hz (by rw [if_pos (by rw [g3]; rfl)])
        · intro w A cap hv hK
          refine R_spec w 22 A 3 cap kk nn dd ss rfl (by omega) (by omega) hv hall hK _ _ _ _ fun W hW => ?_
          obtain ⟨b, o, rfl, hb, h0, h1, h2⟩ := vals_at hv (by omega)
          exact r_special22b W b o cap _ _ _ _ _ _ _ _ _ _ _ _ (Nat.lt_of_lt_of_le hb hW.size) (h0.below hW hb) ((h1 (by omega)).below hW hb) ((h2 (by omega)).below hW hb) ⟨e0, g3, g2, g1⟩
end Go.Proofs.YtnfncdalneifnaaGreatDoor
end

/- Do of the program and of the reference: and, or. -/
section
namespace Go.Proofs.YtnfncdalneifnaaGreatDoor
open Go Go.RowKit Go.Deep

theorem tri_of {k n d : Int} {s : ByteArray} (h : Good k n d s) (hk : k = 0 ∨ k = 1) : Tri9 k n d s := by
  cases h with
  | missing n h1 h2 => exact .inl ⟨rfl, rfl, rfl⟩
  | truth t => cases t <;> simp [Tri9, bit]
  | num => omega
  | text => omega
set_option maxRecDepth 100000 in
set_option maxHeartbeats 4000000 in
theorem both_op19 (kk nn dd : Nat → Int) (ss : Nat → ByteArray) (hg : ∀ k, k < 2 → Good (kk k) (nn k) (dd k) (ss k)) : Both 19 2 kk nn dd ss := by
  have hk0 := kind_of (hg 0 (by omega))
  have hk1 := kind_of (hg 1 (by omega))
  have hall := all_ok hg
  have e : (sFold (n3' 2 2 0) kk 2).isSome = ((kk 0 == 0 || kk 0 == 1) && (kk 1 == 0 || kk 1 == 1)) := by
    rcases hk0 with h0 | h0 | h0 | h0 <;> rcases hk1 with h1 | h1 | h1 | h1 <;> simp [sFold, sStep, n3', h0, h1]
  refine both_len 19 2 2 2 2 0 1 128 kk nn dd ss (by omega) (by omega) rfl (fun W => f_op19 W) hg (enters_of Tryz.func128 (by kernel_rfl) rfl) ?_ ?_
  · intro w A cap hv W hW
    obtain ⟨b, o, rfl, hb, h0, h1, h2⟩ := vals_at hv (by omega)
    rw [e]
    exact (r_kindsG19 19 (by decide)) W b o cap _ _ _ _ _ _ _ _ (Nat.lt_of_lt_of_le hb hW.size) (h0.below hW hb) ((h1 (by omega)).below hW hb)
  intro hs
  rw [e] at hs
  have q0 : kk 0 = 0 ∨ kk 0 = 1 := by simp at hs; omega
  have q1 : kk 1 = 0 ∨ kk 1 = 1 := by simp at hs; omega
  have t0 := tri_of (hg 0 (by omega)) q0
  have t1 := tri_of (hg 1 (by omega)) q1
  have hS : ∀ w A cap, Vals w A 2 kk nn dd ss → SpecIs w 19 A 2 cap 1 0 0 noS ((kk 0 == 1 && nn 0 == 0) || (kk 1 == 1 && nn 1 == 0)) := by
    intro w A cap hv W hW
    obtain ⟨b, o, rfl, hb, h0, h1, h2⟩ := vals_at hv (by omega)
    exact r_special19 W b o cap _ _ _ _ _ _ _ _ (Nat.lt_of_lt_of_le hb hW.size) (h0.below hW hb) ((h1 (by omega)).below hW hb) t0 t1
  clear e hs q0 q1 hk0 hk1
  rcases t0 with ⟨k0, d0, s0⟩ | ⟨k0, n0, d0, s0⟩ | ⟨k0, n0, d0, s0⟩
  · rcases t1 with ⟨k1, d1, s1⟩ | ⟨k1, n1, d1, s1⟩ | ⟨k1, n1, d1, s1⟩
    · refine ⟨0, nn 0, 0, noS, ?_, ?_⟩
      · intro w A cap hv W hW
        obtain ⟨b, o, rfl, hb, h0, h1, h2⟩ := vals_at hv (by omega)
        have h1 := h1 (by omega)
        rw [k0, d0, s0] at h0
        rw [k1, d1, s1] at h1
        exact y_and W b o cap _ _ _ _ fun W2 hW2 => y_dec0_MM W2 b o cap _ _ (Nat.lt_of_lt_of_le hb (btr hW hW2).size) (h0.below (btr hW hW2) hb) (h1.below (btr hW hW2) hb)
      · intro w A cap hv hK
        have hS := hS w A cap hv
        rw [show ((kk 0 == 1 && nn 0 == 0) || (kk 1 == 1 && nn 1 == 0)) = false by simp [k0, k1]] at hS
        have h9 := R_miss w 19 A 2 cap kk nn dd ss rfl (by omega) (by omega) hv hall hK _ _ _ _ hS 0 (by omega) (fun k hk => absurd hk (by omega)) k0
        rw [d0, s0] at h9
        exact h9
    · refine ⟨1, 0, 0, noS, ?_, ?_⟩
      · intro w A cap hv W hW
        obtain ⟨b, o, rfl, hb, h0, h1, h2⟩ := vals_at hv (by omega)
        have h1 := h1 (by omega)
        rw [k0, d0, s0] at h0
        rw [k1, n1, d1, s1] at h1
        exact y_and W b o cap _ _ _ _ fun W2 hW2 => y_dec0_MT W2 b o cap _ (Nat.lt_of_lt_of_le hb (btr hW hW2).size) (h0.below (btr hW hW2) hb) (h1.below (btr hW hW2) hb)
      · intro w A cap hv hK
        have hS := hS w A cap hv
        rw [show ((kk 0 == 1 && nn 0 == 0) || (kk 1 == 1 && nn 1 == 0)) = true by simp [k0, k1, n1]] at hS
        exact R_spec w 19 A 2 cap kk nn dd ss rfl (by omega) (by omega) hv hall hK _ _ _ _ hS
    · refine ⟨0, nn 0, 0, noS, ?_, ?_⟩
      · intro w A cap hv W hW
        obtain ⟨b, o, rfl, hb, h0, h1, h2⟩ := vals_at hv (by omega)
        have h1 := h1 (by omega)
        rw [k0, d0, s0] at h0
        rw [k1, n1, d1, s1] at h1
        exact y_and W b o cap _ _ _ _ fun W2 hW2 => y_dec0_MO W2 b o cap _ (Nat.lt_of_lt_of_le hb (btr hW hW2).size) (h0.below (btr hW hW2) hb) (h1.below (btr hW hW2) hb)
      · intro w A cap hv hK
        have hS := hS w A cap hv
        rw [show ((kk 0 == 1 && nn 0 == 0) || (kk 1 == 1 && nn 1 == 0)) = false by simp [k0, k1, n1]] at hS
        have h9 := R_miss w 19 A 2 cap kk nn dd ss rfl (by omega) (by omega) hv hall hK _ _ _ _ hS 0 (by omega) (fun k hk => absurd hk (by omega)) k0
        rw [d0, s0] at h9
        exact h9
  · rcases t1 with ⟨k1, d1, s1⟩ | ⟨k1, n1, d1, s1⟩ | ⟨k1, n1, d1, s1⟩
    · refine ⟨1, 0, 0, noS, ?_, ?_⟩
      · intro w A cap hv W hW
        obtain ⟨b, o, rfl, hb, h0, h1, h2⟩ := vals_at hv (by omega)
        have h1 := h1 (by omega)
        rw [k0, n0, d0, s0] at h0
        rw [k1, d1, s1] at h1
        exact y_and W b o cap _ _ _ _ fun W2 hW2 => y_dec0_T W2 b o cap _ _ _ _ (Nat.lt_of_lt_of_le hb (btr hW hW2).size) (h0.below (btr hW hW2) hb) (h1.below (btr hW hW2) hb)
      · intro w A cap hv hK
        have hS := hS w A cap hv
        rw [show ((kk 0 == 1 && nn 0 == 0) || (kk 1 == 1 && nn 1 == 0)) = true by simp [k0, n0, k1]] at hS
        exact R_spec w 19 A 2 cap kk nn dd ss rfl (by omega) (by omega) hv hall hK _ _ _ _ hS
    · refine ⟨1, 0, 0, noS, ?_, ?_⟩
      · intro w A cap hv W hW
        obtain ⟨b, o, rfl, hb, h0, h1, h2⟩ := vals_at hv (by omega)
        have h1 := h1 (by omega)
        rw [k0, n0, d0, s0] at h0
        rw [k1, n1, d1, s1] at h1
        exact y_and W b o cap _ _ _ _ fun W2 hW2 => y_dec0_T W2 b o cap _ _ _ _ (Nat.lt_of_lt_of_le hb (btr hW hW2).size) (h0.below (btr hW hW2) hb) (h1.below (btr hW hW2) hb)
      · intro w A cap hv hK
        have hS := hS w A cap hv
        rw [show ((kk 0 == 1 && nn 0 == 0) || (kk 1 == 1 && nn 1 == 0)) = true by simp [k0, n0, k1, n1]] at hS
        exact R_spec w 19 A 2 cap kk nn dd ss rfl (by omega) (by omega) hv hall hK _ _ _ _ hS
    · refine ⟨1, 0, 0, noS, ?_, ?_⟩
      · intro w A cap hv W hW
        obtain ⟨b, o, rfl, hb, h0, h1, h2⟩ := vals_at hv (by omega)
        have h1 := h1 (by omega)
        rw [k0, n0, d0, s0] at h0
        rw [k1, n1, d1, s1] at h1
        exact y_and W b o cap _ _ _ _ fun W2 hW2 => y_dec0_T W2 b o cap _ _ _ _ (Nat.lt_of_lt_of_le hb (btr hW hW2).size) (h0.below (btr hW hW2) hb) (h1.below (btr hW hW2) hb)
      · intro w A cap hv hK
        have hS := hS w A cap hv
        rw [show ((kk 0 == 1 && nn 0 == 0) || (kk 1 == 1 && nn 1 == 0)) = true by simp [k0, n0, k1, n1]] at hS
        exact R_spec w 19 A 2 cap kk nn dd ss rfl (by omega) (by omega) hv hall hK _ _ _ _ hS
  · rcases t1 with ⟨k1, d1, s1⟩ | ⟨k1, n1, d1, s1⟩ | ⟨k1, n1, d1, s1⟩
    · refine ⟨0, nn 1, 0, noS, ?_, ?_⟩
      · intro w A cap hv W hW
        obtain ⟨b, o, rfl, hb, h0, h1, h2⟩ := vals_at hv (by omega)
        have h1 := h1 (by omega)
        rw [k0, n0, d0, s0] at h0
        rw [k1, d1, s1] at h1
        exact y_and W b o cap _ _ _ _ fun W2 hW2 => y_dec0_OM W2 b o cap _ (Nat.lt_of_lt_of_le hb (btr hW hW2).size) (h0.below (btr hW hW2) hb) (h1.below (btr hW hW2) hb)
      · intro w A cap hv hK
        have hS := hS w A cap hv
        rw [show ((kk 0 == 1 && nn 0 == 0) || (kk 1 == 1 && nn 1 == 0)) = false by simp [k0, n0, k1]] at hS
        have h9 := R_miss w 19 A 2 cap kk nn dd ss rfl (by omega) (by omega) hv hall hK _ _ _ _ hS 1 (by omega) (fun k hk => by rcases (by omega : k = 0) with rfl; omega) k1
        rw [d1, s1] at h9
        exact h9
    · refine ⟨1, 0, 0, noS, ?_, ?_⟩
      · intro w A cap hv W hW
        obtain ⟨b, o, rfl, hb, h0, h1, h2⟩ := vals_at hv (by omega)
        have h1 := h1 (by omega)
        rw [k0, n0, d0, s0] at h0
        rw [k1, n1, d1, s1] at h1
        exact y_and W b o cap _ _ _ _ fun W2 hW2 => y_dec0_OT W2 b o cap (Nat.lt_of_lt_of_le hb (btr hW hW2).size) (h0.below (btr hW hW2) hb) (h1.below (btr hW hW2) hb)
      · intro w A cap hv hK
        have hS := hS w A cap hv
        rw [show ((kk 0 == 1 && nn 0 == 0) || (kk 1 == 1 && nn 1 == 0)) = true by simp [k0, n0, k1, n1]] at hS
        exact R_spec w 19 A 2 cap kk nn dd ss rfl (by omega) (by omega) hv hall hK _ _ _ _ hS
    · refine ⟨1, 1, 0, noS, ?_, ?_⟩
      · intro w A cap hv W hW
        obtain ⟨b, o, rfl, hb, h0, h1, h2⟩ := vals_at hv (by omega)
        have h1 := h1 (by omega)
        rw [k0, n0, d0, s0] at h0
        rw [k1, n1, d1, s1] at h1
        exact y_and W b o cap _ _ _ _ fun W2 hW2 => y_dec0_OO W2 b o cap (Nat.lt_of_lt_of_le hb (btr hW hW2).size) (h0.below (btr hW hW2) hb) (h1.below (btr hW hW2) hb)
      · intro w A cap hv hK
        have hS := hS w A cap hv
        rw [show ((kk 0 == 1 && nn 0 == 0) || (kk 1 == 1 && nn 1 == 0)) = false by simp [k0, n0, k1, n1]] at hS
        exact R_run19 w 19 A 2 cap kk nn dd ss rfl (by omega) (by omega) hv rfl rfl hall hK _ _ _ _ hS (fun k hk => by rcases (by omega : k = 0 ∨ k = 1) with rfl | rfl <;> omega)
set_option maxRecDepth 100000 in
set_option maxHeartbeats 4000000 in
theorem both_op20 (kk nn dd : Nat → Int) (ss : Nat → ByteArray) (hg : ∀ k, k < 2 → Good (kk k) (nn k) (dd k) (ss k)) : Both 20 2 kk nn dd ss := by
  have hk0 := kind_of (hg 0 (by omega))
  have hk1 := kind_of (hg 1 (by omega))
  have hall := all_ok hg
  have e : (sFold (n3' 2 2 0) kk 2).isSome = ((kk 0 == 0 || kk 0 == 1) && (kk 1 == 0 || kk 1 == 1)) := by
    rcases hk0 with h0 | h0 | h0 | h0 <;> rcases hk1 with h1 | h1 | h1 | h1 <;> simp [sFold, sStep, n3', h0, h1]
  refine both_len 20 2 2 2 2 0 1 130 kk nn dd ss (by omega) (by omega) rfl (fun W => f_op20 W) hg (enters_of Tryz.func130 (by kernel_rfl) rfl) ?_ ?_
  · intro w A cap hv W hW
    obtain ⟨b, o, rfl, hb, h0, h1, h2⟩ := vals_at hv (by omega)
    rw [e]
    exact (r_kindsG19 20 (by decide)) W b o cap _ _ _ _ _ _ _ _ (Nat.lt_of_lt_of_le hb hW.size) (h0.below hW hb) ((h1 (by omega)).below hW hb)
  intro hs
  rw [e] at hs
  have q0 : kk 0 = 0 ∨ kk 0 = 1 := by simp at hs; omega
  have q1 : kk 1 = 0 ∨ kk 1 = 1 := by simp at hs; omega
  have t0 := tri_of (hg 0 (by omega)) q0
  have t1 := tri_of (hg 1 (by omega)) q1
  have hS : ∀ w A cap, Vals w A 2 kk nn dd ss → SpecIs w 20 A 2 cap 1 1 0 noS ((kk 0 == 1 && nn 0 == 1) || (kk 1 == 1 && nn 1 == 1)) := by
    intro w A cap hv W hW
    obtain ⟨b, o, rfl, hb, h0, h1, h2⟩ := vals_at hv (by omega)
    exact r_special20 W b o cap _ _ _ _ _ _ _ _ (Nat.lt_of_lt_of_le hb hW.size) (h0.below hW hb) ((h1 (by omega)).below hW hb) t0 t1
  clear e hs q0 q1 hk0 hk1
  rcases t0 with ⟨k0, d0, s0⟩ | ⟨k0, n0, d0, s0⟩ | ⟨k0, n0, d0, s0⟩
  · rcases t1 with ⟨k1, d1, s1⟩ | ⟨k1, n1, d1, s1⟩ | ⟨k1, n1, d1, s1⟩
    · refine ⟨0, nn 0, 0, noS, ?_, ?_⟩
      · intro w A cap hv W hW
        obtain ⟨b, o, rfl, hb, h0, h1, h2⟩ := vals_at hv (by omega)
        have h1 := h1 (by omega)
        rw [k0, d0, s0] at h0
        rw [k1, d1, s1] at h1
        exact y_or W b o cap _ _ _ _ fun W2 hW2 => y_dec1_MM W2 b o cap _ _ (Nat.lt_of_lt_of_le hb (btr hW hW2).size) (h0.below (btr hW hW2) hb) (h1.below (btr hW hW2) hb)
      · intro w A cap hv hK
        have hS := hS w A cap hv
        rw [show ((kk 0 == 1 && nn 0 == 1) || (kk 1 == 1 && nn 1 == 1)) = false by simp [k0, k1]] at hS
        have h9 := R_miss w 20 A 2 cap kk nn dd ss rfl (by omega) (by omega) hv hall hK _ _ _ _ hS 0 (by omega) (fun k hk => absurd hk (by omega)) k0
        rw [d0, s0] at h9
        exact h9
    · refine ⟨0, nn 0, 0, noS, ?_, ?_⟩
      · intro w A cap hv W hW
        obtain ⟨b, o, rfl, hb, h0, h1, h2⟩ := vals_at hv (by omega)
        have h1 := h1 (by omega)
        rw [k0, d0, s0] at h0
        rw [k1, n1, d1, s1] at h1
        exact y_or W b o cap _ _ _ _ fun W2 hW2 => y_dec1_MO W2 b o cap _ (Nat.lt_of_lt_of_le hb (btr hW hW2).size) (h0.below (btr hW hW2) hb) (h1.below (btr hW hW2) hb)
      · intro w A cap hv hK
        have hS := hS w A cap hv
        rw [show ((kk 0 == 1 && nn 0 == 1) || (kk 1 == 1 && nn 1 == 1)) = false by simp [k0, k1, n1]] at hS
        have h9 := R_miss w 20 A 2 cap kk nn dd ss rfl (by omega) (by omega) hv hall hK _ _ _ _ hS 0 (by omega) (fun k hk => absurd hk (by omega)) k0
        rw [d0, s0] at h9
        exact h9
    · refine ⟨1, 1, 0, noS, ?_, ?_⟩
      · intro w A cap hv W hW
        obtain ⟨b, o, rfl, hb, h0, h1, h2⟩ := vals_at hv (by omega)
        have h1 := h1 (by omega)
        rw [k0, d0, s0] at h0
        rw [k1, n1, d1, s1] at h1
        exact y_or W b o cap _ _ _ _ fun W2 hW2 => y_dec1_MT W2 b o cap _ (Nat.lt_of_lt_of_le hb (btr hW hW2).size) (h0.below (btr hW hW2) hb) (h1.below (btr hW hW2) hb)
      · intro w A cap hv hK
        have hS := hS w A cap hv
        rw [show ((kk 0 == 1 && nn 0 == 1) || (kk 1 == 1 && nn 1 == 1)) = true by simp [k0, k1, n1]] at hS
        exact R_spec w 20 A 2 cap kk nn dd ss rfl (by omega) (by omega) hv hall hK _ _ _ _ hS
  · rcases t1 with ⟨k1, d1, s1⟩ | ⟨k1, n1, d1, s1⟩ | ⟨k1, n1, d1, s1⟩
    · refine ⟨0, nn 1, 0, noS, ?_, ?_⟩
      · intro w A cap hv W hW
        obtain ⟨b, o, rfl, hb, h0, h1, h2⟩ := vals_at hv (by omega)
        have h1 := h1 (by omega)
        rw [k0, n0, d0, s0] at h0
        rw [k1, d1, s1] at h1
        exact y_or W b o cap _ _ _ _ fun W2 hW2 => y_dec1_OM W2 b o cap _ (Nat.lt_of_lt_of_le hb (btr hW hW2).size) (h0.below (btr hW hW2) hb) (h1.below (btr hW hW2) hb)
      · intro w A cap hv hK
        have hS := hS w A cap hv
        rw [show ((kk 0 == 1 && nn 0 == 1) || (kk 1 == 1 && nn 1 == 1)) = false by simp [k0, n0, k1]] at hS
        have h9 := R_miss w 20 A 2 cap kk nn dd ss rfl (by omega) (by omega) hv hall hK _ _ _ _ hS 1 (by omega) (fun k hk => by rcases (by omega : k = 0) with rfl; omega) k1
        rw [d1, s1] at h9
        exact h9
    · refine ⟨1, 0, 0, noS, ?_, ?_⟩
      · intro w A cap hv W hW
        obtain ⟨b, o, rfl, hb, h0, h1, h2⟩ := vals_at hv (by omega)
        have h1 := h1 (by omega)
        rw [k0, n0, d0, s0] at h0
        rw [k1, n1, d1, s1] at h1
        exact y_or W b o cap _ _ _ _ fun W2 hW2 => y_dec1_OO W2 b o cap (Nat.lt_of_lt_of_le hb (btr hW hW2).size) (h0.below (btr hW hW2) hb) (h1.below (btr hW hW2) hb)
      · intro w A cap hv hK
        have hS := hS w A cap hv
        rw [show ((kk 0 == 1 && nn 0 == 1) || (kk 1 == 1 && nn 1 == 1)) = false by simp [k0, n0, k1, n1]] at hS
        exact R_run20 w 20 A 2 cap kk nn dd ss rfl (by omega) (by omega) hv rfl rfl hall hK _ _ _ _ hS (fun k hk => by rcases (by omega : k = 0 ∨ k = 1) with rfl | rfl <;> omega)
    · refine ⟨1, 1, 0, noS, ?_, ?_⟩
      · intro w A cap hv W hW
        obtain ⟨b, o, rfl, hb, h0, h1, h2⟩ := vals_at hv (by omega)
        have h1 := h1 (by omega)
        rw [k0, n0, d0, s0] at h0
        rw [k1, n1, d1, s1] at h1
        exact y_or W b o cap _ _ _ _ fun W2 hW2 => y_dec1_OT W2 b o cap (Nat.lt_of_lt_of_le hb (btr hW hW2).size) (h0.below (btr hW hW2) hb) (h1.below (btr hW hW2) hb)
      · intro w A cap hv hK
        have hS := hS w A cap hv
        rw [show ((kk 0 == 1 && nn 0 == 1) || (kk 1 == 1 && nn 1 == 1)) = true by simp [k0, n0, k1, n1]] at hS
        exact R_spec w 20 A 2 cap kk nn dd ss rfl (by omega) (by omega) hv hall hK _ _ _ _ hS
  · rcases t1 with ⟨k1, d1, s1⟩ | ⟨k1, n1, d1, s1⟩ | ⟨k1, n1, d1, s1⟩
    · refine ⟨1, 1, 0, noS, ?_, ?_⟩
      · intro w A cap hv W hW
        obtain ⟨b, o, rfl, hb, h0, h1, h2⟩ := vals_at hv (by omega)
        have h1 := h1 (by omega)
        rw [k0, n0, d0, s0] at h0
        rw [k1, d1, s1] at h1
        exact y_or W b o cap _ _ _ _ fun W2 hW2 => y_dec1_T W2 b o cap _ _ _ _ (Nat.lt_of_lt_of_le hb (btr hW hW2).size) (h0.below (btr hW hW2) hb) (h1.below (btr hW hW2) hb)
      · intro w A cap hv hK
        have hS := hS w A cap hv
        rw [show ((kk 0 == 1 && nn 0 == 1) || (kk 1 == 1 && nn 1 == 1)) = true by simp [k0, n0, k1]] at hS
        exact R_spec w 20 A 2 cap kk nn dd ss rfl (by omega) (by omega) hv hall hK _ _ _ _ hS
    · refine ⟨1, 1, 0, noS, ?_, ?_⟩
      · intro w A cap hv W hW
        obtain ⟨b, o, rfl, hb, h0, h1, h2⟩ := vals_at hv (by omega)
        have h1 := h1 (by omega)
        rw [k0, n0, d0, s0] at h0
        rw [k1, n1, d1, s1] at h1
        exact y_or W b o cap _ _ _ _ fun W2 hW2 => y_dec1_T W2 b o cap _ _ _ _ (Nat.lt_of_lt_of_le hb (btr hW hW2).size) (h0.below (btr hW hW2) hb) (h1.below (btr hW hW2) hb)
      · intro w A cap hv hK
        have hS := hS w A cap hv
        rw [show ((kk 0 == 1 && nn 0 == 1) || (kk 1 == 1 && nn 1 == 1)) = true by simp [k0, n0, k1, n1]] at hS
        exact R_spec w 20 A 2 cap kk nn dd ss rfl (by omega) (by omega) hv hall hK _ _ _ _ hS
    · refine ⟨1, 1, 0, noS, ?_, ?_⟩
      · intro w A cap hv W hW
        obtain ⟨b, o, rfl, hb, h0, h1, h2⟩ := vals_at hv (by omega)
        have h1 := h1 (by omega)
        rw [k0, n0, d0, s0] at h0
        rw [k1, n1, d1, s1] at h1
        exact y_or W b o cap _ _ _ _ fun W2 hW2 => y_dec1_T W2 b o cap _ _ _ _ (Nat.lt_of_lt_of_le hb (btr hW hW2).size) (h0.below (btr hW hW2) hb) (h1.below (btr hW hW2) hb)
      · intro w A cap hv hK
        have hS := hS w A cap hv
        rw [show ((kk 0 == 1 && nn 0 == 1) || (kk 1 == 1 && nn 1 == 1)) = true by simp [k0, n0, k1, n1]] at hS
        exact R_spec w 20 A 2 cap kk nn dd ss rfl (by omega) (by omega) hv hall hK _ _ _ _ hS
end Go.Proofs.YtnfncdalneifnaaGreatDoor
end

/- Do of the program and of the reference: any operation, any values. -/
section
namespace Go.Proofs.YtnfncdalneifnaaGreatDoor
open Go Go.RowKit Go.Deep

theorem op_range {op : Int} {n : Nat} (h : opn op = n) (h0 : n ≠ 0) : 4 ≤ op ∧ op ≤ 22 := by
  unfold opn at h
  by_cases a : 4 ≤ op ∧ op ≤ 8
  · omega
  rw [if_neg a] at h
  by_cases b : 9 ≤ op ∧ op ≤ 21
  · omega
  rw [if_neg b] at h
  by_cases c : op = 22
  · omega
  rw [if_neg c] at h
  omega
theorem row_of9 {op : Int} {n : Nat} (h : opn op = n) (h0 : n ≠ 0) : n ≤ 3 ∧ ∃ c n1 n2 m3 r l F, ∀ W, Calls Tryz.prog 23 #[.int .i64 op, .int .i64 n] W fun e w' => e = .returned (.tuple #[.agg (o7 c n1 n2 m3 r l F).toArray, .bool true]) ∧ Below W.heap.size W w' := by
  obtain ⟨ha, hb⟩ := op_range h h0
  by_cases e : op = 4
  · subst e
    obtain rfl : n = 1 := by have h9 : opn 4 = 1 := rfl; omega
    exact ⟨by omega, _, _, _, _, _, _, _, fun W => f_op4 W⟩
  by_cases e : op = 5
  · subst e
    obtain rfl : n = 1 := by have h9 : opn 5 = 1 := rfl; omega
    exact ⟨by omega, _, _, _, _, _, _, _, fun W => f_op5 W⟩
  by_cases e : op = 6
  · subst e
    obtain rfl : n = 1 := by have h9 : opn 6 = 1 := rfl; omega
    exact ⟨by omega, _, _, _, _, _, _, _, fun W => f_op6 W⟩
  by_cases e : op = 7
  · subst e
    obtain rfl : n = 1 := by have h9 : opn 7 = 1 := rfl; omega
    exact ⟨by omega, _, _, _, _, _, _, _, fun W => f_op7 W⟩
  by_cases e : op = 8
  · subst e
    obtain rfl : n = 1 := by have h9 : opn 8 = 1 := rfl; omega
    exact ⟨by omega, _, _, _, _, _, _, _, fun W => f_op8 W⟩
  by_cases e : op = 9
  · subst e
    obtain rfl : n = 2 := by have h9 : opn 9 = 2 := rfl; omega
    exact ⟨by omega, _, _, _, _, _, _, _, fun W => f_op9 W⟩
  by_cases e : op = 10
  · subst e
    obtain rfl : n = 2 := by have h9 : opn 10 = 2 := rfl; omega
    exact ⟨by omega, _, _, _, _, _, _, _, fun W => f_op10 W⟩
  by_cases e : op = 11
  · subst e
    obtain rfl : n = 2 := by have h9 : opn 11 = 2 := rfl; omega
    exact ⟨by omega, _, _, _, _, _, _, _, fun W => f_op11 W⟩
  by_cases e : op = 12
  · subst e
    obtain rfl : n = 2 := by have h9 : opn 12 = 2 := rfl; omega
    exact ⟨by omega, _, _, _, _, _, _, _, fun W => f_op12 W⟩
  by_cases e : op = 13
  · subst e
    obtain rfl : n = 2 := by have h9 : opn 13 = 2 := rfl; omega
    exact ⟨by omega, _, _, _, _, _, _, _, fun W => f_op13 W⟩
  by_cases e : op = 14
  · subst e
    obtain rfl : n = 2 := by have h9 : opn 14 = 2 := rfl; omega
    exact ⟨by omega, _, _, _, _, _, _, _, fun W => f_op14 W⟩
  by_cases e : op = 15
  · subst e
    obtain rfl : n = 2 := by have h9 : opn 15 = 2 := rfl; omega
    exact ⟨by omega, _, _, _, _, _, _, _, fun W => f_op15 W⟩
  by_cases e : op = 16
  · subst e
    obtain rfl : n = 2 := by have h9 : opn 16 = 2 := rfl; omega
    exact ⟨by omega, _, _, _, _, _, _, _, fun W => f_op16 W⟩
  by_cases e : op = 17
  · subst e
    obtain rfl : n = 2 := by have h9 : opn 17 = 2 := rfl; omega
    exact ⟨by omega, _, _, _, _, _, _, _, fun W => f_op17 W⟩
  by_cases e : op = 18
  · subst e
    obtain rfl : n = 2 := by have h9 : opn 18 = 2 := rfl; omega
    exact ⟨by omega, _, _, _, _, _, _, _, fun W => f_op18 W⟩
  by_cases e : op = 19
  · subst e
    obtain rfl : n = 2 := by have h9 : opn 19 = 2 := rfl; omega
    exact ⟨by omega, _, _, _, _, _, _, _, fun W => f_op19 W⟩
  by_cases e : op = 20
  · subst e
    obtain rfl : n = 2 := by have h9 : opn 20 = 2 := rfl; omega
    exact ⟨by omega, _, _, _, _, _, _, _, fun W => f_op20 W⟩
  by_cases e : op = 21
  · subst e
    obtain rfl : n = 2 := by have h9 : opn 21 = 2 := rfl; omega
    exact ⟨by omega, _, _, _, _, _, _, _, fun W => f_op21 W⟩
  by_cases e : op = 22
  · subst e
    obtain rfl : n = 3 := by have h9 : opn 22 = 3 := rfl; omega
    exact ⟨by omega, _, _, _, _, _, _, _, fun W => f_op22 W⟩
  omega
theorem both_good {op : Int} {n : Nat} (h : opn op = n) (h0 : n ≠ 0) (kk nn dd : Nat → Int) (ss : Nat → ByteArray) (hg : ∀ k, k < n → Good (kk k) (nn k) (dd k) (ss k)) : Both op n kk nn dd ss := by
  obtain ⟨ha, hb⟩ := op_range h h0
  by_cases e : op = 4
  · subst e
    obtain rfl : n = 1 := by have h9 : opn 4 = 1 := rfl; omega
    exact both_op4 kk nn dd ss hg
  by_cases e : op = 5
  · subst e
    obtain rfl : n = 1 := by have h9 : opn 5 = 1 := rfl; omega
    exact both_op5 kk nn dd ss hg
  by_cases e : op = 6
  · subst e
    obtain rfl : n = 1 := by have h9 : opn 6 = 1 := rfl; omega
    exact both_op6 kk nn dd ss hg
  by_cases e : op = 7
  · subst e
    obtain rfl : n = 1 := by have h9 : opn 7 = 1 := rfl; omega
    exact both_op7 kk nn dd ss hg
  by_cases e : op = 8
  · subst e
    obtain rfl : n = 1 := by have h9 : opn 8 = 1 := rfl; omega
    exact both_op8 kk nn dd ss hg
  by_cases e : op = 9
  · subst e
    obtain rfl : n = 2 := by have h9 : opn 9 = 2 := rfl; omega
    exact both_op9 kk nn dd ss hg
  by_cases e : op = 10
  · subst e
    obtain rfl : n = 2 := by have h9 : opn 10 = 2 := rfl; omega
    exact both_op10 kk nn dd ss hg
  by_cases e : op = 11
  · subst e
    obtain rfl : n = 2 := by have h9 : opn 11 = 2 := rfl; omega
    exact both_op11 kk nn dd ss hg
  by_cases e : op = 12
  · subst e
    obtain rfl : n = 2 := by have h9 : opn 12 = 2 := rfl; omega
    exact both_op12 kk nn dd ss hg
  by_cases e : op = 13
  · subst e
    obtain rfl : n = 2 := by have h9 : opn 13 = 2 := rfl; omega
    exact both_op13 kk nn dd ss hg
  by_cases e : op = 14
  · subst e
    obtain rfl : n = 2 := by have h9 : opn 14 = 2 := rfl; omega
    exact both_op14 kk nn dd ss hg
  by_cases e : op = 15
  · subst e
    obtain rfl : n = 2 := by have h9 : opn 15 = 2 := rfl; omega
    exact both_op15 kk nn dd ss hg
  by_cases e : op = 16
  · subst e
    obtain rfl : n = 2 := by have h9 : opn 16 = 2 := rfl; omega
    exact both_op16 kk nn dd ss hg
  by_cases e : op = 17
  · subst e
    obtain rfl : n = 2 := by have h9 : opn 17 = 2 := rfl; omega
    exact both_op17 kk nn dd ss hg
  by_cases e : op = 18
  · subst e
    obtain rfl : n = 2 := by have h9 : opn 18 = 2 := rfl; omega
    exact both_op18 kk nn dd ss hg
  by_cases e : op = 19
  · subst e
    obtain rfl : n = 2 := by have h9 : opn 19 = 2 := rfl; omega
    exact both_op19 kk nn dd ss hg
  by_cases e : op = 20
  · subst e
    obtain rfl : n = 2 := by have h9 : opn 20 = 2 := rfl; omega
    exact both_op20 kk nn dd ss hg
  by_cases e : op = 21
  · subst e
    obtain rfl : n = 2 := by have h9 : opn 21 = 2 := rfl; omega
    exact both_op21 kk nn dd ss hg
  by_cases e : op = 22
  · subst e
    obtain rfl : n = 3 := by have h9 : opn 22 = 3 := rfl; omega
    exact both_op22 kk nn dd ss hg
  omega
theorem both_bad {op : Int} {n : Nat} (h : opn op = n) (h0 : n ≠ 0) (kk nn dd : Nat → Int) (ss : Nat → ByteArray) (hsz : ∀ k, k < n → (ss k).size ≤ 9223372036854775807) (j : Nat) (hj : j < n) (hok : ∀ k, k < j → okB (kk k) (nn k) (dd k) (ss k) = true) (hno : okB (kk j) (nn j) (dd j) (ss j) = false) : Both op n kk nn dd ss := by
  obtain ⟨hn3, c, n1, n2, m3, r, l, F, HF⟩ := row_of9 h h0
  refine ⟨0, 0, 0, noS, 2, fun w A cap hv => ?_, fun w A cap hv => ?_⟩
  · refine d_badG w op A n cap c n1 n2 m3 r l F kk nn dd ss hn3 hv HF j hj (fun k hk W => c_validValue _ _ _ _ W (okB_good.1 (hok k hk))) (fun W => ?_)
    have h9 := k_valid (kk j) (nn j) (dd j) (ss j) W
    rw [hno] at h9
    exact h9
  · exact R_bad w op A n cap kk nn dd ss h h0 (by omega) hv j hj hsz hok hno
theorem both_all (op : Int) (n : Nat) (kk nn dd : Nat → Int) (ss : Nat → ByteArray) (hsz : ∀ k, k < n → (ss k).size ≤ 9223372036854775807) : Both op n kk nn dd ss := by
  by_cases h : opn op = 0 ∨ opn op ≠ n
  · exact both_none op n kk nn dd ss h
  have h1 : opn op = n := by omega
  have h0 : n ≠ 0 := by omega
  by_cases b0 : okB (kk 0) (nn 0) (dd 0) (ss 0) = true
  · by_cases b1 : 1 < n → okB (kk 1) (nn 1) (dd 1) (ss 1) = true
    · by_cases b2 : 2 < n → okB (kk 2) (nn 2) (dd 2) (ss 2) = true
      · refine both_good h1 h0 kk nn dd ss fun k hk => okB_good.1 ?_
        have hn3 := (row_of9 h1 h0).1
        rcases (by omega : k = 0 ∨ k = 1 ∨ k = 2) with rfl | rfl | rfl
        · exact b0
        · exact b1 hk
        · exact b2 hk
      · obtain ⟨c1, c2⟩ := Classical.not_imp.1 b2
        refine both_bad h1 h0 kk nn dd ss hsz 2 c1 (fun k hk => ?_) (by simpa using c2)
        rcases (by omega : k = 0 ∨ k = 1) with rfl | rfl
        · exact b0
        · exact b1 (by omega)
    · obtain ⟨c1, c2⟩ := Classical.not_imp.1 b1
      refine both_bad h1 h0 kk nn dd ss hsz 1 c1 (fun k hk => ?_) (by simpa using c2)
      rcases (by omega : k = 0) with rfl
      exact b0
  · exact both_bad h1 h0 kk nn dd ss hsz 0 (by omega) (fun k hk => absurd hk (by omega)) (by simpa using b0)
end Go.Proofs.YtnfncdalneifnaaGreatDoor
end

/- The law of Do: its walk. -/
section
namespace Go.Proofs.YtnfncdalneifnaaGreatDoor
open Go Go.RowKit Go.Deep

theorem ltd_of_cell {w : World} {b o : Nat} {v : Value} (h : w.cell? ⟨b, o, none⟩ = some v) : b < w.heap.size := by
  by_cases hb : b < w.heap.size
  · exact hb
  · have : w.heap[b]? = none := Array.getElem?_eq_none (by omega)
    simp [World.cell?, this] at h
/-- The cells of a list of values, one behind the other. -/
def cells4 (kk nn dd : Nat → Int) (ss : Nat → ByteArray) (n : Nat) : List Value := (List.range n).flatMap fun k => [.int .i64 (kk k), .int .i64 (nn k), .int .i64 (dd k), .string (ss k)]
theorem cells4_succ (kk nn dd : Nat → Int) (ss : Nat → ByteArray) (n : Nat) : cells4 kk nn dd ss (n + 1) = cells4 kk nn dd ss n ++ [.int .i64 (kk n), .int .i64 (nn n), .int .i64 (dd n), .string (ss n)] := by
  simp [cells4, List.range_succ, List.flatMap_append]
theorem cells4_len (kk nn dd : Nat → Int) (ss : Nat → ByteArray) (n : Nat) : (cells4 kk nn dd ss n).length = n * 4 := by
  induction n with
  | zero => rfl
  | succ n ih => rw [cells4_succ, List.length_append, ih]; simp; omega
theorem cells4_get (kk nn dd : Nat → Int) (ss : Nat → ByteArray) (n k t : Nat) (hk : k < n) (ht : t < 4) : (cells4 kk nn dd ss n)[k * 4 + t]? = [Value.int .i64 (kk k), .int .i64 (nn k), .int .i64 (dd k), .string (ss k)][t]? := by
  induction n with
  | zero => omega
  | succ n ih =>
    rw [cells4_succ]
    by_cases h : k = n
    · subst h
      rw [List.getElem?_append_right (by rw [cells4_len]; omega), cells4_len, Nat.add_sub_cancel_left]
    · rw [List.getElem?_append_left (by rw [cells4_len]; omega)]
      exact ih (by omega)
theorem cells4_one (kk nn dd : Nat → Int) (ss : Nat → ByteArray) (n : Nat) : ∀ u ∈ cells4 kk nn dd ss n, u.oneCell' = true := by
  intro u hu
  obtain ⟨k, _, hk⟩ := List.mem_flatMap.1 hu
  simp at hk
  rcases hk with rfl | rfl | rfl | rfl <;> rfl
theorem cells4_at {w : World} {b o n : Nat} {kk nn dd : Nat → Int} {ss : Nat → ByteArray} (h : ∀ k, k < n → ValIn w b (o + k * 4) (kk k) (nn k) (dd k) (ss k)) : ∀ j u, (cells4 kk nn dd ss n)[j]? = some u → w.cell? ((⟨b, o, none⟩ : Addr).add j) = some u := by
  intro j u hu
  have hj : j < n * 4 := by
    rw [← cells4_len kk nn dd ss n]
    exact (List.getElem?_eq_some_iff.1 hu).1
  have e : j = j / 4 * 4 + j % 4 := by omega
  obtain ⟨h0, h1, h2, h3⟩ := h (j / 4) (by omega)
  have ht : j % 4 < 4 := by omega
  rw [e, cells4_get _ _ _ _ _ _ _ (by omega) ht] at hu
  rw [show (⟨b, o, none⟩ : Addr).add j = ⟨b, o + j, none⟩ by cases j <;> rfl]
  rw [e]
  generalize j % 4 = t at *
  generalize j / 4 = q at *
  rcases (by omega : t = 0 ∨ t = 1 ∨ t = 2 ∨ t = 3) with rfl | rfl | rfl | rfl
  · simp at hu; subst hu; exact h0
  · simp at hu; subst hu; exact h1
  · simp at hu; subst hu; exact h2
  · simp at hu; subst hu; exact h3
theorem own_vals {w : World} {B n : Nat} {v : Value} {kk nn dd : Nat → Int} {ss : Nat → ByteArray} {e : TypeId} (h : w.ownsRow B e 4 v n (cells4 kk nn dd ss n)) : ∃ X c, v = .slice X n c ∧ Vals w X n kk nn dd ss := by
  have hl := h.lt
  have hcs := fun g hg => h.cells (g := g) hg
  rcases h.2 with ⟨rfl, hk⟩ | ⟨g, cap, cur, rfl, hb, hg, hn, hm, hz, ht⟩
  · exact ⟨none, 0, by rw [hk], fun h9 => absurd h9 (by omega)⟩
  · refine ⟨_, _, rfl, fun _ => ⟨g, 0, rfl, (hl g rfl).2, fun k hk => ?_⟩⟩
    have each : ∀ t, t < 4 → w.cell? ⟨g, 0 + k * 4 + t, none⟩ = [Value.int .i64 (kk k), .int .i64 (nn k), .int .i64 (dd k), .string (ss k)][t]? := by
      intro t ht4
      rw [Nat.zero_add, ← cells4_get kk nn dd ss n k t hk ht4, cell_of_row w g _ cur e (0, 0) hg, ← ht, List.getElem?_take, if_pos (by omega), Array.getElem?_toList]
    exact ⟨each 0 (by omega), each 1 (by omega), each 2 (by omega), each 3 (by omega)⟩
theorem kinds9 (k n d : Int) (s : ByteArray) (w : World) : ∃ W, w.alloc (.cells #[.int .i64 k, .int .i64 n, .int .i64 d, .string s] 25) = W ∧ Below w.heap.size w W ∧
    Hid (∀ W', Below W.heap.size W W' → W'.cell? ⟨w.heap.size, 0, none⟩ = some (.int .i64 k) ∧ W'.cell? ⟨w.heap.size, 1, none⟩ = some (.int .i64 n) ∧ W'.cell? ⟨w.heap.size, 2, none⟩ = some (.int .i64 d) ∧ W'.cell? ⟨w.heap.size, 3, none⟩ = some (.string s)) := by
  obtain ⟨W, b, hW, hb, hlt, hbel, K⟩ := box_facts w k n d s
  subst hb
  exact ⟨W, hW, hbel, K⟩
theorem info9 : (Tryz.prog.info? 25).map (fun i => (i.zero, i.size, i.bytes)) = some (some (.agg #[.int .i64 0, .int .i64 0, .int .i64 0, .string ⟨#[]⟩]), 4, 40) := by kernel_rfl
/-- A copy of a list of values. -/
theorem wp_copy {ops : Array Oper} {rest : List Oper} {o : Oper} {a : Act} {Q : Exit → Act → World → Prop} (hgd : o.guard = none) (s x : Operand)
    (ho : o.op = .call { callee := .builtin .append, args := #[s, x], argTypes := #[22, 22] }) (w : World) (A : Option Addr) (n cap : Nat) (kk nn dd : Nat → Int) (ss : Nat → ByteArray) (hv : Vals w A n kk nn dd ss) (hA : A = none → n = 0 ∧ cap = 0) (hn : n ≤ 5)
    (hs : a.eval s = .slice (some ⟨w.heap.size, 0, none⟩) 0 0) (hx : a.eval x = .slice A n cap)
    (h : ∀ X c w1, Vals w1 X n kk nn dd ss → Below w.heap.size w w1 → wpList Tryz.prog ops Q rest (a.put o.dst (.slice X n c)) w1) : wpList Tryz.prog ops Q (o :: rest) a (w.alloc (.cells #[] 25)) := by
  obtain ⟨i0, hi, hii⟩ : ∃ i, Tryz.prog.info? 25 = some i ∧ (i.zero, i.size, i.bytes) = (some (.agg #[.int .i64 0, .int .i64 0, .int .i64 0, .string ⟨#[]⟩]), 4, 40) := by
    have := info9
    rcases hc : Tryz.prog.info? 25 with _ | i
    · rw [hc] at this; cases this
    · rw [hc] at this; exact ⟨i, rfl, by simpa using this⟩
  simp only [Prod.mk.injEq] at hii
  have hb0 : Below w.heap.size w (w.alloc (.cells #[] 25)) := (Below.refl _ _).alloc (Nat.le_refl _) _
  have hown : (w.alloc (.cells #[] 25)).ownsRow w.heap.size 25 4 (.slice (some ⟨w.heap.size, 0, none⟩) 0 0) 0 [] :=
    ⟨rfl, .inr ⟨w.heap.size, 0, #[], rfl, Nat.le_refl _, heap_alloc_new w _, by omega, by simp, rfl, rfl⟩⟩
  cases A with
  | none =>
    obtain ⟨rfl, rfl⟩ := hA rfl
    exact wpList_append_own_none hgd s x _ ho w.heap.size 25 i0 4 Tryz.underlying22 hi _ 0 [] hs hown hx (h _ _ _ (fun h9 => absurd h9 (by omega)) hb0)
  | some ad =>
    have hnews : ∀ j u, (cells4 kk nn dd ss n)[j]? = some u → (w.alloc (.cells #[] 25)).cell? (ad.add j) = some u := by
      by_cases h0 : 0 < n
      · obtain ⟨b, o, e, h1, h2⟩ := (hv.below hb0) h0
        cases e
        exact cells4_at h2
      · obtain rfl : n = 0 := by omega
        intro j u hu
        cases hu
    refine wpList_append_own _ hgd s x _ ho w.heap.size 25 i0 (.agg #[.int .i64 0, .int .i64 0, .int .i64 0, .string ⟨#[]⟩]) 4 40 Tryz.underlying22 hi hii.1 hii.2.1 hii.2.2 rfl (by omega) _ 0 [] hs hown ad n cap (cells4 kk nn dd ss n) hx (cells4_len _ _ _ _ _) hnews (cells4_one _ _ _ _ _) (by unfold maxLen; omega) (by omega) (by simp) ?_
    intro v' w1 hown1 hgrow _
    rw [List.nil_append, Nat.zero_add] at hown1
    obtain ⟨X, c, rfl, hV⟩ := own_vals hown1
    exact h X c w1 hV (hb0.grown hgrow (by simp) (fun j hj => (hown.lt j hj).1))
set_option maxRecDepth 100000 in
set_option maxHeartbeats 8000000 in
theorem l_does (w : World) (op : Int) (A : Option Addr) (n cap : Nat) (kk nn dd : Nat → Int) (ss : Nat → ByteArray) (h : Vals w A n kk nn dd ss) (hA : A = none → n = 0 ∧ cap = 0) (hsz : ∀ k, k < n → (ss k).size ≤ 9223372036854775807)
    (m : Int) (hm : w.cell? ⟨3, 0, none⟩ = some (.int .i64 m)) :
    Calls Tryz.prog 3 #[.int .i64 op, .slice A n cap] w fun e w' => e = .returned (.bool true) ∧ Below w.heap.size w w' := by
  have WK : Hid (∀ W, Below w.heap.size w W → Calls Tryz.prog 4 #[] W fun e w' => e = .returned (.bool true) ∧ Below W.heap.size W w') := fun W hw => c_works W m ((hw.cell (p := ⟨3, 0, none⟩) (ltd_of_cell hm)).trans hm)
  clear hm
  by_cases hl : n ≤ 5
  · obtain ⟨rk, rn, rd, rs, r, hX, hR⟩ := both_all op n kk nn dd ss hsz
    have HX : Hid (∀ W A cap, Vals W A n kk nn dd ss → Calls Tryz.prog 5 #[.int .i64 op, .slice A n cap] W fun e w' => e = .returned (.tuple #[V rk rn rd rs, .int .i64 r]) ∧ Below W.heap.size W w') := hX
    have HR : Hid (∀ W A cap, Vals W A n kk nn dd ss → Calls Tryz.prog 6 #[.int .i64 op, .slice A n cap] W fun e w' => e = .returned (.tuple #[V rk rn rd rs, .int .i64 r]) ∧ Below W.heap.size W w') := hR
    have H : Hid (∀ W, Below w.heap.size w W → Vals W A n kk nn dd ss) := fun W hW => h.below hW
    have HA := Lib.hid hA
    have i1 : ((5 : Int) < (n : Int)) = False := by simp; omega
    clear hX hR hsz h hA
    go_enter Tryz.func3, Tryz.ntmps3
    go_wp2_with (at_builtin; refine wp_copy rfl _ _ rfl w A n cap kk nn dd ss (H.out _ (Below.refl _ _)) HA.out hl rfl rfl ?_; intro X c w1 hV hb1; have HV : Hid (∀ W, Below w1.heap.size w1 W → Vals W X n kk nn dd ss) := fun W hW => hV.below hW; have B1 : Hid (Below w.heap.size w w1) := hb1; clear hV hb1)
    refine (HX.out w1 X c (HV.out _ (Below.refl _ _))).mono ?_
    rintro e w2 ⟨rfl, hb2⟩
    obtain ⟨w3, hw3, hb3, K3⟩ := kinds9 rk rn rd rs w2
    have B13 := Lib.hid (btr hb2 hb3)
    have B3 := Lib.hid (btr B1.out B13.out)
    clear hb2 hb3
    go_wp2_with fail
    refine (HR.out w3 A cap (H.out _ B3.out)).mono ?_
    rintro e w4 ⟨rfl, hb4⟩
    obtain ⟨w5, hw5, hb5, K5⟩ := kinds9 rk rn rd rs w4
    have B35 := Lib.hid (btr hb4 hb5)
    have B5 := Lib.hid (btr B3.out B35.out)
    have B15 := Lib.hid (btr B13.out B35.out)
    clear hb4 hb5
    go_wp2_with fail
    go_loopw [10] (fun i wr => ∃ k : Nat, k ≤ n ∧ i = .int .i64 k ∧ Hid (Below w5.heap.size w5 wr)) (fun i _ => n - (intOf i).toNat)
    case atStart => exact ⟨0, by omega, rfl, Below.refl _ _⟩
    case round =>
      obtain ⟨k, hk, rfl, HB⟩ := hrel
      by_cases hlt : k < n
      · obtain ⟨b, o, rfl, hb9, hc9⟩ := (H.out wr (btr B5.out HB.out)) (by omega)
        obtain ⟨b', o', rfl, hb8, hc8⟩ := (HV.out wr (btr B15.out HB.out)) (by omega)
        obtain ⟨d0, d1, d2, d3⟩ := hc9 k hlt
        obtain ⟨c0, c1, c2, c3⟩ := hc8 k hlt
        have hkk : (k : Int) < (n : Int) := by omega
        clear hc9 hc8 H HV HX HR HA K3 K5 WK
        generalize kk k = z1 at *
        generalize nn k = z2 at *
        generalize dd k = z3 at *
        generalize ss k = z4 at *
        have KK : Hid (∀ w', Below wr.heap.size wr w' → w'.cell? ⟨b, o + k * 4, none⟩ = some (.int .i64 z1) ∧ w'.cell? ⟨b, o + k * 4 + 1, none⟩ = some (.int .i64 z2) ∧ w'.cell? ⟨b, o + k * 4 + 2, none⟩ = some (.int .i64 z3) ∧ w'.cell? ⟨b, o + k * 4 + 3, none⟩ = some (.string z4) ∧ w'.cell? ⟨b', o' + k * 4, none⟩ = some (.int .i64 z1) ∧ w'.cell? ⟨b', o' + k * 4 + 1, none⟩ = some (.int .i64 z2) ∧ w'.cell? ⟨b', o' + k * 4 + 2, none⟩ = some (.int .i64 z3) ∧ w'.cell? ⟨b', o' + k * 4 + 3, none⟩ = some (.string z4)) := fun w' hW => ⟨(hW.cell (p := ⟨b, _, none⟩) hb9).trans d0, (hW.cell (p := ⟨b, _, none⟩) hb9).trans d1, (hW.cell (p := ⟨b, _, none⟩) hb9).trans d2, (hW.cell (p := ⟨b, _, none⟩) hb9).trans d3, (hW.cell (p := ⟨b', _, none⟩) hb8).trans c0, (hW.cell (p := ⟨b', _, none⟩) hb8).trans c1, (hW.cell (p := ⟨b', _, none⟩) hb8).trans c2, (hW.cell (p := ⟨b', _, none⟩) hb8).trans c3⟩
        have Bd : Below wr.heap.size wr wr.drew := Below.drew (Below.refl _ _)
        have HBd : Hid (Below w5.heap.size w5 wr.drew) := btr HB.out Bd
        clear d0 d1 d2 d3 c0 c1 c2 c3
        go_wp2_with fail
        go_region_held3 (fun w' => w'.cell? ⟨b, o + k * 4, none⟩ = some (.int .i64 z1) ∧ w'.cell? ⟨b, o + k * 4 + 1, none⟩ = some (.int .i64 z2) ∧ w'.cell? ⟨b, o + k * 4 + 2, none⟩ = some (.int .i64 z3) ∧ w'.cell? ⟨b, o + k * 4 + 3, none⟩ = some (.string z4) ∧ w'.cell? ⟨b', o' + k * 4, none⟩ = some (.int .i64 z1) ∧ w'.cell? ⟨b', o' + k * 4 + 1, none⟩ = some (.int .i64 z2) ∧ w'.cell? ⟨b', o' + k * 4 + 2, none⟩ = some (.int .i64 z3) ∧ w'.cell? ⟨b', o' + k * 4 + 3, none⟩ = some (.string z4)) (first | exact KK.out _ Bd | exact KK.out _ (Below.refl _ _)) (fail)
        go_wp2
        go_roundw
        case rel => exact ⟨k + 1, by omega, by go_num, by first | exact HBd | exact HB⟩
        case measure => simp [intOf]; omega
      · obtain rfl : k = n := by omega
        clear H HV HX HR HA
        obtain ⟨x0, x1, x2, x3⟩ := K3.out wr (btr B35.out HB.out)
        obtain ⟨y0, y1, y2, y3⟩ := K5.out wr HB.out
        have BE := Lib.hid (btr B5.out HB.out)
        clear K3 K5 B1 B13 B35 B15
        go_wp2_with fail
        refine (WK.out _ BE.out).mono ?_
        rintro e w7 ⟨rfl, hb7⟩
        have B7 := Lib.hid (btr BE.out hb7)
        clear hb7
        go_wp2
        go_ret
        exact ⟨rfl, B7.out⟩
  · have i1 : ((5 : Int) < (n : Int)) = True := by simp; omega
    clear h hsz hA
    go_enter Tryz.func3, Tryz.ntmps3
    go_wp2_with fail
    refine (WK.out _ (Below.refl _ _)).mono ?_
    rintro e w1 ⟨rfl, hb⟩
    go_wp2
    go_ret
    exact ⟨rfl, hb⟩
end Go.Proofs.YtnfncdalneifnaaGreatDoor
end

/- ExactDoes: whatever the operation and the values, Do of the program answers as the document's own account does, and changes nothing of what it is given: the law returns true. Its row lists package-level variables of Go's library, tied to the program's text by the card. -/
section
namespace Go.Proofs.YtnfncdalneifnaaGreatDoor
open Go.ChangeShapes Go.WideShapes Go.ChangeAt Go.RowKit

set_option maxRecDepth 100000 in
theorem does_lifted (os : Os) (started : os.Started) (H : Type) (enc : TypeId × Value → H) :
    ReturnsInHanded {} Tryz.checked os 3 .any (fun w args => (Rows.exactDoesSpec.pre enc Tryz.prog Tryz.f3 [] false w args ∧ laidMetH Tryz.prog Rows.exactDoesRow.laid w) ∧ sizedMet enc Tryz.prog Tryz.f3 (OpenSpec.ofChange Rows.exactDoesSpec) false w args)
      (Rows.exactDoesSpec.post enc Tryz.prog Tryz.f3 false true false false) := by
  refine handed_laid_shaped (C := Tryz.checked) (X := fun w _ => laidMetH Tryz.prog Rows.exactDoesRow.laid w) (fun _ _ _ hh h => h.of_heap hh) own started (by kernel_rfl) Tryz.func3
    (ChangeSpec.witness_shaped (enc := enc) (C := Tryz.checked) (os := os) (X := fun w _ => laidMetH Tryz.prog Rows.exactDoesRow.laid w) false (World.laidAll Tryz.prog os Rows.exactDoesRow.laid) #[.int .i64 0, .slice none 0 0] 8 (World.laidAll_os _ _ _)
      (World.shaped_of_ZipB (by kernel_rfl) (by kernel_rfl)) (by kernel_rfl) (by kernel_rfl) (by kernel_rfl)
      (by rw [MakeChecks.laidMetH_plain _ _ _ (by kernel_rfl)]; exact laidMet_laidAll _ (by kernel_rfl) (by kernel_rfl))) ?_
  intro W base args ds gs before hval0 hW _ hsh
  have hval : ∀ (j : Nat) t v, Tryz.f3.params[j]? = some t → args[j]? = some v → Value.okWide Tryz.prog W .any base t v := hval0
  have hW' := hW
  obtain ⟨p, q, hA0, hV, rfl, _, _⟩ := hW
  have hA : DataW.TrodAll enc Tryz.prog W 0 (fun _ => true) true Tryz.f3.params.toList args.toList ds p := hA0
  rw [Tryz.params3] at hA hval
  obtain ⟨v0, v1, d0, d1, p0, p1, rfl, rfl, rfl, h0, h1⟩ := trodAll_two hA
  obtain ⟨rfl, rfl⟩ := trodVars_none hV
  obtain ⟨op, rfl, rfl, rfl, wop⟩ := open_int Tryz.underlying3 (hval 0 3 v0 rfl rfl) h0
  obtain ⟨A, n, cap, rfl⟩ := okWide_slice Tryz.underlying22 (hval 1 22 v1 rfl rfl)
  clear hA0 hval0
  simp only [List.append_nil, List.nil_append] at hW'
  obtain ⟨m, hm⟩ := maxLen_cell hsh
  have hlt : ∀ x ∈ p1, x.block < W.heap.size := fun x hx => hW'.lt x (by simp [hx])
  have h1k := h1
  obtain ⟨_, f1⟩ := h1
  obtain ⟨kk, nn, dd, ss, hvs, hno, hsz⟩ := open_vals9 f1
  refine (l_does W op A n cap kk nn dd ss hvs hno hsz m hm).mono fun e W' ⟨he, hb⟩ => ?_
  subst he
  exact ⟨_, rfl, ⟨_, _, _, [], _, [], hW', trodAll_mk1 (shut_bool Tryz.underlying4 _), trodAll_mk2 (shut_int Tryz.underlying3 wop) (Below.trod laidOut' (by kernel_rfl) (of_decide_eq_true (by kernel_rfl)) h1k hb hlt), rfl, hb.frame _, fun h => by cases h⟩⟩

theorem does_row : Rows.ExactDoesSaid :=
  OpenClaim.holds_of_wide 3 Tryz.f3 rfl rfl rfl rfl rfl rfl rfl ⟨rfl, rfl, rfl, rfl, rfl⟩ rfl rfl rfl rfl rfl (by kernel_rfl) Tryz.func3 (by kernel_rfl)
    (of_decide_eq_true (by kernel_rfl)) (by unfold Func.isWrapper; first | (rw [if_pos (by decide +kernel)]; kernel_rfl) | (rw [if_neg (by decide +kernel)]; exact ⟨rfl, rfl⟩))
    (fun os started H enc _ => does_lifted os started H enc)

theorem does_card : Rows.ExactDoesCardSaid :=
  Claim7.holds_tied_plain_at .later [] Rows.exactDoesCard.laidKinds true Rows.exactDoesCard.stood.harness true
    does_row (fun _ h => by cases h) (by kernel_rfl) (fun _ h => by cases h) exactDoes_row_tie rfl ⟨rfl, rfl⟩ (by kernel_rfl) rfl
    (fun f fn hf hfn => by
      obtain rfl : f = 3 := Option.some.inj ((show Tryz.prog.funcNamed "tesseract/tesseractlaw01.ExactDoes" = some 3 by kernel_rfl).symm.trans hf) |>.symm
      obtain rfl : fn = Tryz.f3 := (Option.some.inj (Tryz.func3.symm.trans hfn)).symm
      exact ⟨by kernel_rfl, fun j t ht => by
        rw [Tryz.params3] at ht
        have hin : t ∈ [3, 22] := by simpa using Array.mem_of_getElem? ht
        have hall : ([3, 22].all fun u => !Tryz.prog.wantsStandIn u) = true := by kernel_rfl
        exact (show Tryz.prog.wantsStandIn t = false by simpa using List.all_eq_true.1 hall t hin)⟩)
    (by kernel_rfl)
end Go.Proofs.YtnfncdalneifnaaGreatDoor
end

/- From the row's condition to the walk: cells, and arrays. -/
import Derived.Test.YtoippldgoehpcaaGreatDoorZOpB
import Derived.Test.YtoippldgoehpcaaGreatDoorZLS
import Derived.Test.YtoippldgoehpcaaGreatDoorZPrt2
import Derived.OpenShut
import Derived.Test.YtoippldgoehpcaaGreatDoorZSch
import Derived.Test.YtoippldgoehpcaaGreatDoorZMathT
import Derived.Test.YtoippldgoehpcaaGreatDoorZCmpS
import Derived.Test.YtoippldgoehpcaaGreatDoorZSpH

/- From the row's condition to the walk: cells, and arrays. -/
section
namespace Go.Proofs.YtoippldgoehpcaaGreatDoor
open Go Go.ChangeShapes Go.WideShapes Go.ChangeAt Go.RowKit

/-- The cells of a slice, whatever their sizes. -/
def CelsAt (w : World) (A : Option Addr) (N : Nat) (ln vl : Nat → Nat) (x vk vn vd : Nat → Nat → Int) (vs : Nat → Nat → ByteArray) : Prop :=
  0 < N → ∃ b o, A = some ⟨b, o, none⟩ ∧ b < w.heap.size ∧ ∀ k, k < N → ∃ P c Q d, w.cell? ⟨b, o + k * 2, none⟩ = some (.slice P (ln k) c) ∧ w.cell? ⟨b, o + k * 2 + 1, none⟩ = some (.slice Q (vl k) d) ∧ IntsAt w P (ln k) (x k) ∧ ValsAt w Q (vl k) (vk k) (vn k) (vd k) (vs k)
theorem CelsAt.below {w w' : World} {A : Option Addr} {N : Nat} {ln vl : Nat → Nat} {x vk vn vd : Nat → Nat → Int} {vs : Nat → Nat → ByteArray} (h : CelsAt w A N ln vl x vk vn vd vs) (hb : Below w.heap.size w w') : CelsAt w' A N ln vl x vk vn vd vs := fun hn => by
  obtain ⟨b, o, h1, h2, h3⟩ := h hn
  refine ⟨b, o, h1, Nat.lt_of_lt_of_le h2 hb.size, fun k hk => ?_⟩
  obtain ⟨P, c, Q, d, a1, a2, a3, a4⟩ := h3 k hk
  exact ⟨P, c, Q, d, (hb.cell (p := ⟨b, o + k * 2, none⟩) h2).trans a1, (hb.cell (p := ⟨b, o + k * 2 + 1, none⟩) h2).trans a2, a3.below hb, a4.below hb⟩
theorem CelsAt.few {w : World} {A : Option Addr} {N : Nat} {ln vl : Nat → Nat} {x vk vn vd : Nat → Nat → Int} {vs : Nat → Nat → ByteArray} (h : CelsAt w A N ln vl x vk vn vd vs) (hl : ∀ k, k < N → ln k ≤ 1000) : CellsAt w A N ln vl x vk vn vd vs := fun hn => by
  obtain ⟨b, o, h1, h2, h3⟩ := h hn
  refine ⟨b, o, h1, h2, fun k hk => ?_⟩
  obtain ⟨P, c, Q, d, a1, a2, a3, a4⟩ := h3 k hk
  exact ⟨P, c, Q, d, a1, a2, a3, a4, hl k hk⟩
theorem CellsAt.cels {w : World} {A : Option Addr} {N : Nat} {ln vl : Nat → Nat} {x vk vn vd : Nat → Nat → Int} {vs : Nat → Nat → ByteArray} (h : CellsAt w A N ln vl x vk vn vd vs) : CelsAt w A N ln vl x vk vn vd vs := fun hn => by
  obtain ⟨b, o, h1, h2, h3⟩ := h hn
  refine ⟨b, o, h1, h2, fun k hk => ?_⟩
  obtain ⟨P, c, Q, d, a1, a2, a3, a4, _⟩ := h3 k hk
  exact ⟨P, c, Q, d, a1, a2, a3, a4⟩

theorem valF : ∃ f0 f1 f2 f3 : Field, Tryz.prog.underlying 43 = some (.struct #[f0, f1, f2, f3]) ∧ f0.type = 3 ∧ f0.offset = 0 ∧ f1.type = 2 ∧ f1.offset = 1 ∧ f2.type = 2 ∧ f2.offset = 2 ∧ f3.type = 9 ∧ f3.offset = 3 :=
  ⟨_, _, _, _, Tryz.underlying43, rfl, rfl, rfl, rfl, rfl, rfl, rfl, rfl⟩
theorem cellF : ∃ f0 f1 : Field, Tryz.prog.underlying 41 = some (.struct #[f0, f1]) ∧ f0.type = 38 ∧ f0.offset = 0 ∧ f1.type = 39 ∧ f1.offset = 1 :=
  ⟨_, _, Tryz.underlying41, rfl, rfl, rfl, rfl⟩
theorem arrF : ∃ f0 f1 f2 : Field, Tryz.prog.underlying 26 = some (.struct #[f0, f1, f2]) ∧ f0.type = 22 ∧ f0.offset = 0 ∧ f1.type = 23 ∧ f1.offset = 1 ∧ f2.type = 24 ∧ f2.offset = 2 :=
  ⟨_, _, _, Tryz.underlying26, rfl, rfl, rfl, rfl, rfl, rfl⟩
section
variable {H : Type} {enc : TypeId × Value → H} {w : World} {base : Nat} {spare : Nat → Bool} {held : Bool}
theorem open_valF {fuel : Nat} {c0 c1 c2 c3 : Value} {x : DataW H × List MemPlace} (h : DataW.trod enc Tryz.prog w base spare held fuel 43 [c0, c1, c2, c3] = some x) :
    ∃ (k n d : Int) (s : ByteArray), c0 = .int .i64 k ∧ c1 = .int .i64 n ∧ c2 = .int .i64 d ∧ c3 = .string s ∧ s.size ≤ 9223372036854775807 := by
  obtain ⟨f0, f1, f2, f3, hu, t0, o0, t1, o1, t2, o2, t3, o3⟩ := valF
  obtain ⟨xs, n, _, _, _, hlen, hf⟩ := DataW.trod_struct hu h
  have l0 : 0 < xs.length := by rw [hlen]; simp
  have l1 : 1 < xs.length := by rw [hlen]; simp
  have l2 : 2 < xs.length := by rw [hlen]; simp
  have l3 : 3 < xs.length := by rw [hlen]; simp
  have q0 := hf 0 f0 rfl
  have q1 := hf 1 f1 rfl
  have q2 := hf 2 f2 rfl
  have q3 := hf 3 f3 rfl
  have ci : Tryz.prog.cellsOf 3 = 1 := by kernel_rfl
  have c6 : Tryz.prog.cellsOf 2 = 1 := by kernel_rfl
  have cs : Tryz.prog.cellsOf 9 = 1 := by kernel_rfl
  rw [t0, o0, ci, List.getElem?_eq_getElem l0] at q0
  rw [t1, o1, c6, List.getElem?_eq_getElem l1] at q1
  rw [t2, o2, c6, List.getElem?_eq_getElem l2] at q2
  rw [t3, o3, cs, List.getElem?_eq_getElem l3] at q3
  obtain ⟨z0, e0, _, _⟩ := DataW.trod_int Tryz.underlying3 q0
  obtain ⟨z1, e1, _, _⟩ := DataW.trod_int Tryz.underlying2 q1
  obtain ⟨z2, e2, _, _⟩ := DataW.trod_int Tryz.underlying2 q2
  obtain ⟨z3, e3, _, l9⟩ := DataW.trod_string Tryz.underlying9 q3
  exact ⟨z0, z1, z2, z3, by simpa using e0, by simpa using e1, by simpa using e2, by simpa using e3, l9⟩
/-- What is known of a list of values. -/
def ValsF (w : World) (A : Option Addr) (n : Nat) (vk vn vd : Nat → Int) (vs : Nat → ByteArray) : Prop := ValsAt w A n vk vn vd vs ∧ n ≤ 9223372036854775807 ∧ ∀ k, k < n → (vs k).size ≤ 9223372036854775807
theorem open_valsF {fuel : Nat} {A : Option Addr} {n cap : Nat} {x : DataW H × List MemPlace} (h : DataW.trod enc Tryz.prog w base spare held fuel 39 [.slice A n cap] = some x) :
    ∃ (vk vn vd : Nat → Int) (vs : Nat → ByteArray), ValsF w A n vk vn vd vs := by
  have c4 : Tryz.prog.cellsOf 43 = 4 := by kernel_rfl
  rcases DataW.trod_slice Tryz.underlying39 h with ⟨h0, _⟩ | ⟨a, len, cap', elems, rest, m, _, hcs, _, hb, hl, hm, hlen, hel, hsp, hns⟩
  · obtain ⟨rfl, rfl, rfl⟩ : A = none ∧ n = 0 ∧ cap = 0 := by simpa using h0
    exact ⟨fun _ => 0, fun _ => 0, fun _ => 0, fun _ => ⟨#[]⟩, fun h9 => absurd h9 (by omega), by omega, fun _ h9 => absurd h9 (by omega)⟩
  · obtain ⟨rfl, rfl, rfl⟩ : A = some a ∧ n = len ∧ cap = cap' := by simpa using hcs
    have each : ∀ k, k < n → ∃ y : Int × Int × Int × ByteArray, w.cell? (a.add (k * 4)) = some (.int .i64 y.1) ∧ w.cell? ((a.add (k * 4)).add 1) = some (.int .i64 y.2.1) ∧ w.cell? ((a.add (k * 4)).add 2) = some (.int .i64 y.2.2.1) ∧ w.cell? ((a.add (k * 4)).add 3) = some (.string y.2.2.2) ∧ y.2.2.2.size ≤ 9223372036854775807 := by
      intro k hk
      have h1 := hel k hk
      have hk' : k < elems.length := by omega
      rw [c4, List.getElem?_eq_getElem hk', Option.bind_eq_some_iff] at h1
      obtain ⟨cs', hcs', hy⟩ := h1
      obtain ⟨_, hl2, hcell⟩ := World.cells?_some hcs'
      match cs', hl2 with
      | [c0, c1, c2, c3], _ =>
        obtain ⟨z0, z1, z2, z3, rfl, rfl, rfl, rfl, l9⟩ := open_valF hy
        exact ⟨(z0, z1, z2, z3), by simpa [Addr.add] using hcell 0 (by omega), by simpa using hcell 1 (by omega), by simpa using hcell 2 (by omega), by simpa using hcell 3 (by omega), l9⟩
    have pick : ∃ f : Nat → Int × Int × Int × ByteArray, ∀ k, k < n → w.cell? (a.add (k * 4)) = some (.int .i64 (f k).1) ∧ w.cell? ((a.add (k * 4)).add 1) = some (.int .i64 (f k).2.1) ∧ w.cell? ((a.add (k * 4)).add 2) = some (.int .i64 (f k).2.2.1) ∧ w.cell? ((a.add (k * 4)).add 3) = some (.string (f k).2.2.2) ∧ (f k).2.2.2.size ≤ 9223372036854775807 :=
      ⟨fun k => if hk : k < n then (each k hk).choose else (0, 0, 0, ⟨#[]⟩), fun k hk => by
        simp only [dif_pos hk]
        exact (each k hk).choose_spec⟩
    obtain ⟨f, hf⟩ := pick
    refine ⟨fun k => (f k).1, fun k => (f k).2.1, fun k => (f k).2.2.1, fun k => (f k).2.2.2, fun hn => ?_, Nat.le_trans hl (Nat.le_trans hm (by decide)), fun k hk => (hf k hk).2.2.2.2⟩
    obtain ⟨b, off, spot⟩ := a
    have hspot : spot = none := by simpa [Addr.add] using World.cell?_spot (hf 0 hn).1
    subst hspot
    refine ⟨b, off, rfl, ?_, fun k hk => ?_⟩
    · exact cell_lt (b := b) (o := off + 0 * 4) (by have := (hf 0 hn).1; rw [Go.WideShapes.add_plain] at this; exact this)
    · obtain ⟨q1, q2, q3, q4, _⟩ := hf k hk
      rw [Go.WideShapes.add_plain] at q1 q2 q3 q4
      rw [Go.WideShapes.add_plain] at q2 q3 q4
      exact ⟨q1, q2, q3, q4⟩
theorem open_vals1 {fuel : Nat} {c0 : Value} {x : DataW H × List MemPlace} (h : DataW.trod enc Tryz.prog w base spare held fuel 39 [c0] = some x) :
    ∃ (A : Option Addr) (n cap : Nat) (vk vn vd : Nat → Int) (vs : Nat → ByteArray), c0 = .slice A n cap ∧ ValsF w A n vk vn vd vs := by
  have h' := h
  rcases DataW.trod_slice Tryz.underlying39 h with ⟨h0, _⟩ | ⟨a, len, cap', elems, rest, m, _, hcs, _⟩
  · obtain rfl : c0 = .slice none 0 0 := by simpa using h0
    obtain ⟨vk, vn, vd, vs, h1⟩ := open_valsF h'
    exact ⟨_, _, _, vk, vn, vd, vs, rfl, h1⟩
  · obtain rfl : c0 = .slice (some a) len cap' := by simpa using hcs
    obtain ⟨vk, vn, vd, vs, h1⟩ := open_valsF h'
    exact ⟨_, _, _, vk, vn, vd, vs, rfl, h1⟩
/-- A cell's parts. -/
structure CelD where
  P : Option Addr
  ln : Nat
  c : Nat
  Q : Option Addr
  vl : Nat
  d : Nat
  x : Nat → Int
  vk : Nat → Int
  vn : Nat → Int
  vd : Nat → Int
  vs : Nat → ByteArray
theorem open_cell {fuel : Nat} {c0 c1 : Value} {y : DataW H × List MemPlace} (h : DataW.trod enc Tryz.prog w base spare held fuel 41 [c0, c1] = some y) :
    ∃ D : CelD, c0 = .slice D.P D.ln D.c ∧ c1 = .slice D.Q D.vl D.d ∧ IntsAt w D.P D.ln D.x ∧ ValsF w D.Q D.vl D.vk D.vn D.vd D.vs ∧ D.ln ≤ 9223372036854775807 := by
  obtain ⟨f0, f1, hu, t0, o0, t1, o1⟩ := cellF
  obtain ⟨xs, n, _, _, _, hlen, hf⟩ := DataW.trod_struct hu h
  have l0 : 0 < xs.length := by rw [hlen]; simp
  have l1 : 1 < xs.length := by rw [hlen]; simp
  have q0 := hf 0 f0 rfl
  have q1 := hf 1 f1 rfl
  have ci : Tryz.prog.cellsOf 38 = 1 := by kernel_rfl
  have cv : Tryz.prog.cellsOf 39 = 1 := by kernel_rfl
  rw [t0, o0, ci, List.getElem?_eq_getElem l0] at q0
  rw [t1, o1, cv, List.getElem?_eq_getElem l1] at q1
  have q0' : DataW.trod enc Tryz.prog w base spare held n 38 [c0] = some xs[0] := by simpa using q0
  have q1' : DataW.trod enc Tryz.prog w base spare held n 39 [c1] = some xs[1] := by simpa using q1
  obtain ⟨A, n0, k0, x0, rfl, i0, j0⟩ := open_ints1 q0'
  obtain ⟨B, n1, k1, vk, vn, vd, vs, rfl, i1⟩ := open_vals1 q1'
  exact ⟨⟨A, n0, k0, B, n1, k1, x0, vk, vn, vd, vs⟩, rfl, rfl, i0, i1, j0⟩
/-- What is known of a list of cells. -/
def CelsF (w : World) (A : Option Addr) (N : Nat) (ln vl : Nat → Nat) (x vk vn vd : Nat → Nat → Int) (vs : Nat → Nat → ByteArray) : Prop :=
  CelsAt w A N ln vl x vk vn vd vs ∧ N ≤ 9223372036854775807 ∧ ∀ k, k < N → ln k ≤ 9223372036854775807 ∧ vl k ≤ 9223372036854775807 ∧ ∀ j, j < vl k → (vs k j).size ≤ 9223372036854775807
theorem open_cells {fuel : Nat} {A : Option Addr} {n cap : Nat} {x : DataW H × List MemPlace} (h : DataW.trod enc Tryz.prog w base spare held fuel 24 [.slice A n cap] = some x) :
    ∃ (ln vl : Nat → Nat) (x vk vn vd : Nat → Nat → Int) (vs : Nat → Nat → ByteArray), CelsF w A n ln vl x vk vn vd vs := by
  have c2 : Tryz.prog.cellsOf 41 = 2 := by kernel_rfl
  rcases DataW.trod_slice Tryz.underlying24 h with ⟨h0, _⟩ | ⟨a, len, cap', elems, rest, m, _, hcs, _, hb, hl, hm, hlen, hel, hsp, hns⟩
  · obtain ⟨rfl, rfl, rfl⟩ : A = none ∧ n = 0 ∧ cap = 0 := by simpa using h0
    exact ⟨fun _ => 0, fun _ => 0, fun _ _ => 0, fun _ _ => 0, fun _ _ => 0, fun _ _ => 0, fun _ _ => ⟨#[]⟩, fun h9 => absurd h9 (by omega), by omega, fun _ h9 => absurd h9 (by omega)⟩
  · obtain ⟨rfl, rfl, rfl⟩ : A = some a ∧ n = len ∧ cap = cap' := by simpa using hcs
    have each : ∀ k, k < n → ∃ D : CelD, w.cell? (a.add (k * 2)) = some (.slice D.P D.ln D.c) ∧ w.cell? ((a.add (k * 2)).add 1) = some (.slice D.Q D.vl D.d) ∧ IntsAt w D.P D.ln D.x ∧ ValsF w D.Q D.vl D.vk D.vn D.vd D.vs ∧ D.ln ≤ 9223372036854775807 := by
      intro k hk
      have h1 := hel k hk
      have hk' : k < elems.length := by omega
      rw [c2, List.getElem?_eq_getElem hk', Option.bind_eq_some_iff] at h1
      obtain ⟨cs', hcs', hy⟩ := h1
      obtain ⟨_, hl2, hcell⟩ := World.cells?_some hcs'
      match cs', hl2 with
      | [c0, c1], _ =>
        obtain ⟨D, rfl, rfl, i0, i1, i2⟩ := open_cell hy
        exact ⟨D, by simpa [Addr.add] using hcell 0 (by omega), by simpa using hcell 1 (by omega), i0, i1, i2⟩
    have pick : ∃ f : Nat → CelD, ∀ k, k < n → w.cell? (a.add (k * 2)) = some (.slice (f k).P (f k).ln (f k).c) ∧ w.cell? ((a.add (k * 2)).add 1) = some (.slice (f k).Q (f k).vl (f k).d) ∧ IntsAt w (f k).P (f k).ln (f k).x ∧ ValsF w (f k).Q (f k).vl (f k).vk (f k).vn (f k).vd (f k).vs ∧ (f k).ln ≤ 9223372036854775807 :=
      ⟨fun k => if hk : k < n then (each k hk).choose else ⟨none, 0, 0, none, 0, 0, fun _ => 0, fun _ => 0, fun _ => 0, fun _ => 0, fun _ => ⟨#[]⟩⟩, fun k hk => by
        simp only [dif_pos hk]
        exact (each k hk).choose_spec⟩
    obtain ⟨f, hf⟩ := pick
    refine ⟨fun k => (f k).ln, fun k => (f k).vl, fun k => (f k).x, fun k => (f k).vk, fun k => (f k).vn, fun k => (f k).vd, fun k => (f k).vs, fun hn => ?_, Nat.le_trans hl (Nat.le_trans hm (by decide)), fun k hk => ⟨(hf k hk).2.2.2.2, (hf k hk).2.2.2.1.2.1, (hf k hk).2.2.2.1.2.2⟩⟩
    obtain ⟨b, off, spot⟩ := a
    have hspot : spot = none := by simpa [Addr.add] using World.cell?_spot (hf 0 hn).1
    subst hspot
    refine ⟨b, off, rfl, ?_, fun k hk => ?_⟩
    · exact cell_lt (b := b) (o := off + 0 * 2) (by have := (hf 0 hn).1; rw [Go.WideShapes.add_plain] at this; exact this)
    · obtain ⟨q1, q2, q3, q4, _⟩ := hf k hk
      rw [Go.WideShapes.add_plain] at q1 q2
      rw [Go.WideShapes.add_plain] at q2
      exact ⟨_, _, _, _, q1, q2, q3, q4.1⟩
theorem open_slice1 {fuel : Nat} {t e : TypeId} {c0 : Value} {x : DataW H × List MemPlace} (hu : Tryz.prog.underlying t = some (.slice e)) (h : DataW.trod enc Tryz.prog w base spare held fuel t [c0] = some x) : ∃ (A : Option Addr) (n cap : Nat), c0 = .slice A n cap := by
  rcases DataW.trod_slice hu h with ⟨h0, _⟩ | ⟨a, len, cap', elems, rest, m, _, hcs, _⟩
  · exact ⟨_, _, _, by simpa using h0⟩
  · exact ⟨_, _, _, by simpa using hcs⟩
/-- What is known of an array. -/
structure ArrF (w : World) (A : Option Addr) (n : Nat) (B : Option Addr) (m : Nat) (C : Option Addr) (N : Nat) (nm : Nat → ByteArray) (lo hi : Nat → Int) (an : Nat → ByteArray) (ty : Nat → Int) (ln vl : Nat → Nat) (x vk vn vd : Nat → Nat → Int) (vs : Nat → Nat → ByteArray) : Prop where
  dims : DimsAt w A n nm lo hi
  attrs : AttrsAt w B m an ty
  cells : CelsAt w C N ln vl x vk vn vd vs
  nmS : ∀ k, k < n → (nm k).size ≤ 9223372036854775807
  anS : ∀ k, k < m → (an k).size ≤ 9223372036854775807
  cS : ∀ k, k < N → ln k ≤ 9223372036854775807 ∧ vl k ≤ 9223372036854775807 ∧ ∀ j, j < vl k → (vs k j).size ≤ 9223372036854775807
  nL : n ≤ 9223372036854775807
  mL : m ≤ 9223372036854775807
  NL : N ≤ 9223372036854775807
theorem ArrF.below {w w' : World} {A : Option Addr} {n : Nat} {B : Option Addr} {m : Nat} {C : Option Addr} {N : Nat} {nm : Nat → ByteArray} {lo hi : Nat → Int} {an : Nat → ByteArray} {ty : Nat → Int} {ln vl : Nat → Nat} {x vk vn vd : Nat → Nat → Int} {vs : Nat → Nat → ByteArray}
    (h : ArrF w A n B m C N nm lo hi an ty ln vl x vk vn vd vs) (hb : Below w.heap.size w w') : ArrF w' A n B m C N nm lo hi an ty ln vl x vk vn vd vs :=
  ⟨h.dims.below hb, h.attrs.below hb, h.cells.below hb, h.nmS, h.anS, h.cS, h.nL, h.mL, h.NL⟩
theorem open_arr {fuel : Nat} {c0 c1 c2 : Value} {y : DataW H × List MemPlace} (h : DataW.trod enc Tryz.prog w base spare held fuel 26 [c0, c1, c2] = some y) :
    ∃ (A : Option Addr) (n cap : Nat) (B : Option Addr) (m bcap : Nat) (C : Option Addr) (N ccap : Nat) (nm : Nat → ByteArray) (lo hi : Nat → Int) (an : Nat → ByteArray) (ty : Nat → Int) (ln vl : Nat → Nat) (x vk vn vd : Nat → Nat → Int) (vs : Nat → Nat → ByteArray), c0 = .slice A n cap ∧ c1 = .slice B m bcap ∧ c2 = .slice C N ccap ∧ ArrF w A n B m C N nm lo hi an ty ln vl x vk vn vd vs := by
  obtain ⟨f0, f1, f2, hu, t0, o0, t1, o1, t2, o2⟩ := arrF
  obtain ⟨xs, n9, _, _, _, hlen, hf⟩ := DataW.trod_struct hu h
  have l0 : 0 < xs.length := by rw [hlen]; simp
  have l1 : 1 < xs.length := by rw [hlen]; simp
  have l2 : 2 < xs.length := by rw [hlen]; simp
  have q0 := hf 0 f0 rfl
  have q1 := hf 1 f1 rfl
  have q2 := hf 2 f2 rfl
  have ci : Tryz.prog.cellsOf 22 = 1 := by kernel_rfl
  have cv : Tryz.prog.cellsOf 23 = 1 := by kernel_rfl
  have cc : Tryz.prog.cellsOf 24 = 1 := by kernel_rfl
  rw [t0, o0, ci, List.getElem?_eq_getElem l0] at q0
  rw [t1, o1, cv, List.getElem?_eq_getElem l1] at q1
  rw [t2, o2, cc, List.getElem?_eq_getElem l2] at q2
  have q0' : DataW.trod enc Tryz.prog w base spare held n9 22 [c0] = some xs[0] := by simpa using q0
  have q1' : DataW.trod enc Tryz.prog w base spare held n9 23 [c1] = some xs[1] := by simpa using q1
  have q2' : DataW.trod enc Tryz.prog w base spare held n9 24 [c2] = some xs[2] := by simpa using q2
  obtain ⟨A, n, cap, rfl⟩ := open_slice1 Tryz.underlying22 q0'
  obtain ⟨B, m, bcap, rfl⟩ := open_slice1 Tryz.underlying23 q1'
  obtain ⟨C, N, ccap, rfl⟩ := open_slice1 Tryz.underlying24 q2'
  obtain ⟨nm, lo, hi, d1, d2, d3⟩ := open_dims q0'
  obtain ⟨an, ty, a1, a2, a3⟩ := open_attrs q1'
  obtain ⟨ln, vl, x, vk, vn, vd, vs, e1, e2, e3⟩ := open_cells q2'
  exact ⟨A, n, cap, B, m, bcap, C, N, ccap, nm, lo, hi, an, ty, ln, vl, x, vk, vn, vd, vs, rfl, rfl, rfl, d1, a1, e1, fun k hk => (d3 k hk).1, fun k hk => (a3 k hk).1, e3, d2, a2, e2⟩
set_option maxRecDepth 100000 in
theorem open_arrA {r : Reach} {b0 : Nat} {v : Value} {dt : DataW H} {ps : List MemPlace} (hval : Value.okWide Tryz.prog w r b0 26 v) (hd : DataW.Trod enc Tryz.prog w base spare held 26 v dt ps) :
    ∃ (A : Option Addr) (n cap : Nat) (B : Option Addr) (m bcap : Nat) (C : Option Addr) (N ccap : Nat) (nm : Nat → ByteArray) (lo hi : Nat → Int) (an : Nat → ByteArray) (ty : Nat → Int) (ln vl : Nat → Nat) (x vk vn vd : Nat → Nat → Int) (vs : Nat → Nat → ByteArray), v = ArrV A n cap B m bcap C N ccap ∧ ArrF w A n B m C N nm lo hi an ty ln vl x vk vn vd vs := by
  obtain ⟨f0, f1, f2, hu, _⟩ := arrF
  obtain ⟨cs, rfl, hsz⟩ := okWide_struct hu hval
  have c3 : Tryz.prog.cellsOf 26 = 3 := by kernel_rfl
  rw [c3] at hsz
  obtain ⟨fuel, hf⟩ := hd
  obtain ⟨l⟩ := cs
  match l, hsz with
  | [c0, c1, c2], _ =>
    have hf' : DataW.trod enc Tryz.prog w base spare held fuel 26 [c0, c1, c2] = some (dt, ps) := hf
    obtain ⟨A, n, cap, B, m, bcap, C, N, ccap, nm, lo, hi, an, ty, ln, vl, x, vk, vn, vd, vs, rfl, rfl, rfl, h9⟩ := open_arr hf'
    exact ⟨A, n, cap, B, m, bcap, C, N, ccap, nm, lo, hi, an, ty, ln, vl, x, vk, vn, vd, vs, rfl, h9⟩
end
end Go.Proofs.YtoippldgoehpcaaGreatDoor
end

/- From the row's condition to the walk: two lists of integers. -/
section
namespace Go.Proofs.YtoippldgoehpcaaGreatDoor
open Go Go.ChangeShapes Go.WideShapes Go.ChangeAt Go.RowKit

section
variable {H : Type} {enc : TypeId × Value → H} {w : World} {base : Nat} {spare : Nat → Bool} {held : Bool}
set_option maxRecDepth 100000 in
theorem open_twoA {r : Reach} {b0 : Nat} {v : Value} {dt : DataW H} {ps : List MemPlace} (hval : Value.okWide Tryz.prog w r b0 55 v) (hd : DataW.Trod enc Tryz.prog w base spare held 55 v dt ps) :
    ∃ (A B : Option Addr) (n c m d : Nat) (l h : Nat → Int), v = BoxW A B n c m d ∧ IntsAt w A n l ∧ IntsAt w B m h ∧ n ≤ 9223372036854775807 ∧ m ≤ 9223372036854775807 := by
  have hu := Tryz.underlying55
  have c2 : Tryz.prog.cellsOf 55 = 2 := by kernel_rfl
  have ci : Tryz.prog.cellsOf 38 = 1 := by kernel_rfl
  simp only [Value.okWide, hu] at hval
  obtain ⟨cs, rfl, hsz, _⟩ := hval
  rw [c2] at hsz
  obtain ⟨fuel, hf⟩ := hd
  obtain ⟨l⟩ := cs
  match l, hsz with
  | [c0, c1], _ =>
    have hf' : DataW.trod enc Tryz.prog w base spare held fuel 55 [c0, c1] = some (dt, ps) := hf
    obtain ⟨xs, n, _, _, _, hlen, hfl⟩ := DataW.trod_array hu hf'
    have l0 : 0 < xs.length := by rw [hlen]; omega
    have l1 : 1 < xs.length := by rw [hlen]; omega
    have q0 := hfl 0 (by omega)
    have q1 := hfl 1 (by omega)
    rw [ci, List.getElem?_eq_getElem l0] at q0
    rw [ci, List.getElem?_eq_getElem l1] at q1
    have q0' : DataW.trod enc Tryz.prog w base spare held n 38 [c0] = some xs[0] := by simpa using q0
    have q1' : DataW.trod enc Tryz.prog w base spare held n 38 [c1] = some xs[1] := by simpa using q1
    obtain ⟨A, n0, k0, x0, rfl, i0, j0⟩ := open_ints1 q0'
    obtain ⟨B, n1, k1, x1, rfl, i1, j1⟩ := open_ints1 q1'
    exact ⟨A, B, n0, k0, n1, k1, x0, x1, rfl, i0, i1, j0, j1⟩
end
end Go.Proofs.YtoippldgoehpcaaGreatDoor
end

/- Lists of dimensions, attributes and values compared: what is asked, and the reference. -/
section
namespace Go.Proofs.YtoippldgoehpcaaGreatDoor
open Go Go.RowKit Go.Deep

/-- Do the first k have it? -/
def allTo (p : Nat → Bool) : Nat → Bool
  | 0 => true
  | k + 1 => allTo p k && p k
theorem allTo_le {p : Nat → Bool} {k n : Nat} (h : allTo p k = false) (hn : k ≤ n) : allTo p n = false := by
  induction n with
  | zero => obtain rfl : k = 0 := by omega
            exact h
  | succ n ih =>
    by_cases e : k = n + 1
    · rw [← e]; exact h
    · rw [allTo, ih (by omega)]; rfl
theorem allTo_iff {p : Nat → Bool} {n : Nat} : allTo p n = true ↔ ∀ k, k < n → p k = true := by
  induction n with
  | zero => simp [allTo]
  | succ n ih =>
    rw [allTo, Bool.and_eq_true, ih]
    constructor
    · rintro ⟨h1, h2⟩ k hk
      by_cases e : k = n
      · rw [e]; exact h2
      · exact h1 k (by omega)
    · exact fun h => ⟨fun k hk => h k (by omega), h n (by omega)⟩
def dqQ (nm nm' : Nat → ByteArray) (lo lo' : Nat → Int) (hi hi' : Nat → Int) (k : Nat) : Bool := decide (nm k = nm' k) && (lo k == lo' k && (hi k == hi' k))
def sameD (n n' : Nat) (nm nm' : Nat → ByteArray) (lo lo' : Nat → Int) (hi hi' : Nat → Int) : Bool := n == n' && allTo (dqQ nm nm' lo lo' hi hi') n
def aqQ (an an' : Nat → ByteArray) (ty ty' : Nat → Int) (k : Nat) : Bool := decide (an k = an' k) && (ty k == ty' k)
def sameA (n n' : Nat) (an an' : Nat → ByteArray) (ty ty' : Nat → Int) : Bool := n == n' && allTo (aqQ an an' ty ty') n
def vqQ (vk vk' : Nat → Int) (vn vn' : Nat → Int) (vd vd' : Nat → Int) (vs vs' : Nat → ByteArray) (k : Nat) : Bool := vk k == vk' k && (vn k == vn' k && (vd k == vd' k && (decide (vs k = vs' k))))
def sameV (n n' : Nat) (vk vk' : Nat → Int) (vn vn' : Nat → Int) (vd vd' : Nat → Int) (vs vs' : Nat → ByteArray) : Bool := n == n' && allTo (vqQ vk vk' vn vn' vd vd' vs vs') n
set_option maxRecDepth 100000 in
set_option maxHeartbeats 2000000 in
theorem r_SameDims (w : World) (A B : Option Addr) (n c m d : Nat) (nm nm' : Nat → ByteArray) (lo lo' : Nat → Int) (hi hi' : Nat → Int) (ha : DimsAt w A n nm lo hi) (hb : DimsAt w B m nm' lo' hi') (hn : n ≤ 1000000) (hm : m ≤ 1000000) :
    Calls Tryz.prog 81 #[.slice A n c, .slice B m d] w fun e w' => e = .returned (.bool (sameD n m nm nm' lo lo' hi hi')) ∧ Below w.heap.size w w' := by
  have HA := Lib.hid ha
  have HB := Lib.hid hb
  obtain ⟨ve, hve⟩ : ∃ ve, sameD n m nm nm' lo lo' hi hi' = ve := ⟨_, rfl⟩
  rw [hve]
  have HV := Lib.hid hve
  clear ha hb hve
  by_cases h0 : n = m
  · subst h0
    have HE : Hid (ve = allTo (dqQ nm nm' lo lo' hi hi') n) := by show _ = _; rw [← HV.out, sameD, beq_self_eq_true, Bool.true_and]
    go_enter Tryz.func81, Tryz.ntmps81
    go_wp2
    go_loopw [5] (fun i wr => ∃ k : Nat, k ≤ n ∧ i = .int .i64 k ∧ Hid (allTo (dqQ nm nm' lo lo' hi hi') k = true) ∧ Hid (Below w.heap.size w wr)) (fun i _ => n - (intOf i).toNat)
    case atStart => exact ⟨0, Nat.zero_le _, rfl, rfl, Below.refl _ _⟩
    case round =>
      obtain ⟨k, hk, rfl, HK, HBw⟩ := hrel
      by_cases hlt : k < n
      · obtain ⟨b1, o1, rfl, _, hc1⟩ := (HA.out.below HBw.out) (by omega)
        obtain ⟨x0, x1, x2⟩ := hc1 k hlt
        obtain ⟨b2, o2, rfl, _, hc2⟩ := (HB.out.below HBw.out) (by omega)
        obtain ⟨y0, y1, y2⟩ := hc2 k hlt
        clear hc1 hc2
        have HS : Hid (allTo (dqQ nm nm' lo lo' hi hi') (k + 1) = (dqQ nm nm' lo lo' hi hi') k) := by show _ = _; rw [allTo, HK.out, Bool.true_and]
        have HD : Hid ((dqQ nm nm' lo lo' hi hi') k = (decide (nm k = nm' k) && (lo k == lo' k && (hi k == hi' k)))) := rfl
        have HL : Hid ((dqQ nm nm' lo lo' hi hi') k = false → ve = false) := fun h => by rw [HE.out]; exact allTo_le (k := k + 1) (by rw [HS.out, h]) (by omega)
        generalize nm k = nm9 at *
        generalize nm' k = nm8 at *
        generalize lo k = lo9 at *
        generalize lo' k = lo8 at *
        generalize hi k = hi9 at *
        generalize hi' k = hi8 at *
        by_cases g0 : nm9 = nm8
        · subst g0
          by_cases g1 : lo9 = lo8
          · subst g1
            by_cases g2 : hi9 = hi8
            · subst g2
              have HR : Hid (allTo (dqQ nm nm' lo lo' hi hi') (k + 1) = true) := by show _ = _; rw [HS.out, HD.out]; simp
              clear HS HD HL
              go_wp2
              go_quiet (fail)
              go_wp2
              go_roundw
              case rel => exact ⟨k + 1, by omega, by go_num, HR.out, drewB HBw.out _⟩
              case measure => simp [intOf]; omega
            · have HF : Hid (ve = false) := HL.out (by rw [HD.out]; simp [g2])
              clear HS HD HL
              go_wp2
              go_quiet (fail)
              go_wp2
              go_ret
              exact ⟨by rw [HF.out]; rfl, drewB HBw.out _⟩
          · have HF : Hid (ve = false) := HL.out (by rw [HD.out]; simp [g1])
            clear HS HD HL
            go_wp2
            go_quiet (fail)
            go_wp2
            go_ret
            exact ⟨by rw [HF.out]; rfl, drewB HBw.out _⟩
        · have HF : Hid (ve = false) := HL.out (by rw [HD.out]; simp [g0])
          have e0 : ¬ nm9.toList = nm8.toList := fun h => g0 (str_eq (by rw [h]; simp))
          clear HS HD HL
          go_wp2
          go_quiet (fail)
          go_wp2
          go_ret
          exact ⟨by rw [HF.out]; rfl, drewB HBw.out _⟩
      · obtain rfl : k = n := by omega
        go_wp2
        go_ret
        exact ⟨by rw [HE.out, HK.out]; rfl, HBw.out⟩
  · have HE : Hid (ve = false) := by show _ = _; rw [← HV.out, sameD, beq_false_of_ne h0, Bool.false_and]
    have h1 : ((n : Int) != (m : Int)) = true := by rw [bne_iff_ne]; omega
    go_enter Tryz.func81, Tryz.ntmps81
    go_wp2
    go_ret
    exact ⟨by rw [HE.out]; rfl, Below.refl _ _⟩
set_option maxRecDepth 100000 in
set_option maxHeartbeats 2000000 in
theorem r_SameAttrs (w : World) (A B : Option Addr) (n c m d : Nat) (an an' : Nat → ByteArray) (ty ty' : Nat → Int) (ha : AttrsAt w A n an ty) (hb : AttrsAt w B m an' ty') (hn : n ≤ 1000000) (hm : m ≤ 1000000) :
    Calls Tryz.prog 82 #[.slice A n c, .slice B m d] w fun e w' => e = .returned (.bool (sameA n m an an' ty ty')) ∧ Below w.heap.size w w' := by
  have HA := Lib.hid ha
  have HB := Lib.hid hb
  obtain ⟨ve, hve⟩ : ∃ ve, sameA n m an an' ty ty' = ve := ⟨_, rfl⟩
  rw [hve]
  have HV := Lib.hid hve
  clear ha hb hve
  by_cases h0 : n = m
  · subst h0
    have HE : Hid (ve = allTo (aqQ an an' ty ty') n) := by show _ = _; rw [← HV.out, sameA, beq_self_eq_true, Bool.true_and]
    go_enter Tryz.func82, Tryz.ntmps82
    go_wp2
    go_loopw [5] (fun i wr => ∃ k : Nat, k ≤ n ∧ i = .int .i64 k ∧ Hid (allTo (aqQ an an' ty ty') k = true) ∧ Hid (Below w.heap.size w wr)) (fun i _ => n - (intOf i).toNat)
    case atStart => exact ⟨0, Nat.zero_le _, rfl, rfl, Below.refl _ _⟩
    case round =>
      obtain ⟨k, hk, rfl, HK, HBw⟩ := hrel
      by_cases hlt : k < n
      · obtain ⟨b1, o1, rfl, _, hc1⟩ := (HA.out.below HBw.out) (by omega)
        obtain ⟨x0, x1⟩ := hc1 k hlt
        obtain ⟨b2, o2, rfl, _, hc2⟩ := (HB.out.below HBw.out) (by omega)
        obtain ⟨y0, y1⟩ := hc2 k hlt
        clear hc1 hc2
        have HS : Hid (allTo (aqQ an an' ty ty') (k + 1) = (aqQ an an' ty ty') k) := by show _ = _; rw [allTo, HK.out, Bool.true_and]
        have HD : Hid ((aqQ an an' ty ty') k = (decide (an k = an' k) && (ty k == ty' k))) := rfl
        have HL : Hid ((aqQ an an' ty ty') k = false → ve = false) := fun h => by rw [HE.out]; exact allTo_le (k := k + 1) (by rw [HS.out, h]) (by omega)
        generalize an k = an9 at *
        generalize an' k = an8 at *
        generalize ty k = ty9 at *
        generalize ty' k = ty8 at *
        by_cases g0 : an9 = an8
        · subst g0
          by_cases g1 : ty9 = ty8
          · subst g1
            have HR : Hid (allTo (aqQ an an' ty ty') (k + 1) = true) := by show _ = _; rw [HS.out, HD.out]; simp
            clear HS HD HL
            go_wp2
            go_quiet (fail)
            go_wp2
            go_roundw
            case rel => exact ⟨k + 1, by omega, by go_num, HR.out, drewB HBw.out _⟩
            case measure => simp [intOf]; omega
          · have HF : Hid (ve = false) := HL.out (by rw [HD.out]; simp [g1])
            clear HS HD HL
            go_wp2
            go_quiet (fail)
            go_wp2
            go_ret
            exact ⟨by rw [HF.out]; rfl, drewB HBw.out _⟩
        · have HF : Hid (ve = false) := HL.out (by rw [HD.out]; simp [g0])
          have e0 : ¬ an9.toList = an8.toList := fun h => g0 (str_eq (by rw [h]; simp))
          clear HS HD HL
          go_wp2
          go_quiet (fail)
          go_wp2
          go_ret
          exact ⟨by rw [HF.out]; rfl, drewB HBw.out _⟩
      · obtain rfl : k = n := by omega
        go_wp2
        go_ret
        exact ⟨by rw [HE.out, HK.out]; rfl, HBw.out⟩
  · have HE : Hid (ve = false) := by show _ = _; rw [← HV.out, sameA, beq_false_of_ne h0, Bool.false_and]
    have h1 : ((n : Int) != (m : Int)) = true := by rw [bne_iff_ne]; omega
    go_enter Tryz.func82, Tryz.ntmps82
    go_wp2
    go_ret
    exact ⟨by rw [HE.out]; rfl, Below.refl _ _⟩
set_option maxRecDepth 100000 in
set_option maxHeartbeats 2000000 in
theorem r_SameVals (w : World) (A B : Option Addr) (n c m d : Nat) (vk vk' : Nat → Int) (vn vn' : Nat → Int) (vd vd' : Nat → Int) (vs vs' : Nat → ByteArray) (ha : ValsAt w A n vk vn vd vs) (hb : ValsAt w B m vk' vn' vd' vs') (hn : n ≤ 1000000) (hm : m ≤ 1000000) :
    Calls Tryz.prog 32 #[.slice A n c, .slice B m d] w fun e w' => e = .returned (.bool (sameV n m vk vk' vn vn' vd vd' vs vs')) ∧ Below w.heap.size w w' := by
  have HA := Lib.hid ha
  have HB := Lib.hid hb
  obtain ⟨ve, hve⟩ : ∃ ve, sameV n m vk vk' vn vn' vd vd' vs vs' = ve := ⟨_, rfl⟩
  rw [hve]
  have HV := Lib.hid hve
  clear ha hb hve
  by_cases h0 : n = m
  · subst h0
    have HE : Hid (ve = allTo (vqQ vk vk' vn vn' vd vd' vs vs') n) := by show _ = _; rw [← HV.out, sameV, beq_self_eq_true, Bool.true_and]
    go_enter Tryz.func32, Tryz.ntmps32
    go_wp2
    go_loopw [5] (fun i wr => ∃ k : Nat, k ≤ n ∧ i = .int .i64 k ∧ Hid (allTo (vqQ vk vk' vn vn' vd vd' vs vs') k = true) ∧ Hid (Below w.heap.size w wr)) (fun i _ => n - (intOf i).toNat)
    case atStart => exact ⟨0, Nat.zero_le _, rfl, rfl, Below.refl _ _⟩
    case round =>
      obtain ⟨k, hk, rfl, HK, HBw⟩ := hrel
      by_cases hlt : k < n
      · obtain ⟨b1, o1, rfl, _, hc1⟩ := (HA.out.below HBw.out) (by omega)
        obtain ⟨x0, x1, x2, x3⟩ := hc1 k hlt
        obtain ⟨b2, o2, rfl, _, hc2⟩ := (HB.out.below HBw.out) (by omega)
        obtain ⟨y0, y1, y2, y3⟩ := hc2 k hlt
        clear hc1 hc2
        have HS : Hid (allTo (vqQ vk vk' vn vn' vd vd' vs vs') (k + 1) = (vqQ vk vk' vn vn' vd vd' vs vs') k) := by show _ = _; rw [allTo, HK.out, Bool.true_and]
        have HD : Hid ((vqQ vk vk' vn vn' vd vd' vs vs') k = (vk k == vk' k && (vn k == vn' k && (vd k == vd' k && (decide (vs k = vs' k)))))) := rfl
        have HL : Hid ((vqQ vk vk' vn vn' vd vd' vs vs') k = false → ve = false) := fun h => by rw [HE.out]; exact allTo_le (k := k + 1) (by rw [HS.out, h]) (by omega)
        generalize vk k = vk9 at *
        generalize vk' k = vk8 at *
        generalize vn k = vn9 at *
        generalize vn' k = vn8 at *
        generalize vd k = vd9 at *
        generalize vd' k = vd8 at *
        generalize vs k = vs9 at *
        generalize vs' k = vs8 at *
        by_cases g0 : vk9 = vk8
        · subst g0
          by_cases g1 : vn9 = vn8
          · subst g1
            by_cases g2 : vd9 = vd8
            · subst g2
              by_cases g3 : vs9 = vs8
              · subst g3
                have HR : Hid (allTo (vqQ vk vk' vn vn' vd vd' vs vs') (k + 1) = true) := by show _ = _; rw [HS.out, HD.out]; simp
                clear HS HD HL
                go_wp2
                go_quiet (fail)
                go_wp2
                go_roundw
                case rel => exact ⟨k + 1, by omega, by go_num, HR.out, drewB HBw.out _⟩
                case measure => simp [intOf]; omega
              · have HF : Hid (ve = false) := HL.out (by rw [HD.out]; simp [g3])
                have e3 : ¬ vs9.toList = vs8.toList := fun h => g3 (str_eq (by rw [h]; simp))
                clear HS HD HL
                go_wp2
                go_quiet (fail)
                go_wp2
                go_ret
                exact ⟨by rw [HF.out]; rfl, drewB HBw.out _⟩
            · have HF : Hid (ve = false) := HL.out (by rw [HD.out]; simp [g2])
              clear HS HD HL
              go_wp2
              go_quiet (fail)
              go_wp2
              go_ret
              exact ⟨by rw [HF.out]; rfl, drewB HBw.out _⟩
          · have HF : Hid (ve = false) := HL.out (by rw [HD.out]; simp [g1])
            clear HS HD HL
            go_wp2
            go_quiet (fail)
            go_wp2
            go_ret
            exact ⟨by rw [HF.out]; rfl, drewB HBw.out _⟩
        · have HF : Hid (ve = false) := HL.out (by rw [HD.out]; simp [g0])
          clear HS HD HL
          go_wp2
          go_quiet (fail)
          go_wp2
          go_ret
          exact ⟨by rw [HF.out]; rfl, drewB HBw.out _⟩
      · obtain rfl : k = n := by omega
        go_wp2
        go_ret
        exact ⟨by rw [HE.out, HK.out]; rfl, HBw.out⟩
  · have HE : Hid (ve = false) := by show _ = _; rw [← HV.out, sameV, beq_false_of_ne h0, Bool.false_and]
    have h1 : ((n : Int) != (m : Int)) = true := by rw [bne_iff_ne]; omega
    go_enter Tryz.func32, Tryz.ntmps32
    go_wp2
    go_ret
    exact ⟨by rw [HE.out]; rfl, Below.refl _ _⟩
end Go.Proofs.YtoippldgoehpcaaGreatDoor
end

/- The reference's Of. -/
section
namespace Go.Proofs.YtoippldgoehpcaaGreatDoor
open Go Go.RowKit Go.Deep

def ofB (lo hi xs : Nat → Int) (n m : Nat) : Bool := n == m && inTo lo hi xs n
set_option maxRecDepth 100000 in
set_option maxHeartbeats 4000000 in
theorem r_Of (w : World) (A X : Option Addr) (n cap m cap' : Nat) (nm : Nat → ByteArray) (lo hi xs : Nat → Int) (hd : DimsAt w A n nm lo hi) (hx : IntsAt w X m xs) (hn : n ≤ 1000) (hm : m ≤ 1000) :
    Calls Tryz.prog 105 #[.slice A n cap, .slice X m cap'] w fun e w' => e = .returned (.bool (ofB lo hi xs n m)) ∧ Below w.heap.size w w' := by
  by_cases hnm : n = m
  · subst hnm
    have e1 : ofB lo hi xs n n = inTo lo hi xs n := by rw [ofB, beq_self_eq_true, Bool.true_and]
    rw [e1]
    clear e1
    have HD := Lib.hid hd
    have HX := Lib.hid hx
    have HL := Lib.hid r_Last
    clear hd hx
    go_enter Tryz.func105, Tryz.ntmps105
    go_wp2
    go_loopw [5] (fun i wr => ∃ k : Nat, k ≤ n ∧ i = .int .i64 k ∧ Hid (inTo lo hi xs k = true ∧ Below w.heap.size w wr)) (fun i _ => n - (intOf i).toNat)
    case atStart => exact ⟨0, Nat.zero_le _, rfl, rfl, Below.refl _ _⟩
    case round =>
      obtain ⟨k, hk, rfl, HK⟩ := hrel
      by_cases hlt : k < n
      · obtain ⟨bd, o, rfl, hbd, hc⟩ := (HD.out.below HK.out.2) (by omega)
        obtain ⟨c0, c1, c2⟩ := hc k hlt
        clear hc
        obtain ⟨bx, ox, rfl, hbx, hcx⟩ := (HX.out.below HK.out.2) (by omega)
        have x0 := hcx k hlt
        clear hcx
        have HS : Hid (inTo lo hi xs (k + 1) = (decide (lo k ≤ xs k) && decide (xs k ≤ lastZ (hi k)))) := by show _ = _; rw [inTo, HK.out.1]; rfl
        have HF : Hid ((decide (lo k ≤ xs k) && decide (xs k ≤ lastZ (hi k))) = false → inTo lo hi xs n = false) := fun h => inTo_le (k := k + 1) (by rw [HS.out, h]) (by omega)
        have HB := Lib.hid HK.out.2
        have HCC : Hid (∀ W, Below wr.heap.size wr W → W.cell? ⟨bx, ox + k, none⟩ = some (.int .i64 (xs k)) ∧ W.cell? ⟨bd, o + k * 3, none⟩ = some (.string (nm k)) ∧ W.cell? ⟨bd, o + k * 3 + 1, none⟩ = some (.int .i64 (lo k)) ∧ W.cell? ⟨bd, o + k * 3 + 2, none⟩ = some (.int .i64 (hi k))) := fun W hW =>
          ⟨(hW.cell (p := ⟨bx, ox + k, none⟩) hbx).trans x0, (hW.cell (p := ⟨bd, o + k * 3, none⟩) hbd).trans c0, (hW.cell (p := ⟨bd, o + k * 3 + 1, none⟩) hbd).trans c1, (hW.cell (p := ⟨bd, o + k * 3 + 2, none⟩) hbd).trans c2⟩
        have HLk := Lib.hid (fun W => HL.out (nm k) (lo k) (hi k) W)
        generalize nm k = s at *
        generalize lo k = l0 at *
        generalize hi k = h0 at *
        generalize xs k = z at *
        generalize lastZ h0 = L at *
        by_cases g1 : z < l0
        · have HR : Hid (inTo lo hi xs n = false) := HF.out (by rw [decide_eq_false (by omega)]; rfl)
          go_wp2
          go_quiet (fail)
          go_wp2
          go_ret
          exact ⟨by rw [HR.out]; rfl, drewB HB.out _⟩
        · have r1 : decide (z < l0) = ltC z l0 := rfl
          have a1 : ltC z l0 = false := decide_eq_false g1
          have r2 : decide (L < z) = ltC L z := rfl
          have B0d : Below wr.heap.size wr wr.drew := Below.drew (Below.refl _ _)
          by_cases g2 : L < z
          · have HR : Hid (inTo lo hi xs n = false) := HF.out (by rw [decide_eq_false (by omega : ¬ z ≤ L), Bool.and_false])
            have a2 : ltC L z = true := decide_eq_true g2
            go_wp2_with fail
            go_region_held3 (fun W => W.cell? ⟨bx, ox + k, none⟩ = some (.int .i64 z) ∧ W.cell? ⟨bd, o + k * 3, none⟩ = some (.string s) ∧ W.cell? ⟨bd, o + k * 3 + 1, none⟩ = some (.int .i64 l0) ∧ W.cell? ⟨bd, o + k * 3 + 2, none⟩ = some (.int .i64 h0))
              (first | exact HCC.out _ B1 | exact HCC.out _ B0d | exact HCC.out _ (Below.refl _ _))
              (first
                | (go_at_call 111; refine (HLk.out _).mono ?_; rintro e w1 ⟨rfl, hb1⟩; have B1 : Below wr.heap.size wr w1 := st B0d hb1))
            all_goals
              have HB1 : Hid (Below w.heap.size w w1) := st HB.out B1
              go_wp2
              go_ret
              exact ⟨by rw [HR.out]; rfl, HB1.out⟩
          · have HR : Hid (inTo lo hi xs (k + 1) = true) := by show _ = _; rw [HS.out, decide_eq_true (by omega : l0 ≤ z), decide_eq_true (by omega : z ≤ L)]; rfl
            have a2 : ltC L z = false := decide_eq_false g2
            go_wp2_with fail
            go_region_held3 (fun W => W.cell? ⟨bx, ox + k, none⟩ = some (.int .i64 z) ∧ W.cell? ⟨bd, o + k * 3, none⟩ = some (.string s) ∧ W.cell? ⟨bd, o + k * 3 + 1, none⟩ = some (.int .i64 l0) ∧ W.cell? ⟨bd, o + k * 3 + 2, none⟩ = some (.int .i64 h0))
              (first | exact HCC.out _ B1 | exact HCC.out _ B0d | exact HCC.out _ (Below.refl _ _))
              (first
                | (go_at_call 111; refine (HLk.out _).mono ?_; rintro e w1 ⟨rfl, hb1⟩; have B1 : Below wr.heap.size wr w1 := st B0d hb1))
            all_goals
              have HB1 : Hid (Below w.heap.size w w1) := st HB.out B1
              go_wp2
              go_roundw
              case rel => exact ⟨k + 1, by omega, by go_num, HR.out, HB1.out⟩
              case measure => simp [intOf]; omega
      · obtain rfl : k = n := by omega
        go_wp2
        go_ret
        exact ⟨by rw [HK.out.1]; rfl, HK.out.2⟩
  · have e1 : ofB lo hi xs n m = false := by rw [ofB, beq_false_of_ne hnm, Bool.false_and]
    have h1 : ((m : Int) != (n : Int)) = true := by rw [bne_iff_ne]; omega
    rw [e1]
    clear e1 hnm
    go_enter Tryz.func105, Tryz.ntmps105
    go_wp2
    go_ret
    exact ⟨rfl, Below.refl _ _⟩
end Go.Proofs.YtoippldgoehpcaaGreatDoor
end

/- From the row's condition to the walk: a list of attributes. -/
import Derived.Test.YthmnmologmmeaaaGreatDoorZWka
import Derived.Test.YthmnmologmmeaaaGreatDoorZSch
import Derived.Test.YthmnmologmmeaaaGreatDoorZOpB
import Derived.Test.YthmnmologmmeaaaGreatDoorZPrt2
import Derived.Test.YthmnmologmmeaaaGreatDoorZSpE

/- From the row's condition to the walk: a list of attributes. -/
section
namespace Go.Proofs.YthmnmologmmeaaaGreatDoor
open Go Go.ChangeShapes Go.WideShapes Go.ChangeAt Go.RowKit

theorem attr_fields : ∃ f0 f1 : Field, Tryz.prog.underlying 45 = some (.struct #[f0, f1]) ∧ f0.type = 9 ∧ f0.offset = 0 ∧ f1.type = 3 ∧ f1.offset = 1 :=
  ⟨_, _, Tryz.underlying45, rfl, rfl, rfl, rfl⟩
section
variable {H : Type} {enc : TypeId × Value → H} {w : World} {base : Nat} {spare : Nat → Bool} {held : Bool}
theorem open_attr {fuel : Nat} {c0 c1 : Value} {x : DataW H × List MemPlace} (h : DataW.trod enc Tryz.prog w base spare held fuel 45 [c0, c1] = some x) :
    ∃ (s : ByteArray) (l : Int), c0 = .string s ∧ c1 = .int .i64 l ∧ s.size ≤ 9223372036854775807 ∧ IntKind.i64.wrap l = l := by
  obtain ⟨f0, f1, hu, t0, o0, t1, o1⟩ := attr_fields
  obtain ⟨xs, n, _, _, _, hlen, hf⟩ := DataW.trod_struct hu h
  have l0 : 0 < xs.length := by rw [hlen]; simp
  have l1 : 1 < xs.length := by rw [hlen]; simp
  have q0 := hf 0 f0 rfl
  have q1 := hf 1 f1 rfl
  have ci : Tryz.prog.cellsOf 3 = 1 := by kernel_rfl
  have cs : Tryz.prog.cellsOf 9 = 1 := by kernel_rfl
  rw [t0, o0, cs, List.getElem?_eq_getElem l0] at q0
  rw [t1, o1, ci, List.getElem?_eq_getElem l1] at q1
  obtain ⟨z0, e0, _, l9⟩ := DataW.trod_string Tryz.underlying9 q0
  obtain ⟨z1, e1, _, w1⟩ := DataW.trod_int Tryz.underlying3 q1
  exact ⟨z0, z1, by simpa using e0, by simpa using e1, l9, wf_w w1⟩

/-- The cells of a list of attributes. -/
theorem open_attrs {fuel : Nat} {A : Option Addr} {n cap : Nat} {x : DataW H × List MemPlace} (h : DataW.trod enc Tryz.prog w base spare held fuel 23 [.slice A n cap] = some x) :
    ∃ (nm : Nat → ByteArray) (ty : Nat → Int), AttrsAt w A n nm ty ∧ n ≤ 9223372036854775807 ∧ ∀ k, k < n → (nm k).size ≤ 9223372036854775807 ∧ IntKind.i64.wrap (ty k) = ty k := by
  have c3 : Tryz.prog.cellsOf 45 = 2 := by kernel_rfl
  rcases DataW.trod_slice Tryz.underlying23 h with ⟨h0, _⟩ | ⟨a, len, cap', elems, rest, m, _, hcs, _, hb, hl, hm, hlen, hel, hsp, hns⟩
  · obtain ⟨rfl, rfl, rfl⟩ : A = none ∧ n = 0 ∧ cap = 0 := by simpa using h0
    exact ⟨fun _ => ⟨#[]⟩, fun _ => 0, fun h9 => absurd h9 (by omega), by omega, fun _ h9 => absurd h9 (by omega)⟩
  · obtain ⟨rfl, rfl, rfl⟩ : A = some a ∧ n = len ∧ cap = cap' := by simpa using hcs
    have each : ∀ k, k < n → ∃ y : ByteArray × Int, w.cell? (a.add (k * 2)) = some (.string y.1) ∧ w.cell? ((a.add (k * 2)).add 1) = some (.int .i64 y.2) ∧ y.1.size ≤ 9223372036854775807 ∧ IntKind.i64.wrap y.2 = y.2 := by
      intro k hk
      have h1 := hel k hk
      have hk' : k < elems.length := by omega
      rw [c3, List.getElem?_eq_getElem hk', Option.bind_eq_some_iff] at h1
      obtain ⟨cs', hcs', hy⟩ := h1
      obtain ⟨_, hl2, hcell⟩ := World.cells?_some hcs'
      match cs', hl2 with
      | [c0, c1], _ =>
        obtain ⟨z0, z1, rfl, rfl, l9, w1⟩ := open_attr hy
        exact ⟨(z0, z1), by simpa [Addr.add] using hcell 0 (by omega), by simpa using hcell 1 (by omega), l9, w1⟩
    have pick : ∃ f : Nat → ByteArray × Int, ∀ k, k < n → w.cell? (a.add (k * 2)) = some (.string (f k).1) ∧ w.cell? ((a.add (k * 2)).add 1) = some (.int .i64 (f k).2) ∧ (f k).1.size ≤ 9223372036854775807 ∧ IntKind.i64.wrap (f k).2 = (f k).2 :=
      ⟨fun k => if hk : k < n then (each k hk).choose else (⟨#[]⟩, 0), fun k hk => by
        simp only [dif_pos hk]
        exact (each k hk).choose_spec⟩
    obtain ⟨f, hf⟩ := pick
    refine ⟨fun k => (f k).1, fun k => (f k).2, fun hn => ?_, ?_, fun k hk => (hf k hk).2.2⟩
    · obtain ⟨b, off, spot⟩ := a
      have hspot : spot = none := by simpa [Addr.add] using World.cell?_spot (hf 0 hn).1
      subst hspot
      refine ⟨b, off, rfl, ?_, fun k hk => ?_⟩
      · exact cell_lt (b := b) (o := off + 0 * 2) (by have := (hf 0 hn).1; rw [Go.WideShapes.add_plain] at this; exact this)
      · obtain ⟨q1, q2, _⟩ := hf k hk
        rw [Go.WideShapes.add_plain] at q1 q2
        rw [Go.WideShapes.add_plain] at q2
        exact ⟨q1, q2⟩
    · exact Nat.le_trans hl (Nat.le_trans hm (by decide))
set_option maxRecDepth 100000 in
theorem open_strA {r : Reach} {b0 : Nat} {v : Value} {dt : DataW H} {ps : List MemPlace} (hval : Value.okWide Tryz.prog w r b0 9 v) (hd : DataW.Trod enc Tryz.prog w base spare held 9 v dt ps) :
    ∃ s : ByteArray, v = .string s ∧ s.size ≤ 9223372036854775807 := by
  obtain ⟨s, rfl⟩ := okWide_string Tryz.underlying9 hval
  obtain ⟨fuel, hf⟩ := hd
  obtain ⟨s', e, _, hz⟩ := DataW.trod_string Tryz.underlying9 hf
  have e2 : s = s' := by simpa [Value.cells] using e
  exact ⟨s, rfl, by rw [e2]; exact hz⟩
end
end Go.Proofs.YthmnmologmmeaaaGreatDoor
end

/- From the row's condition to the walk: cells, and arrays. -/
section
namespace Go.Proofs.YthmnmologmmeaaaGreatDoor
open Go Go.ChangeShapes Go.WideShapes Go.ChangeAt Go.RowKit

/-- The cells of a slice, whatever their sizes. -/
def CelsAt (w : World) (A : Option Addr) (N : Nat) (ln vl : Nat → Nat) (x vk vn vd : Nat → Nat → Int) (vs : Nat → Nat → ByteArray) : Prop :=
  0 < N → ∃ b o, A = some ⟨b, o, none⟩ ∧ b < w.heap.size ∧ ∀ k, k < N → ∃ P c Q d, w.cell? ⟨b, o + k * 2, none⟩ = some (.slice P (ln k) c) ∧ w.cell? ⟨b, o + k * 2 + 1, none⟩ = some (.slice Q (vl k) d) ∧ IntsAt w P (ln k) (x k) ∧ ValsAt w Q (vl k) (vk k) (vn k) (vd k) (vs k)
theorem CelsAt.below {w w' : World} {A : Option Addr} {N : Nat} {ln vl : Nat → Nat} {x vk vn vd : Nat → Nat → Int} {vs : Nat → Nat → ByteArray} (h : CelsAt w A N ln vl x vk vn vd vs) (hb : Below w.heap.size w w') : CelsAt w' A N ln vl x vk vn vd vs := fun hn => by
  obtain ⟨b, o, h1, h2, h3⟩ := h hn
  refine ⟨b, o, h1, Nat.lt_of_lt_of_le h2 hb.size, fun k hk => ?_⟩
  obtain ⟨P, c, Q, d, a1, a2, a3, a4⟩ := h3 k hk
  exact ⟨P, c, Q, d, (hb.cell (p := ⟨b, o + k * 2, none⟩) h2).trans a1, (hb.cell (p := ⟨b, o + k * 2 + 1, none⟩) h2).trans a2, a3.below hb, a4.below hb⟩
theorem CelsAt.few {w : World} {A : Option Addr} {N : Nat} {ln vl : Nat → Nat} {x vk vn vd : Nat → Nat → Int} {vs : Nat → Nat → ByteArray} (h : CelsAt w A N ln vl x vk vn vd vs) (hl : ∀ k, k < N → ln k ≤ 1000) : CellsAt w A N ln vl x vk vn vd vs := fun hn => by
  obtain ⟨b, o, h1, h2, h3⟩ := h hn
  refine ⟨b, o, h1, h2, fun k hk => ?_⟩
  obtain ⟨P, c, Q, d, a1, a2, a3, a4⟩ := h3 k hk
  exact ⟨P, c, Q, d, a1, a2, a3, a4, hl k hk⟩
theorem CellsAt.cels {w : World} {A : Option Addr} {N : Nat} {ln vl : Nat → Nat} {x vk vn vd : Nat → Nat → Int} {vs : Nat → Nat → ByteArray} (h : CellsAt w A N ln vl x vk vn vd vs) : CelsAt w A N ln vl x vk vn vd vs := fun hn => by
  obtain ⟨b, o, h1, h2, h3⟩ := h hn
  refine ⟨b, o, h1, h2, fun k hk => ?_⟩
  obtain ⟨P, c, Q, d, a1, a2, a3, a4, _⟩ := h3 k hk
  exact ⟨P, c, Q, d, a1, a2, a3, a4⟩

theorem valF : ∃ f0 f1 f2 f3 : Field, Tryz.prog.underlying 40 = some (.struct #[f0, f1, f2, f3]) ∧ f0.type = 3 ∧ f0.offset = 0 ∧ f1.type = 2 ∧ f1.offset = 1 ∧ f2.type = 2 ∧ f2.offset = 2 ∧ f3.type = 9 ∧ f3.offset = 3 :=
  ⟨_, _, _, _, Tryz.underlying40, rfl, rfl, rfl, rfl, rfl, rfl, rfl, rfl⟩
theorem cellF : ∃ f0 f1 : Field, Tryz.prog.underlying 38 = some (.struct #[f0, f1]) ∧ f0.type = 35 ∧ f0.offset = 0 ∧ f1.type = 36 ∧ f1.offset = 1 :=
  ⟨_, _, Tryz.underlying38, rfl, rfl, rfl, rfl⟩
theorem arrF : ∃ f0 f1 f2 : Field, Tryz.prog.underlying 29 = some (.struct #[f0, f1, f2]) ∧ f0.type = 22 ∧ f0.offset = 0 ∧ f1.type = 23 ∧ f1.offset = 1 ∧ f2.type = 24 ∧ f2.offset = 2 :=
  ⟨_, _, _, Tryz.underlying29, rfl, rfl, rfl, rfl, rfl, rfl⟩
section
variable {H : Type} {enc : TypeId × Value → H} {w : World} {base : Nat} {spare : Nat → Bool} {held : Bool}
theorem open_valF {fuel : Nat} {c0 c1 c2 c3 : Value} {x : DataW H × List MemPlace} (h : DataW.trod enc Tryz.prog w base spare held fuel 40 [c0, c1, c2, c3] = some x) :
    ∃ (k n d : Int) (s : ByteArray), c0 = .int .i64 k ∧ c1 = .int .i64 n ∧ c2 = .int .i64 d ∧ c3 = .string s ∧ s.size ≤ 9223372036854775807 := by
  obtain ⟨f0, f1, f2, f3, hu, t0, o0, t1, o1, t2, o2, t3, o3⟩ := valF
  obtain ⟨xs, n, _, _, _, hlen, hf⟩ := DataW.trod_struct hu h
  have l0 : 0 < xs.length := by rw [hlen]; simp
  have l1 : 1 < xs.length := by rw [hlen]; simp
  have l2 : 2 < xs.length := by rw [hlen]; simp
  have l3 : 3 < xs.length := by rw [hlen]; simp
  have q0 := hf 0 f0 rfl
  have q1 := hf 1 f1 rfl
  have q2 := hf 2 f2 rfl
  have q3 := hf 3 f3 rfl
  have ci : Tryz.prog.cellsOf 3 = 1 := by kernel_rfl
  have c6 : Tryz.prog.cellsOf 2 = 1 := by kernel_rfl
  have cs : Tryz.prog.cellsOf 9 = 1 := by kernel_rfl
  rw [t0, o0, ci, List.getElem?_eq_getElem l0] at q0
  rw [t1, o1, c6, List.getElem?_eq_getElem l1] at q1
  rw [t2, o2, c6, List.getElem?_eq_getElem l2] at q2
  rw [t3, o3, cs, List.getElem?_eq_getElem l3] at q3
  obtain ⟨z0, e0, _, _⟩ := DataW.trod_int Tryz.underlying3 q0
  obtain ⟨z1, e1, _, _⟩ := DataW.trod_int Tryz.underlying2 q1
  obtain ⟨z2, e2, _, _⟩ := DataW.trod_int Tryz.underlying2 q2
  obtain ⟨z3, e3, _, l9⟩ := DataW.trod_string Tryz.underlying9 q3
  exact ⟨z0, z1, z2, z3, by simpa using e0, by simpa using e1, by simpa using e2, by simpa using e3, l9⟩
/-- What is known of a list of values. -/
def ValsF (w : World) (A : Option Addr) (n : Nat) (vk vn vd : Nat → Int) (vs : Nat → ByteArray) : Prop := ValsAt w A n vk vn vd vs ∧ n ≤ 9223372036854775807 ∧ ∀ k, k < n → (vs k).size ≤ 9223372036854775807
theorem open_valsF {fuel : Nat} {A : Option Addr} {n cap : Nat} {x : DataW H × List MemPlace} (h : DataW.trod enc Tryz.prog w base spare held fuel 36 [.slice A n cap] = some x) :
    ∃ (vk vn vd : Nat → Int) (vs : Nat → ByteArray), ValsF w A n vk vn vd vs := by
  have c4 : Tryz.prog.cellsOf 40 = 4 := by kernel_rfl
  rcases DataW.trod_slice Tryz.underlying36 h with ⟨h0, _⟩ | ⟨a, len, cap', elems, rest, m, _, hcs, _, hb, hl, hm, hlen, hel, hsp, hns⟩
  · obtain ⟨rfl, rfl, rfl⟩ : A = none ∧ n = 0 ∧ cap = 0 := by simpa using h0
    exact ⟨fun _ => 0, fun _ => 0, fun _ => 0, fun _ => ⟨#[]⟩, fun h9 => absurd h9 (by omega), by omega, fun _ h9 => absurd h9 (by omega)⟩
  · obtain ⟨rfl, rfl, rfl⟩ : A = some a ∧ n = len ∧ cap = cap' := by simpa using hcs
    have each : ∀ k, k < n → ∃ y : Int × Int × Int × ByteArray, w.cell? (a.add (k * 4)) = some (.int .i64 y.1) ∧ w.cell? ((a.add (k * 4)).add 1) = some (.int .i64 y.2.1) ∧ w.cell? ((a.add (k * 4)).add 2) = some (.int .i64 y.2.2.1) ∧ w.cell? ((a.add (k * 4)).add 3) = some (.string y.2.2.2) ∧ y.2.2.2.size ≤ 9223372036854775807 := by
      intro k hk
      have h1 := hel k hk
      have hk' : k < elems.length := by omega
      rw [c4, List.getElem?_eq_getElem hk', Option.bind_eq_some_iff] at h1
      obtain ⟨cs', hcs', hy⟩ := h1
      obtain ⟨_, hl2, hcell⟩ := World.cells?_some hcs'
      match cs', hl2 with
      | [c0, c1, c2, c3], _ =>
        obtain ⟨z0, z1, z2, z3, rfl, rfl, rfl, rfl, l9⟩ := open_valF hy
        exact ⟨(z0, z1, z2, z3), by simpa [Addr.add] using hcell 0 (by omega), by simpa using hcell 1 (by omega), by simpa using hcell 2 (by omega), by simpa using hcell 3 (by omega), l9⟩
    have pick : ∃ f : Nat → Int × Int × Int × ByteArray, ∀ k, k < n → w.cell? (a.add (k * 4)) = some (.int .i64 (f k).1) ∧ w.cell? ((a.add (k * 4)).add 1) = some (.int .i64 (f k).2.1) ∧ w.cell? ((a.add (k * 4)).add 2) = some (.int .i64 (f k).2.2.1) ∧ w.cell? ((a.add (k * 4)).add 3) = some (.string (f k).2.2.2) ∧ (f k).2.2.2.size ≤ 9223372036854775807 :=
      ⟨fun k => if hk : k < n then (each k hk).choose else (0, 0, 0, ⟨#[]⟩), fun k hk => by
        simp only [dif_pos hk]
        exact (each k hk).choose_spec⟩
    obtain ⟨f, hf⟩ := pick
    refine ⟨fun k => (f k).1, fun k => (f k).2.1, fun k => (f k).2.2.1, fun k => (f k).2.2.2, fun hn => ?_, Nat.le_trans hl (Nat.le_trans hm (by decide)), fun k hk => (hf k hk).2.2.2.2⟩
    obtain ⟨b, off, spot⟩ := a
    have hspot : spot = none := by simpa [Addr.add] using World.cell?_spot (hf 0 hn).1
    subst hspot
    refine ⟨b, off, rfl, ?_, fun k hk => ?_⟩
    · exact cell_lt (b := b) (o := off + 0 * 4) (by have := (hf 0 hn).1; rw [Go.WideShapes.add_plain] at this; exact this)
    · obtain ⟨q1, q2, q3, q4, _⟩ := hf k hk
      rw [Go.WideShapes.add_plain] at q1 q2 q3 q4
      rw [Go.WideShapes.add_plain] at q2 q3 q4
      exact ⟨q1, q2, q3, q4⟩
theorem open_vals1 {fuel : Nat} {c0 : Value} {x : DataW H × List MemPlace} (h : DataW.trod enc Tryz.prog w base spare held fuel 36 [c0] = some x) :
    ∃ (A : Option Addr) (n cap : Nat) (vk vn vd : Nat → Int) (vs : Nat → ByteArray), c0 = .slice A n cap ∧ ValsF w A n vk vn vd vs := by
  have h' := h
  rcases DataW.trod_slice Tryz.underlying36 h with ⟨h0, _⟩ | ⟨a, len, cap', elems, rest, m, _, hcs, _⟩
  · obtain rfl : c0 = .slice none 0 0 := by simpa using h0
    obtain ⟨vk, vn, vd, vs, h1⟩ := open_valsF h'
    exact ⟨_, _, _, vk, vn, vd, vs, rfl, h1⟩
  · obtain rfl : c0 = .slice (some a) len cap' := by simpa using hcs
    obtain ⟨vk, vn, vd, vs, h1⟩ := open_valsF h'
    exact ⟨_, _, _, vk, vn, vd, vs, rfl, h1⟩
/-- A cell's parts. -/
structure CelD where
  P : Option Addr
  ln : Nat
  c : Nat
  Q : Option Addr
  vl : Nat
  d : Nat
  x : Nat → Int
  vk : Nat → Int
  vn : Nat → Int
  vd : Nat → Int
  vs : Nat → ByteArray
theorem open_cell {fuel : Nat} {c0 c1 : Value} {y : DataW H × List MemPlace} (h : DataW.trod enc Tryz.prog w base spare held fuel 38 [c0, c1] = some y) :
    ∃ D : CelD, c0 = .slice D.P D.ln D.c ∧ c1 = .slice D.Q D.vl D.d ∧ IntsAt w D.P D.ln D.x ∧ ValsF w D.Q D.vl D.vk D.vn D.vd D.vs ∧ D.ln ≤ 9223372036854775807 := by
  obtain ⟨f0, f1, hu, t0, o0, t1, o1⟩ := cellF
  obtain ⟨xs, n, _, _, _, hlen, hf⟩ := DataW.trod_struct hu h
  have l0 : 0 < xs.length := by rw [hlen]; simp
  have l1 : 1 < xs.length := by rw [hlen]; simp
  have q0 := hf 0 f0 rfl
  have q1 := hf 1 f1 rfl
  have ci : Tryz.prog.cellsOf 35 = 1 := by kernel_rfl
  have cv : Tryz.prog.cellsOf 36 = 1 := by kernel_rfl
  rw [t0, o0, ci, List.getElem?_eq_getElem l0] at q0
  rw [t1, o1, cv, List.getElem?_eq_getElem l1] at q1
  have q0' : DataW.trod enc Tryz.prog w base spare held n 35 [c0] = some xs[0] := by simpa using q0
  have q1' : DataW.trod enc Tryz.prog w base spare held n 36 [c1] = some xs[1] := by simpa using q1
  obtain ⟨A, n0, k0, x0, rfl, i0, j0⟩ := open_ints1 q0'
  obtain ⟨B, n1, k1, vk, vn, vd, vs, rfl, i1⟩ := open_vals1 q1'
  exact ⟨⟨A, n0, k0, B, n1, k1, x0, vk, vn, vd, vs⟩, rfl, rfl, i0, i1, j0⟩
/-- What is known of a list of cells. -/
def CelsF (w : World) (A : Option Addr) (N : Nat) (ln vl : Nat → Nat) (x vk vn vd : Nat → Nat → Int) (vs : Nat → Nat → ByteArray) : Prop :=
  CelsAt w A N ln vl x vk vn vd vs ∧ N ≤ 9223372036854775807 ∧ ∀ k, k < N → ln k ≤ 9223372036854775807 ∧ vl k ≤ 9223372036854775807 ∧ ∀ j, j < vl k → (vs k j).size ≤ 9223372036854775807
theorem open_cells {fuel : Nat} {A : Option Addr} {n cap : Nat} {x : DataW H × List MemPlace} (h : DataW.trod enc Tryz.prog w base spare held fuel 24 [.slice A n cap] = some x) :
    ∃ (ln vl : Nat → Nat) (x vk vn vd : Nat → Nat → Int) (vs : Nat → Nat → ByteArray), CelsF w A n ln vl x vk vn vd vs := by
  have c2 : Tryz.prog.cellsOf 38 = 2 := by kernel_rfl
  rcases DataW.trod_slice Tryz.underlying24 h with ⟨h0, _⟩ | ⟨a, len, cap', elems, rest, m, _, hcs, _, hb, hl, hm, hlen, hel, hsp, hns⟩
  · obtain ⟨rfl, rfl, rfl⟩ : A = none ∧ n = 0 ∧ cap = 0 := by simpa using h0
    exact ⟨fun _ => 0, fun _ => 0, fun _ _ => 0, fun _ _ => 0, fun _ _ => 0, fun _ _ => 0, fun _ _ => ⟨#[]⟩, fun h9 => absurd h9 (by omega), by omega, fun _ h9 => absurd h9 (by omega)⟩
  · obtain ⟨rfl, rfl, rfl⟩ : A = some a ∧ n = len ∧ cap = cap' := by simpa using hcs
    have each : ∀ k, k < n → ∃ D : CelD, w.cell? (a.add (k * 2)) = some (.slice D.P D.ln D.c) ∧ w.cell? ((a.add (k * 2)).add 1) = some (.slice D.Q D.vl D.d) ∧ IntsAt w D.P D.ln D.x ∧ ValsF w D.Q D.vl D.vk D.vn D.vd D.vs ∧ D.ln ≤ 9223372036854775807 := by
      intro k hk
      have h1 := hel k hk
      have hk' : k < elems.length := by omega
      rw [c2, List.getElem?_eq_getElem hk', Option.bind_eq_some_iff] at h1
      obtain ⟨cs', hcs', hy⟩ := h1
      obtain ⟨_, hl2, hcell⟩ := World.cells?_some hcs'
      match cs', hl2 with
      | [c0, c1], _ =>
        obtain ⟨D, rfl, rfl, i0, i1, i2⟩ := open_cell hy
        exact ⟨D, by simpa [Addr.add] using hcell 0 (by omega), by simpa using hcell 1 (by omega), i0, i1, i2⟩
    have pick : ∃ f : Nat → CelD, ∀ k, k < n → w.cell? (a.add (k * 2)) = some (.slice (f k).P (f k).ln (f k).c) ∧ w.cell? ((a.add (k * 2)).add 1) = some (.slice (f k).Q (f k).vl (f k).d) ∧ IntsAt w (f k).P (f k).ln (f k).x ∧ ValsF w (f k).Q (f k).vl (f k).vk (f k).vn (f k).vd (f k).vs ∧ (f k).ln ≤ 9223372036854775807 :=
      ⟨fun k => if hk : k < n then (each k hk).choose else ⟨none, 0, 0, none, 0, 0, fun _ => 0, fun _ => 0, fun _ => 0, fun _ => 0, fun _ => ⟨#[]⟩⟩, fun k hk => by
        simp only [dif_pos hk]
        exact (each k hk).choose_spec⟩
    obtain ⟨f, hf⟩ := pick
    refine ⟨fun k => (f k).ln, fun k => (f k).vl, fun k => (f k).x, fun k => (f k).vk, fun k => (f k).vn, fun k => (f k).vd, fun k => (f k).vs, fun hn => ?_, Nat.le_trans hl (Nat.le_trans hm (by decide)), fun k hk => ⟨(hf k hk).2.2.2.2, (hf k hk).2.2.2.1.2.1, (hf k hk).2.2.2.1.2.2⟩⟩
    obtain ⟨b, off, spot⟩ := a
    have hspot : spot = none := by simpa [Addr.add] using World.cell?_spot (hf 0 hn).1
    subst hspot
    refine ⟨b, off, rfl, ?_, fun k hk => ?_⟩
    · exact cell_lt (b := b) (o := off + 0 * 2) (by have := (hf 0 hn).1; rw [Go.WideShapes.add_plain] at this; exact this)
    · obtain ⟨q1, q2, q3, q4, _⟩ := hf k hk
      rw [Go.WideShapes.add_plain] at q1 q2
      rw [Go.WideShapes.add_plain] at q2
      exact ⟨_, _, _, _, q1, q2, q3, q4.1⟩
theorem open_slice1 {fuel : Nat} {t e : TypeId} {c0 : Value} {x : DataW H × List MemPlace} (hu : Tryz.prog.underlying t = some (.slice e)) (h : DataW.trod enc Tryz.prog w base spare held fuel t [c0] = some x) : ∃ (A : Option Addr) (n cap : Nat), c0 = .slice A n cap := by
  rcases DataW.trod_slice hu h with ⟨h0, _⟩ | ⟨a, len, cap', elems, rest, m, _, hcs, _⟩
  · exact ⟨_, _, _, by simpa using h0⟩
  · exact ⟨_, _, _, by simpa using hcs⟩
/-- What is known of an array. -/
structure ArrF (w : World) (A : Option Addr) (n : Nat) (B : Option Addr) (m : Nat) (C : Option Addr) (N : Nat) (nm : Nat → ByteArray) (lo hi : Nat → Int) (an : Nat → ByteArray) (ty : Nat → Int) (ln vl : Nat → Nat) (x vk vn vd : Nat → Nat → Int) (vs : Nat → Nat → ByteArray) : Prop where
  dims : DimsAt w A n nm lo hi
  attrs : AttrsAt w B m an ty
  cells : CelsAt w C N ln vl x vk vn vd vs
  nmS : ∀ k, k < n → (nm k).size ≤ 9223372036854775807
  anS : ∀ k, k < m → (an k).size ≤ 9223372036854775807
  cS : ∀ k, k < N → ln k ≤ 9223372036854775807 ∧ vl k ≤ 9223372036854775807 ∧ ∀ j, j < vl k → (vs k j).size ≤ 9223372036854775807
  nL : n ≤ 9223372036854775807
  mL : m ≤ 9223372036854775807
  NL : N ≤ 9223372036854775807
theorem ArrF.below {w w' : World} {A : Option Addr} {n : Nat} {B : Option Addr} {m : Nat} {C : Option Addr} {N : Nat} {nm : Nat → ByteArray} {lo hi : Nat → Int} {an : Nat → ByteArray} {ty : Nat → Int} {ln vl : Nat → Nat} {x vk vn vd : Nat → Nat → Int} {vs : Nat → Nat → ByteArray}
    (h : ArrF w A n B m C N nm lo hi an ty ln vl x vk vn vd vs) (hb : Below w.heap.size w w') : ArrF w' A n B m C N nm lo hi an ty ln vl x vk vn vd vs :=
  ⟨h.dims.below hb, h.attrs.below hb, h.cells.below hb, h.nmS, h.anS, h.cS, h.nL, h.mL, h.NL⟩
theorem open_arr {fuel : Nat} {c0 c1 c2 : Value} {y : DataW H × List MemPlace} (h : DataW.trod enc Tryz.prog w base spare held fuel 29 [c0, c1, c2] = some y) :
    ∃ (A : Option Addr) (n cap : Nat) (B : Option Addr) (m bcap : Nat) (C : Option Addr) (N ccap : Nat) (nm : Nat → ByteArray) (lo hi : Nat → Int) (an : Nat → ByteArray) (ty : Nat → Int) (ln vl : Nat → Nat) (x vk vn vd : Nat → Nat → Int) (vs : Nat → Nat → ByteArray), c0 = .slice A n cap ∧ c1 = .slice B m bcap ∧ c2 = .slice C N ccap ∧ ArrF w A n B m C N nm lo hi an ty ln vl x vk vn vd vs := by
  obtain ⟨f0, f1, f2, hu, t0, o0, t1, o1, t2, o2⟩ := arrF
  obtain ⟨xs, n9, _, _, _, hlen, hf⟩ := DataW.trod_struct hu h
  have l0 : 0 < xs.length := by rw [hlen]; simp
  have l1 : 1 < xs.length := by rw [hlen]; simp
  have l2 : 2 < xs.length := by rw [hlen]; simp
  have q0 := hf 0 f0 rfl
  have q1 := hf 1 f1 rfl
  have q2 := hf 2 f2 rfl
  have ci : Tryz.prog.cellsOf 22 = 1 := by kernel_rfl
  have cv : Tryz.prog.cellsOf 23 = 1 := by kernel_rfl
  have cc : Tryz.prog.cellsOf 24 = 1 := by kernel_rfl
  rw [t0, o0, ci, List.getElem?_eq_getElem l0] at q0
  rw [t1, o1, cv, List.getElem?_eq_getElem l1] at q1
  rw [t2, o2, cc, List.getElem?_eq_getElem l2] at q2
  have q0' : DataW.trod enc Tryz.prog w base spare held n9 22 [c0] = some xs[0] := by simpa using q0
  have q1' : DataW.trod enc Tryz.prog w base spare held n9 23 [c1] = some xs[1] := by simpa using q1
  have q2' : DataW.trod enc Tryz.prog w base spare held n9 24 [c2] = some xs[2] := by simpa using q2
  obtain ⟨A, n, cap, rfl⟩ := open_slice1 Tryz.underlying22 q0'
  obtain ⟨B, m, bcap, rfl⟩ := open_slice1 Tryz.underlying23 q1'
  obtain ⟨C, N, ccap, rfl⟩ := open_slice1 Tryz.underlying24 q2'
  obtain ⟨nm, lo, hi, d1, d2, d3⟩ := open_dims q0'
  obtain ⟨an, ty, a1, a2, a3⟩ := open_attrs q1'
  obtain ⟨ln, vl, x, vk, vn, vd, vs, e1, e2, e3⟩ := open_cells q2'
  exact ⟨A, n, cap, B, m, bcap, C, N, ccap, nm, lo, hi, an, ty, ln, vl, x, vk, vn, vd, vs, rfl, rfl, rfl, d1, a1, e1, fun k hk => (d3 k hk).1, fun k hk => (a3 k hk).1, e3, d2, a2, e2⟩
set_option maxRecDepth 100000 in
theorem open_arrA {r : Reach} {b0 : Nat} {v : Value} {dt : DataW H} {ps : List MemPlace} (hval : Value.okWide Tryz.prog w r b0 29 v) (hd : DataW.Trod enc Tryz.prog w base spare held 29 v dt ps) :
    ∃ (A : Option Addr) (n cap : Nat) (B : Option Addr) (m bcap : Nat) (C : Option Addr) (N ccap : Nat) (nm : Nat → ByteArray) (lo hi : Nat → Int) (an : Nat → ByteArray) (ty : Nat → Int) (ln vl : Nat → Nat) (x vk vn vd : Nat → Nat → Int) (vs : Nat → Nat → ByteArray), v = ArrV A n cap B m bcap C N ccap ∧ ArrF w A n B m C N nm lo hi an ty ln vl x vk vn vd vs := by
  obtain ⟨f0, f1, f2, hu, _⟩ := arrF
  obtain ⟨cs, rfl, hsz⟩ := okWide_struct hu hval
  have c3 : Tryz.prog.cellsOf 29 = 3 := by kernel_rfl
  rw [c3] at hsz
  obtain ⟨fuel, hf⟩ := hd
  obtain ⟨l⟩ := cs
  match l, hsz with
  | [c0, c1, c2], _ =>
    have hf' : DataW.trod enc Tryz.prog w base spare held fuel 29 [c0, c1, c2] = some (dt, ps) := hf
    obtain ⟨A, n, cap, B, m, bcap, C, N, ccap, nm, lo, hi, an, ty, ln, vl, x, vk, vn, vd, vs, rfl, rfl, rfl, h9⟩ := open_arr hf'
    exact ⟨A, n, cap, B, m, bcap, C, N, ccap, nm, lo, hi, an, ty, ln, vl, x, vk, vn, vd, vs, rfl, h9⟩
end
end Go.Proofs.YthmnmologmmeaaaGreatDoor
end

/- What the laws examine: the sizes of schemas. -/
section
namespace Go.Proofs.YthmnmologmmeaaaGreatDoor
open Go Go.RowKit Go.Deep

set_option maxHeartbeats 1000000 in
theorem l_short (s : ByteArray) (hs : s.size ≤ 9223372036854775807) (w : World) : Calls Tryz.prog 36 #[.string s] w fun e w' => e = .returned (.bool (decide (s.size ≤ 40))) ∧ w' = w := by
  have e1 : decide (s.size ≤ 40) = decide ((s.size : Int) ≤ 40) := by
    by_cases h : s.size ≤ 40
    · rw [decide_eq_true h, decide_eq_true (by omega)]
    · rw [decide_eq_false h, decide_eq_false (by omega)]
  rw [e1]
  go_enter Tryz.func36, Tryz.ntmps36
  go_wp2
  go_ret
  exact ⟨rfl, rfl⟩

set_option maxRecDepth 100000 in
set_option maxHeartbeats 4000000 in
/-- schema of dimensions alone. -/
theorem l_schema (w : World) (A : Option Addr) (n cap : Nat) (nm : Nat → ByteArray) (lo hi : Nat → Int) (hd : DimsAt w A n nm lo hi) (hs : ∀ k, k < n → (nm k).size ≤ 9223372036854775807) (hn : n ≤ 9223372036854775807) :
    Calls Tryz.prog 7 #[.slice A n cap, .slice none 0 0] w fun e w' => ∃ b : Bool, e = .returned (.bool b) ∧ (b = true → n ≤ 10) ∧ Below w.heap.size w w' := by
  have HD := Lib.hid hd
  have HS := Lib.hid hs
  have HL := Lib.hid l_short
  clear hd hs
  go_enter Tryz.func7, Tryz.ntmps7
  by_cases h0 : (n : Int) > 10
  · go_wp2
    go_ret
    exact ⟨false, rfl, (fun h => by cases h), Below.refl _ _⟩
  · go_wp2
    go_loopw [5] (fun i wr => ∃ k : Nat, k ≤ n ∧ i = .int .i64 k ∧ Hid (Below w.heap.size w wr)) (fun i _ => n - (intOf i).toNat)
    case atStart => exact ⟨0, Nat.zero_le _, rfl, Below.refl _ _⟩
    case round =>
      obtain ⟨k, hk, rfl, HB⟩ := hrel
      by_cases hlt : k < n
      · obtain ⟨bd, o, rfl, _, hc⟩ := (HD.out.below HB.out) (by omega)
        obtain ⟨c0, c1, c2⟩ := hc k hlt
        clear hc
        have HSk := Lib.hid (HL.out (nm k) (HS.out k hlt))
        generalize nm k = s at *
        generalize lo k = l0 at *
        generalize hi k = h0 at *
        by_cases h5 : s.size ≤ 40
        · rw [decide_eq_true h5] at HSk
          clear h5
          go_wp2_with fail
          refine (HSk.out _).mono ?_
          rintro e w1 ⟨rfl, rfl⟩
          go_wp2
          go_roundw
          case rel => exact ⟨k + 1, by omega, by go_num, HB.out⟩
          case measure => simp [intOf]; omega
        · rw [decide_eq_false h5] at HSk
          clear h5
          go_wp2_with fail
          refine (HSk.out _).mono ?_
          rintro e w1 ⟨rfl, rfl⟩
          go_wp2
          go_ret
          exact ⟨false, rfl, (fun h => by cases h), HB.out⟩
      · obtain rfl : k = n := by omega
        go_wp2
        go_loopw [6] (fun i wr => i = .int .i64 0 ∧ Hid (Below w.heap.size w wr)) (fun _ _ => 0)
        case atStart => exact ⟨rfl, HB.out⟩
        case round =>
          obtain ⟨rfl, HB2⟩ := hrel
          go_wp2
          go_ret
          exact ⟨true, rfl, fun _ => by omega, HB2.out⟩
end Go.Proofs.YthmnmologmmeaaaGreatDoor
end

/- What the laws examine: the sizes of schemas with attributes. -/
section
namespace Go.Proofs.YthmnmologmmeaaaGreatDoor
open Go Go.RowKit Go.Deep

def SchB (n m : Nat) (b : Bool) : Prop := b = true → n ≤ 10 ∧ m ≤ 10
set_option maxRecDepth 100000 in
set_option maxHeartbeats 4000000 in
/-- schema of dimensions and attributes. -/
theorem l_schema3 (w : World) (A B : Option Addr) (n cap m c2 : Nat) (nm : Nat → ByteArray) (lo hi : Nat → Int) (an : Nat → ByteArray) (ty : Nat → Int) (hd : DimsAt w A n nm lo hi) (ha : AttrsAt w B m an ty) (hs : ∀ k, k < n → (nm k).size ≤ 9223372036854775807) (hs2 : ∀ k, k < m → (an k).size ≤ 9223372036854775807) :
    Calls Tryz.prog 7 #[.slice A n cap, .slice B m c2] w fun e w' => (e = .returned (.bool false) ∨ e = .returned (.bool true) ∧ n ≤ 10 ∧ m ≤ 10) ∧ Below w.heap.size w w' := by
  have HD := Lib.hid hd
  have HA := Lib.hid ha
  have HS := Lib.hid hs
  have HS2 := Lib.hid hs2
  have HL := Lib.hid l_short
  clear hd hs ha hs2
  go_enter Tryz.func7, Tryz.ntmps7
  by_cases h0 : (n : Int) > 10
  · go_wp2
    go_ret
    exact ⟨Or.inl rfl, Below.refl _ _⟩
  · by_cases h1 : (m : Int) > 10
    · go_wp2
      go_ret
      exact ⟨Or.inl rfl, Below.refl _ _⟩
    · go_wp2
      go_loopw [5] (fun i wr => ∃ k : Nat, k ≤ n ∧ i = .int .i64 k ∧ wr = w) (fun i _ => n - (intOf i).toNat)
      case atStart => exact ⟨0, Nat.zero_le _, rfl, rfl⟩
      case round =>
        obtain ⟨k, hk, rfl, hw⟩ := hrel
        have hw := hw.symm
        subst hw
        by_cases hlt : k < n
        · obtain ⟨bd, o, rfl, _, hc⟩ := HD.out (by omega)
          have c0 := (hc k hlt).1
          clear hc
          have HSk := Lib.hid (HL.out (nm k) (HS.out k hlt))
          generalize nm k = s at *
          by_cases h5 : s.size ≤ 40
          · rw [decide_eq_true h5] at HSk
            clear h5
            go_wp2_with fail
            refine (HSk.out _).mono ?_
            rintro e w1 ⟨rfl, rfl⟩
            go_wp2
            go_roundw
            case rel => exact ⟨k + 1, by omega, by go_num, by first | rfl | trivial⟩
            case measure => simp [intOf]; omega
          · rw [decide_eq_false h5] at HSk
            clear h5
            go_wp2_with fail
            refine (HSk.out _).mono ?_
            rintro e w1 ⟨rfl, rfl⟩
            go_wp2
            go_ret
            exact ⟨Or.inl rfl, Below.refl _ _⟩
        · obtain rfl : k = n := by omega
          go_wp2
          go_loopw [6] (fun i wr => ∃ k : Nat, k ≤ m ∧ i = .int .i64 k ∧ wr = w) (fun i _ => m - (intOf i).toNat)
          case atStart => exact ⟨0, Nat.zero_le _, rfl, rfl⟩
          case round =>
            obtain ⟨j, hj, rfl, hw⟩ := hrel
            have hw := hw.symm
            subst hw
            by_cases hlt2 : j < m
            · obtain ⟨bd, o, rfl, _, hc⟩ := HA.out (by omega)
              have c0 := (hc j hlt2).1
              clear hc
              have HSk := Lib.hid (HL.out (an j) (HS2.out j hlt2))
              generalize an j = s at *
              by_cases h5 : s.size ≤ 40
              · rw [decide_eq_true h5] at HSk
                clear h5
                go_wp2_with fail
                refine (HSk.out _).mono ?_
                rintro e w1 ⟨rfl, rfl⟩
                go_wp2
                go_roundw
                case rel => exact ⟨j + 1, by omega, by go_num, by first | rfl | trivial⟩
                case measure => simp [intOf]; omega
              · rw [decide_eq_false h5] at HSk
                clear h5
                go_wp2_with fail
                refine (HSk.out _).mono ?_
                rintro e w1 ⟨rfl, rfl⟩
                go_wp2
                go_ret
                exact ⟨Or.inl rfl, Below.refl _ _⟩
            · obtain rfl : j = m := by omega
              go_wp2
              go_ret
              exact ⟨Or.inr ⟨rfl, by omega, by omega⟩, Below.refl _ _⟩

theorem l_schema2 (w : World) (A B : Option Addr) (n cap m c2 : Nat) (nm : Nat → ByteArray) (lo hi : Nat → Int) (an : Nat → ByteArray) (ty : Nat → Int) (hd : DimsAt w A n nm lo hi) (ha : AttrsAt w B m an ty) (hs : ∀ k, k < n → (nm k).size ≤ 9223372036854775807) (hs2 : ∀ k, k < m → (an k).size ≤ 9223372036854775807) :
    Calls Tryz.prog 7 #[.slice A n cap, .slice B m c2] w fun e w' => ∃ b : Bool, e = .returned (.bool b) ∧ SchB n m b ∧ Below w.heap.size w w' :=
  (l_schema3 w A B n cap m c2 nm lo hi an ty hd ha hs hs2).mono fun e w' ⟨h, hb⟩ => by
    rcases h with h | ⟨h, h1, h2⟩
    · exact ⟨false, h, (fun h => by cases h), hb⟩
    · exact ⟨true, h, (fun _ => ⟨h1, h2⟩), hb⟩
end Go.Proofs.YthmnmologmmeaaaGreatDoor
end

/- Few cells, with few coordinates and values. -/
section
namespace Go.Proofs.YthmnmologmmeaaaGreatDoor
open Go Go.RowKit Go.Deep

/-- Few cells, with few coordinates and values. -/
def CelsB (N : Nat) (most : Int) (ln vl : Nat → Nat) : Prop := (N : Int) ≤ most ∧ ∀ k, k < N → ln k ≤ 10 ∧ vl k ≤ 10
set_option maxRecDepth 100000 in
set_option maxHeartbeats 4000000 in
theorem l_cells (w : World) (C : Option Addr) (N ccap : Nat) (most : Int) (ln vl : Nat → Nat) (x vk vn vd : Nat → Nat → Int) (vs : Nat → Nat → ByteArray) (hc : CelsAt w C N ln vl x vk vn vd vs) (hm : most ≤ 1000000)
    (hs : ∀ k, k < N → ln k ≤ 9223372036854775807 ∧ vl k ≤ 9223372036854775807 ∧ ∀ j, j < vl k → (vs k j).size ≤ 9223372036854775807) :
    Calls Tryz.prog 8 #[.slice C N ccap, .int .i64 most] w fun e w' => (e = .returned (.bool false) ∨ e = .returned (.bool true) ∧ CelsB N most ln vl) ∧ Below w.heap.size w w' := by
  have HC := Lib.hid hc
  have HS := Lib.hid hs
  have HL := Lib.hid l_short
  clear hc hs
  go_enter Tryz.func8, Tryz.ntmps8
  by_cases h0 : (N : Int) > most
  · go_wp2
    go_ret
    exact ⟨Or.inl rfl, Below.refl _ _⟩
  · go_wp2
    go_loopw [5, 6] (fun i _ wr => ∃ k : Nat, k ≤ N ∧ i = .int .i64 k ∧ Hid (∀ j, j < k → ln j ≤ 10 ∧ vl j ≤ 10) ∧ Hid (Below w.heap.size w wr)) (fun i _ _ => N - (intOf i).toNat)
    case atStart => exact ⟨0, Nat.zero_le _, rfl, fun j hj => absurd hj (by omega), Below.refl _ _⟩
    case round =>
      obtain ⟨k, hk, rfl, HK, HB⟩ := hrel
      by_cases hlt : k < N
      · obtain ⟨bc, oc, rfl, hbc, hcc⟩ := (HC.out.below HB.out) (by omega)
        obtain ⟨P, pc, Q, qc, x0, x1, _, x3⟩ := hcc k hlt
        clear hcc
        have HSk := Lib.hid (HS.out k hlt)
        have HV := Lib.hid x3
        clear x3
        obtain ⟨L, hL⟩ : ∃ L, ln k = L := ⟨_, rfl⟩
        obtain ⟨V, hV⟩ : ∃ V, vl k = V := ⟨_, rfl⟩
        have HLV : Hid (ln k = L ∧ vl k = V) := ⟨hL, hV⟩
        rw [hL] at x0 HSk
        rw [hV] at x1 HV HSk
        have hL9 := HSk.out.1
        have hV9 := HSk.out.2.1
        clear hL hV
        have HCW : Hid (∀ W, Below wr.heap.size wr W → W.cell? ⟨bc, oc + k * 2, none⟩ = some (.slice P L pc) ∧ W.cell? ⟨bc, oc + k * 2 + 1, none⟩ = some (.slice Q V qc)) := fun W hW => ⟨(hW.cell (p := ⟨bc, oc + k * 2, none⟩) hbc).trans x0, (hW.cell (p := ⟨bc, oc + k * 2 + 1, none⟩) hbc).trans x1⟩
        by_cases g1 : (L : Int) > 10
        · go_wp2
          go_ret
          exact ⟨Or.inl rfl, HB.out⟩
        · by_cases g2 : (V : Int) > 10
          · go_wp2
            go_ret
            exact ⟨Or.inl rfl, HB.out⟩
          · go_wp2
            clear x0 x1
            obtain ⟨wo, rfl⟩ : ∃ wo, wo = wr := ⟨_, rfl⟩
            go_loopw [6] (fun i wr => ∃ j : Nat, j ≤ V ∧ i = .int .i64 j ∧ Hid (Below wo.heap.size wo wr)) (fun i _ => V - (intOf i).toNat)
            case atStart => exact ⟨0, Nat.zero_le _, rfl, Below.refl _ _⟩
            case round =>
              obtain ⟨j, hj, rfl, HBj⟩ := hrel
              obtain ⟨x0, x1⟩ := HCW.out _ HBj.out
              by_cases hlt2 : j < V
              · obtain ⟨bv, ov, rfl, hbv, hcv⟩ := (HV.out.below HBj.out) (by omega)
                obtain ⟨y0, y1, y2, y3⟩ := hcv j hlt2
                clear hcv
                have HLs := Lib.hid (fun W => HL.out (vs k j) (HSk.out.2.2 j hlt2) W)
                generalize vs k j = s at *
                have KV : Hid (∀ W, Below wr.heap.size wr W → W.cell? ⟨bv, ov + j * 4 + 3, none⟩ = some (.string s) ∧ W.cell? ⟨bc, oc + k * 2 + 1, none⟩ = some (.slice (some ⟨bv, ov, none⟩) V qc)) := fun W hW => ⟨(hW.cell (p := ⟨bv, ov + j * 4 + 3, none⟩) hbv).trans y3, (HCW.out W (st HBj.out hW)).2⟩
                clear y0 y1 y2
                by_cases h5 : s.size ≤ 40
                · rw [decide_eq_true h5] at HLs
                  clear h5
                  go_wp2_with fail
                  refine (HLs.out _).mono ?_
                  rintro e w1 ⟨rfl, rfl⟩
                  go_wp2
                  go_roundw
                  case rel => exact ⟨j + 1, by omega, by go_num, HBj.out⟩
                  case measure => simp [intOf]; omega
                · rw [decide_eq_false h5] at HLs
                  clear h5
                  go_wp2_with fail
                  refine (HLs.out _).mono ?_
                  rintro e w1 ⟨rfl, rfl⟩
                  go_wp2
                  go_ret
                  exact ⟨Or.inl rfl, st HB.out HBj.out⟩
              · obtain rfl : j = V := by omega
                go_wp2
                go_roundw
                case rel =>
                  refine ⟨k + 1, by omega, by go_num, fun i hi => ?_, st HB.out HBj.out⟩
                  by_cases e : i = k
                  · subst e
                    rw [HLV.out.1, HLV.out.2]
                    omega
                  · exact HK.out i (by omega)
                case measure => simp [intOf]; omega
      · obtain rfl : k = N := by omega
        go_wp2
        go_ret
        exact ⟨Or.inr ⟨rfl, by omega, HK.out⟩, HB.out⟩

/-- Few: not more than what is examined. -/
def FewB (n m N : Nat) (most : Int) (ln vl : Nat → Nat) : Prop := n ≤ 10 ∧ m ≤ 10 ∧ CelsB N most ln vl
end Go.Proofs.YthmnmologmmeaaaGreatDoor
end

/- Few arrays have few cells. -/
section
namespace Go.Proofs.YthmnmologmmeaaaGreatDoor
open Go Go.RowKit Go.Deep

/-- Few arrays have few cells: what the contracts ask of them. -/
theorem ArrF.few {w : World} {A : Option Addr} {n : Nat} {B : Option Addr} {m : Nat} {C : Option Addr} {N : Nat} {nm : Nat → ByteArray} {lo hi : Nat → Int} {an : Nat → ByteArray} {ty : Nat → Int} {ln vl : Nat → Nat} {x vk vn vd : Nat → Nat → Int} {vs : Nat → Nat → ByteArray} {most : Int}
    (h : ArrF w A n B m C N nm lo hi an ty ln vl x vk vn vd vs) (hf : FewB n m N most ln vl) : CellsAt w C N ln vl x vk vn vd vs :=
  h.cells.few fun k hk => by have := (hf.2.2.2 k hk).1; omega
end Go.Proofs.YthmnmologmmeaaaGreatDoor
end

/- Drawn regions taken operation by operation, those that a guard leaves out among them. -/
section
namespace Go.Proofs.YthmnmologmmeaaaGreatDoor
open Go Go.RowKit Go.Deep

theorem rgi {P : Program} {ops : Array Oper} {Q : Exit → Act → World → Prop} {md : Region.Mode} {S : World → Prop} {fuel : Nat} {listed : Array Bool} {a : Act} {w : World} {oi : Oper} {v : Value} (i : Nat) (hi : ops[i]? = some oi)
    (hs : Region.noSelect ops = true) (hf : Region.free md ops listed i = true) (hr : (Region.ready md ops listed).contains i = true) (hQ : ∀ c a w, Q (.panic c) (a.put oi.dst v) w → Q (.panic c) a w)
    (hw : Region.wanted oi (yielded ops a.tmps) = true) (hy : ∀ w, S w → (execOp a.eval oi).run P w = .ok (.value v) w) (hS : S w) (h : wpAnyH P md ops Q S fuel (listed.setIfInBounds i true) (a.put oi.dst v) w) : wpAnyH P md ops Q S (fuel + 1) listed a w := wpAnyH_take hi hs hf hr hQ (.inl ⟨hw, hy⟩) hS h
theorem rgo {P : Program} {ops : Array Oper} {Q : Exit → Act → World → Prop} {md : Region.Mode} {S : World → Prop} {fuel : Nat} {listed : Array Bool} {a : Act} {w : World} {oi : Oper} (i : Nat) (hi : ops[i]? = some oi)
    (hs : Region.noSelect ops = true) (hf : Region.free md ops listed i = true) (hr : (Region.ready md ops listed).contains i = true) (hQ : ∀ c a w, Q (.panic c) (a.put oi.dst undef) w → Q (.panic c) a w)
    (hw : Region.wanted oi (yielded ops a.tmps) = false) (hS : S w) (h : wpAnyH P md ops Q S fuel (listed.setIfInBounds i true) (a.put oi.dst undef) w) : wpAnyH P md ops Q S (fuel + 1) listed a w := wpAnyH_take hi hs hf hr hQ (.inr ⟨hw, rfl⟩) hS h
end Go.Proofs.YthmnmologmmeaaaGreatDoor
end

/- From the row's condition to the walk: a list of attributes. -/
import Derived.Test.YtogmbehomilalaaGreatDoorZWka
import Derived.Test.YtogmbehomilalaaGreatDoorZSch
import Derived.Test.YtogmbehomilalaaGreatDoorZCmpS
import Derived.Test.YtogmbehomilalaaGreatDoorZPrt2
import Derived.RangeFuncNested
import Derived.RangeFuncFrom
import Derived.RangeFuncBound
import Derived.RangeFuncCalls
import Derived.RangeFuncLeaves
import Derived.Test.YtogmbehomilalaaGreatDoorZInl

/- From the row's condition to the walk: a list of attributes. -/
section
namespace Go.Proofs.YtogmbehomilalaaGreatDoor
open Go Go.ChangeShapes Go.WideShapes Go.ChangeAt Go.RowKit

theorem attr_fields : ∃ f0 f1 : Field, Tryz.prog.underlying 59 = some (.struct #[f0, f1]) ∧ f0.type = 9 ∧ f0.offset = 0 ∧ f1.type = 3 ∧ f1.offset = 1 :=
  ⟨_, _, Tryz.underlying59, rfl, rfl, rfl, rfl⟩
section
variable {H : Type} {enc : TypeId × Value → H} {w : World} {base : Nat} {spare : Nat → Bool} {held : Bool}
theorem open_attr {fuel : Nat} {c0 c1 : Value} {x : DataW H × List MemPlace} (h : DataW.trod enc Tryz.prog w base spare held fuel 59 [c0, c1] = some x) :
    ∃ (s : ByteArray) (l : Int), c0 = .string s ∧ c1 = .int .i64 l ∧ s.size ≤ 9223372036854775807 ∧ IntKind.i64.wrap l = l := by
  obtain ⟨f0, f1, hu, t0, o0, t1, o1⟩ := attr_fields
  obtain ⟨xs, n, _, _, _, hlen, hf⟩ := DataW.trod_struct hu h
  have l0 : 0 < xs.length := by rw [hlen]; simp
  have l1 : 1 < xs.length := by rw [hlen]; simp
  have q0 := hf 0 f0 rfl
  have q1 := hf 1 f1 rfl
  have ci : Tryz.prog.cellsOf 3 = 1 := by kernel_rfl
  have cs : Tryz.prog.cellsOf 9 = 1 := by kernel_rfl
  rw [t0, o0, cs, List.getElem?_eq_getElem l0] at q0
  rw [t1, o1, ci, List.getElem?_eq_getElem l1] at q1
  obtain ⟨z0, e0, _, l9⟩ := DataW.trod_string Tryz.underlying9 q0
  obtain ⟨z1, e1, _, w1⟩ := DataW.trod_int Tryz.underlying3 q1
  exact ⟨z0, z1, by simpa using e0, by simpa using e1, l9, wf_w w1⟩

/-- The cells of a list of attributes. -/
theorem open_attrs {fuel : Nat} {A : Option Addr} {n cap : Nat} {x : DataW H × List MemPlace} (h : DataW.trod enc Tryz.prog w base spare held fuel 23 [.slice A n cap] = some x) :
    ∃ (nm : Nat → ByteArray) (ty : Nat → Int), AttrsAt w A n nm ty ∧ n ≤ 9223372036854775807 ∧ ∀ k, k < n → (nm k).size ≤ 9223372036854775807 ∧ IntKind.i64.wrap (ty k) = ty k := by
  have c3 : Tryz.prog.cellsOf 59 = 2 := by kernel_rfl
  rcases DataW.trod_slice Tryz.underlying23 h with ⟨h0, _⟩ | ⟨a, len, cap', elems, rest, m, _, hcs, _, hb, hl, hm, hlen, hel, hsp, hns⟩
  · obtain ⟨rfl, rfl, rfl⟩ : A = none ∧ n = 0 ∧ cap = 0 := by simpa using h0
    exact ⟨fun _ => ⟨#[]⟩, fun _ => 0, fun h9 => absurd h9 (by omega), by omega, fun _ h9 => absurd h9 (by omega)⟩
  · obtain ⟨rfl, rfl, rfl⟩ : A = some a ∧ n = len ∧ cap = cap' := by simpa using hcs
    have each : ∀ k, k < n → ∃ y : ByteArray × Int, w.cell? (a.add (k * 2)) = some (.string y.1) ∧ w.cell? ((a.add (k * 2)).add 1) = some (.int .i64 y.2) ∧ y.1.size ≤ 9223372036854775807 ∧ IntKind.i64.wrap y.2 = y.2 := by
      intro k hk
      have h1 := hel k hk
      have hk' : k < elems.length := by omega
      rw [c3, List.getElem?_eq_getElem hk', Option.bind_eq_some_iff] at h1
      obtain ⟨cs', hcs', hy⟩ := h1
      obtain ⟨_, hl2, hcell⟩ := World.cells?_some hcs'
      match cs', hl2 with
      | [c0, c1], _ =>
        obtain ⟨z0, z1, rfl, rfl, l9, w1⟩ := open_attr hy
        exact ⟨(z0, z1), by simpa [Addr.add] using hcell 0 (by omega), by simpa using hcell 1 (by omega), l9, w1⟩
    have pick : ∃ f : Nat → ByteArray × Int, ∀ k, k < n → w.cell? (a.add (k * 2)) = some (.string (f k).1) ∧ w.cell? ((a.add (k * 2)).add 1) = some (.int .i64 (f k).2) ∧ (f k).1.size ≤ 9223372036854775807 ∧ IntKind.i64.wrap (f k).2 = (f k).2 :=
      ⟨fun k => if hk : k < n then (each k hk).choose else (⟨#[]⟩, 0), fun k hk => by
        simp only [dif_pos hk]
        exact (each k hk).choose_spec⟩
    obtain ⟨f, hf⟩ := pick
    refine ⟨fun k => (f k).1, fun k => (f k).2, fun hn => ?_, ?_, fun k hk => (hf k hk).2.2⟩
    · obtain ⟨b, off, spot⟩ := a
      have hspot : spot = none := by simpa [Addr.add] using World.cell?_spot (hf 0 hn).1
      subst hspot
      refine ⟨b, off, rfl, ?_, fun k hk => ?_⟩
      · exact cell_lt (b := b) (o := off + 0 * 2) (by have := (hf 0 hn).1; rw [Go.WideShapes.add_plain] at this; exact this)
      · obtain ⟨q1, q2, _⟩ := hf k hk
        rw [Go.WideShapes.add_plain] at q1 q2
        rw [Go.WideShapes.add_plain] at q2
        exact ⟨q1, q2⟩
    · exact Nat.le_trans hl (Nat.le_trans hm (by decide))
end
end Go.Proofs.YtogmbehomilalaaGreatDoor
end

/- From the row's condition to the walk: a list of integers. -/
section
namespace Go.Proofs.YtogmbehomilalaaGreatDoor
open Go Go.ChangeShapes Go.WideShapes Go.ChangeAt Go.RowKit

section
variable {H : Type} {enc : TypeId × Value → H} {w : World} {base : Nat} {spare : Nat → Bool} {held : Bool}
theorem open_intsAt {fuel : Nat} {A : Option Addr} {n cap : Nat} {x : DataW H × List MemPlace} (h : DataW.trod enc Tryz.prog w base spare held fuel 35 [.slice A n cap] = some x) :
    ∃ xs : Nat → Int, IntsAt w A n xs ∧ n ≤ 9223372036854775807 ∧ ∀ k, k < n → -9223372036854775808 ≤ xs k ∧ xs k ≤ 9223372036854775807 := by
  have c1 : Tryz.prog.cellsOf 3 = 1 := by kernel_rfl
  rcases open_ints Tryz.underlying35 Tryz.underlying3 c1 h with ⟨hcs, _⟩ | ⟨a, len, cap', zs, hcs, _, hl, hm, hz, hx, hcell, hwf⟩
  · obtain ⟨rfl, rfl, rfl⟩ : A = none ∧ n = 0 ∧ cap = 0 := by simpa using hcs
    exact ⟨fun _ => 0, fun h9 => absurd h9 (by omega), by omega, fun _ h9 => absurd h9 (by omega)⟩
  · obtain ⟨rfl, rfl, rfl⟩ : A = some a ∧ n = len ∧ cap = cap' := by simpa using hcs
    have hlen : n ≤ zs.length := by rw [hz]; split <;> omega
    refine ⟨fun k => zs.getD k 0, fun hn => ?_, Nat.le_trans hl (Nat.le_trans hm (by decide)), fun k hk => ?_⟩
    · obtain ⟨b, o, rfl, hc⟩ := ints_at hcell (by omega)
      exact ⟨b, o, rfl, cell_lt (hc 0 (by omega)), fun k hk => hc k (by omega)⟩
    · have e : zs.getD k 0 = zs[k]'(by omega) := by simp [List.getD, List.getElem?_eq_getElem (show k < zs.length by omega)]
      show -9223372036854775808 ≤ zs.getD k 0 ∧ zs.getD k 0 ≤ 9223372036854775807
      rw [e]
      exact bounds_i64 (hwf _ (List.getElem_mem _))
end
end Go.Proofs.YtogmbehomilalaaGreatDoor
end

/- From the row's condition to the walk: a box. -/
section
namespace Go.Proofs.YtogmbehomilalaaGreatDoor
open Go Go.ChangeShapes Go.WideShapes Go.ChangeAt Go.RowKit

section
variable {H : Type} {enc : TypeId × Value → H} {w : World} {base : Nat} {spare : Nat → Bool} {held : Bool}
theorem open_ints1 {fuel : Nat} {c0 : Value} {x : DataW H × List MemPlace} (h : DataW.trod enc Tryz.prog w base spare held fuel 35 [c0] = some x) :
    ∃ (A : Option Addr) (n cap : Nat) (xs : Nat → Int), c0 = .slice A n cap ∧ IntsAt w A n xs ∧ n ≤ 9223372036854775807 := by
  have h' := h
  have c1 : Tryz.prog.cellsOf 3 = 1 := by kernel_rfl
  rcases open_ints Tryz.underlying35 Tryz.underlying3 c1 h with ⟨hcs, _⟩ | ⟨a, len, cap', zs, hcs, _⟩
  · obtain rfl : c0 = .slice none 0 0 := by simpa using hcs
    obtain ⟨xs, h1, h2, _⟩ := open_intsAt h'
    exact ⟨_, _, _, xs, rfl, h1, h2⟩
  · obtain rfl : c0 = .slice (some a) len cap' := by simpa using hcs
    obtain ⟨xs, h1, h2, _⟩ := open_intsAt h'
    exact ⟨_, _, _, xs, rfl, h1, h2⟩
end
end Go.Proofs.YtogmbehomilalaaGreatDoor
end

/- From the row's condition to the walk: cells, and arrays. -/
section
namespace Go.Proofs.YtogmbehomilalaaGreatDoor
open Go Go.ChangeShapes Go.WideShapes Go.ChangeAt Go.RowKit

/-- The cells of a slice, whatever their sizes. -/
def CelsAt (w : World) (A : Option Addr) (N : Nat) (ln vl : Nat → Nat) (x vk vn vd : Nat → Nat → Int) (vs : Nat → Nat → ByteArray) : Prop :=
  0 < N → ∃ b o, A = some ⟨b, o, none⟩ ∧ b < w.heap.size ∧ ∀ k, k < N → ∃ P c Q d, w.cell? ⟨b, o + k * 2, none⟩ = some (.slice P (ln k) c) ∧ w.cell? ⟨b, o + k * 2 + 1, none⟩ = some (.slice Q (vl k) d) ∧ IntsAt w P (ln k) (x k) ∧ ValsAt w Q (vl k) (vk k) (vn k) (vd k) (vs k)
theorem CelsAt.below {w w' : World} {A : Option Addr} {N : Nat} {ln vl : Nat → Nat} {x vk vn vd : Nat → Nat → Int} {vs : Nat → Nat → ByteArray} (h : CelsAt w A N ln vl x vk vn vd vs) (hb : Below w.heap.size w w') : CelsAt w' A N ln vl x vk vn vd vs := fun hn => by
  obtain ⟨b, o, h1, h2, h3⟩ := h hn
  refine ⟨b, o, h1, Nat.lt_of_lt_of_le h2 hb.size, fun k hk => ?_⟩
  obtain ⟨P, c, Q, d, a1, a2, a3, a4⟩ := h3 k hk
  exact ⟨P, c, Q, d, (hb.cell (p := ⟨b, o + k * 2, none⟩) h2).trans a1, (hb.cell (p := ⟨b, o + k * 2 + 1, none⟩) h2).trans a2, a3.below hb, a4.below hb⟩
theorem CelsAt.few {w : World} {A : Option Addr} {N : Nat} {ln vl : Nat → Nat} {x vk vn vd : Nat → Nat → Int} {vs : Nat → Nat → ByteArray} (h : CelsAt w A N ln vl x vk vn vd vs) (hl : ∀ k, k < N → ln k ≤ 1000) : CellsAt w A N ln vl x vk vn vd vs := fun hn => by
  obtain ⟨b, o, h1, h2, h3⟩ := h hn
  refine ⟨b, o, h1, h2, fun k hk => ?_⟩
  obtain ⟨P, c, Q, d, a1, a2, a3, a4⟩ := h3 k hk
  exact ⟨P, c, Q, d, a1, a2, a3, a4, hl k hk⟩
theorem valF : ∃ f0 f1 f2 f3 : Field, Tryz.prog.underlying 40 = some (.struct #[f0, f1, f2, f3]) ∧ f0.type = 3 ∧ f0.offset = 0 ∧ f1.type = 2 ∧ f1.offset = 1 ∧ f2.type = 2 ∧ f2.offset = 2 ∧ f3.type = 9 ∧ f3.offset = 3 :=
  ⟨_, _, _, _, Tryz.underlying40, rfl, rfl, rfl, rfl, rfl, rfl, rfl, rfl⟩
theorem cellF : ∃ f0 f1 : Field, Tryz.prog.underlying 38 = some (.struct #[f0, f1]) ∧ f0.type = 35 ∧ f0.offset = 0 ∧ f1.type = 36 ∧ f1.offset = 1 :=
  ⟨_, _, Tryz.underlying38, rfl, rfl, rfl, rfl⟩
section
variable {H : Type} {enc : TypeId × Value → H} {w : World} {base : Nat} {spare : Nat → Bool} {held : Bool}
theorem open_valF {fuel : Nat} {c0 c1 c2 c3 : Value} {x : DataW H × List MemPlace} (h : DataW.trod enc Tryz.prog w base spare held fuel 40 [c0, c1, c2, c3] = some x) :
    ∃ (k n d : Int) (s : ByteArray), c0 = .int .i64 k ∧ c1 = .int .i64 n ∧ c2 = .int .i64 d ∧ c3 = .string s ∧ s.size ≤ 9223372036854775807 := by
  obtain ⟨f0, f1, f2, f3, hu, t0, o0, t1, o1, t2, o2, t3, o3⟩ := valF
  obtain ⟨xs, n, _, _, _, hlen, hf⟩ := DataW.trod_struct hu h
  have l0 : 0 < xs.length := by rw [hlen]; simp
  have l1 : 1 < xs.length := by rw [hlen]; simp
  have l2 : 2 < xs.length := by rw [hlen]; simp
  have l3 : 3 < xs.length := by rw [hlen]; simp
  have q0 := hf 0 f0 rfl
  have q1 := hf 1 f1 rfl
  have q2 := hf 2 f2 rfl
  have q3 := hf 3 f3 rfl
  have ci : Tryz.prog.cellsOf 3 = 1 := by kernel_rfl
  have c6 : Tryz.prog.cellsOf 2 = 1 := by kernel_rfl
  have cs : Tryz.prog.cellsOf 9 = 1 := by kernel_rfl
  rw [t0, o0, ci, List.getElem?_eq_getElem l0] at q0
  rw [t1, o1, c6, List.getElem?_eq_getElem l1] at q1
  rw [t2, o2, c6, List.getElem?_eq_getElem l2] at q2
  rw [t3, o3, cs, List.getElem?_eq_getElem l3] at q3
  obtain ⟨z0, e0, _, _⟩ := DataW.trod_int Tryz.underlying3 q0
  obtain ⟨z1, e1, _, _⟩ := DataW.trod_int Tryz.underlying2 q1
  obtain ⟨z2, e2, _, _⟩ := DataW.trod_int Tryz.underlying2 q2
  obtain ⟨z3, e3, _, l9⟩ := DataW.trod_string Tryz.underlying9 q3
  exact ⟨z0, z1, z2, z3, by simpa using e0, by simpa using e1, by simpa using e2, by simpa using e3, l9⟩
/-- What is known of a list of values. -/
def ValsF (w : World) (A : Option Addr) (n : Nat) (vk vn vd : Nat → Int) (vs : Nat → ByteArray) : Prop := ValsAt w A n vk vn vd vs ∧ n ≤ 9223372036854775807 ∧ ∀ k, k < n → (vs k).size ≤ 9223372036854775807
theorem open_valsF {fuel : Nat} {A : Option Addr} {n cap : Nat} {x : DataW H × List MemPlace} (h : DataW.trod enc Tryz.prog w base spare held fuel 36 [.slice A n cap] = some x) :
    ∃ (vk vn vd : Nat → Int) (vs : Nat → ByteArray), ValsF w A n vk vn vd vs := by
  have c4 : Tryz.prog.cellsOf 40 = 4 := by kernel_rfl
  rcases DataW.trod_slice Tryz.underlying36 h with ⟨h0, _⟩ | ⟨a, len, cap', elems, rest, m, _, hcs, _, hb, hl, hm, hlen, hel, hsp, hns⟩
  · obtain ⟨rfl, rfl, rfl⟩ : A = none ∧ n = 0 ∧ cap = 0 := by simpa using h0
    exact ⟨fun _ => 0, fun _ => 0, fun _ => 0, fun _ => ⟨#[]⟩, fun h9 => absurd h9 (by omega), by omega, fun _ h9 => absurd h9 (by omega)⟩
  · obtain ⟨rfl, rfl, rfl⟩ : A = some a ∧ n = len ∧ cap = cap' := by simpa using hcs
    have each : ∀ k, k < n → ∃ y : Int × Int × Int × ByteArray, w.cell? (a.add (k * 4)) = some (.int .i64 y.1) ∧ w.cell? ((a.add (k * 4)).add 1) = some (.int .i64 y.2.1) ∧ w.cell? ((a.add (k * 4)).add 2) = some (.int .i64 y.2.2.1) ∧ w.cell? ((a.add (k * 4)).add 3) = some (.string y.2.2.2) ∧ y.2.2.2.size ≤ 9223372036854775807 := by
      intro k hk
      have h1 := hel k hk
      have hk' : k < elems.length := by omega
      rw [c4, List.getElem?_eq_getElem hk', Option.bind_eq_some_iff] at h1
      obtain ⟨cs', hcs', hy⟩ := h1
      obtain ⟨_, hl2, hcell⟩ := World.cells?_some hcs'
      match cs', hl2 with
      | [c0, c1, c2, c3], _ =>
        obtain ⟨z0, z1, z2, z3, rfl, rfl, rfl, rfl, l9⟩ := open_valF hy
        exact ⟨(z0, z1, z2, z3), by simpa [Addr.add] using hcell 0 (by omega), by simpa using hcell 1 (by omega), by simpa using hcell 2 (by omega), by simpa using hcell 3 (by omega), l9⟩
    have pick : ∃ f : Nat → Int × Int × Int × ByteArray, ∀ k, k < n → w.cell? (a.add (k * 4)) = some (.int .i64 (f k).1) ∧ w.cell? ((a.add (k * 4)).add 1) = some (.int .i64 (f k).2.1) ∧ w.cell? ((a.add (k * 4)).add 2) = some (.int .i64 (f k).2.2.1) ∧ w.cell? ((a.add (k * 4)).add 3) = some (.string (f k).2.2.2) ∧ (f k).2.2.2.size ≤ 9223372036854775807 :=
      ⟨fun k => if hk : k < n then (each k hk).choose else (0, 0, 0, ⟨#[]⟩), fun k hk => by
        simp only [dif_pos hk]
        exact (each k hk).choose_spec⟩
    obtain ⟨f, hf⟩ := pick
    refine ⟨fun k => (f k).1, fun k => (f k).2.1, fun k => (f k).2.2.1, fun k => (f k).2.2.2, fun hn => ?_, Nat.le_trans hl (Nat.le_trans hm (by decide)), fun k hk => (hf k hk).2.2.2.2⟩
    obtain ⟨b, off, spot⟩ := a
    have hspot : spot = none := by simpa [Addr.add] using World.cell?_spot (hf 0 hn).1
    subst hspot
    refine ⟨b, off, rfl, ?_, fun k hk => ?_⟩
    · exact cell_lt (b := b) (o := off + 0 * 4) (by have := (hf 0 hn).1; rw [Go.WideShapes.add_plain] at this; exact this)
    · obtain ⟨q1, q2, q3, q4, _⟩ := hf k hk
      rw [Go.WideShapes.add_plain] at q1 q2 q3 q4
      rw [Go.WideShapes.add_plain] at q2 q3 q4
      exact ⟨q1, q2, q3, q4⟩
theorem open_vals1 {fuel : Nat} {c0 : Value} {x : DataW H × List MemPlace} (h : DataW.trod enc Tryz.prog w base spare held fuel 36 [c0] = some x) :
    ∃ (A : Option Addr) (n cap : Nat) (vk vn vd : Nat → Int) (vs : Nat → ByteArray), c0 = .slice A n cap ∧ ValsF w A n vk vn vd vs := by
  have h' := h
  rcases DataW.trod_slice Tryz.underlying36 h with ⟨h0, _⟩ | ⟨a, len, cap', elems, rest, m, _, hcs, _⟩
  · obtain rfl : c0 = .slice none 0 0 := by simpa using h0
    obtain ⟨vk, vn, vd, vs, h1⟩ := open_valsF h'
    exact ⟨_, _, _, vk, vn, vd, vs, rfl, h1⟩
  · obtain rfl : c0 = .slice (some a) len cap' := by simpa using hcs
    obtain ⟨vk, vn, vd, vs, h1⟩ := open_valsF h'
    exact ⟨_, _, _, vk, vn, vd, vs, rfl, h1⟩
/-- A cell's parts. -/
structure CelD where
  P : Option Addr
  ln : Nat
  c : Nat
  Q : Option Addr
  vl : Nat
  d : Nat
  x : Nat → Int
  vk : Nat → Int
  vn : Nat → Int
  vd : Nat → Int
  vs : Nat → ByteArray
theorem open_cell {fuel : Nat} {c0 c1 : Value} {y : DataW H × List MemPlace} (h : DataW.trod enc Tryz.prog w base spare held fuel 38 [c0, c1] = some y) :
    ∃ D : CelD, c0 = .slice D.P D.ln D.c ∧ c1 = .slice D.Q D.vl D.d ∧ IntsAt w D.P D.ln D.x ∧ ValsF w D.Q D.vl D.vk D.vn D.vd D.vs ∧ D.ln ≤ 9223372036854775807 := by
  obtain ⟨f0, f1, hu, t0, o0, t1, o1⟩ := cellF
  obtain ⟨xs, n, _, _, _, hlen, hf⟩ := DataW.trod_struct hu h
  have l0 : 0 < xs.length := by rw [hlen]; simp
  have l1 : 1 < xs.length := by rw [hlen]; simp
  have q0 := hf 0 f0 rfl
  have q1 := hf 1 f1 rfl
  have ci : Tryz.prog.cellsOf 35 = 1 := by kernel_rfl
  have cv : Tryz.prog.cellsOf 36 = 1 := by kernel_rfl
  rw [t0, o0, ci, List.getElem?_eq_getElem l0] at q0
  rw [t1, o1, cv, List.getElem?_eq_getElem l1] at q1
  have q0' : DataW.trod enc Tryz.prog w base spare held n 35 [c0] = some xs[0] := by simpa using q0
  have q1' : DataW.trod enc Tryz.prog w base spare held n 36 [c1] = some xs[1] := by simpa using q1
  obtain ⟨A, n0, k0, x0, rfl, i0, j0⟩ := open_ints1 q0'
  obtain ⟨B, n1, k1, vk, vn, vd, vs, rfl, i1⟩ := open_vals1 q1'
  exact ⟨⟨A, n0, k0, B, n1, k1, x0, vk, vn, vd, vs⟩, rfl, rfl, i0, i1, j0⟩
/-- What is known of a list of cells. -/
def CelsF (w : World) (A : Option Addr) (N : Nat) (ln vl : Nat → Nat) (x vk vn vd : Nat → Nat → Int) (vs : Nat → Nat → ByteArray) : Prop :=
  CelsAt w A N ln vl x vk vn vd vs ∧ N ≤ 9223372036854775807 ∧ ∀ k, k < N → ln k ≤ 9223372036854775807 ∧ vl k ≤ 9223372036854775807 ∧ ∀ j, j < vl k → (vs k j).size ≤ 9223372036854775807
theorem open_cells {fuel : Nat} {A : Option Addr} {n cap : Nat} {x : DataW H × List MemPlace} (h : DataW.trod enc Tryz.prog w base spare held fuel 24 [.slice A n cap] = some x) :
    ∃ (ln vl : Nat → Nat) (x vk vn vd : Nat → Nat → Int) (vs : Nat → Nat → ByteArray), CelsF w A n ln vl x vk vn vd vs := by
  have c2 : Tryz.prog.cellsOf 38 = 2 := by kernel_rfl
  rcases DataW.trod_slice Tryz.underlying24 h with ⟨h0, _⟩ | ⟨a, len, cap', elems, rest, m, _, hcs, _, hb, hl, hm, hlen, hel, hsp, hns⟩
  · obtain ⟨rfl, rfl, rfl⟩ : A = none ∧ n = 0 ∧ cap = 0 := by simpa using h0
    exact ⟨fun _ => 0, fun _ => 0, fun _ _ => 0, fun _ _ => 0, fun _ _ => 0, fun _ _ => 0, fun _ _ => ⟨#[]⟩, fun h9 => absurd h9 (by omega), by omega, fun _ h9 => absurd h9 (by omega)⟩
  · obtain ⟨rfl, rfl, rfl⟩ : A = some a ∧ n = len ∧ cap = cap' := by simpa using hcs
    have each : ∀ k, k < n → ∃ D : CelD, w.cell? (a.add (k * 2)) = some (.slice D.P D.ln D.c) ∧ w.cell? ((a.add (k * 2)).add 1) = some (.slice D.Q D.vl D.d) ∧ IntsAt w D.P D.ln D.x ∧ ValsF w D.Q D.vl D.vk D.vn D.vd D.vs ∧ D.ln ≤ 9223372036854775807 := by
      intro k hk
      have h1 := hel k hk
      have hk' : k < elems.length := by omega
      rw [c2, List.getElem?_eq_getElem hk', Option.bind_eq_some_iff] at h1
      obtain ⟨cs', hcs', hy⟩ := h1
      obtain ⟨_, hl2, hcell⟩ := World.cells?_some hcs'
      match cs', hl2 with
      | [c0, c1], _ =>
        obtain ⟨D, rfl, rfl, i0, i1, i2⟩ := open_cell hy
        exact ⟨D, by simpa [Addr.add] using hcell 0 (by omega), by simpa using hcell 1 (by omega), i0, i1, i2⟩
    have pick : ∃ f : Nat → CelD, ∀ k, k < n → w.cell? (a.add (k * 2)) = some (.slice (f k).P (f k).ln (f k).c) ∧ w.cell? ((a.add (k * 2)).add 1) = some (.slice (f k).Q (f k).vl (f k).d) ∧ IntsAt w (f k).P (f k).ln (f k).x ∧ ValsF w (f k).Q (f k).vl (f k).vk (f k).vn (f k).vd (f k).vs ∧ (f k).ln ≤ 9223372036854775807 :=
      ⟨fun k => if hk : k < n then (each k hk).choose else ⟨none, 0, 0, none, 0, 0, fun _ => 0, fun _ => 0, fun _ => 0, fun _ => 0, fun _ => ⟨#[]⟩⟩, fun k hk => by
        simp only [dif_pos hk]
        exact (each k hk).choose_spec⟩
    obtain ⟨f, hf⟩ := pick
    refine ⟨fun k => (f k).ln, fun k => (f k).vl, fun k => (f k).x, fun k => (f k).vk, fun k => (f k).vn, fun k => (f k).vd, fun k => (f k).vs, fun hn => ?_, Nat.le_trans hl (Nat.le_trans hm (by decide)), fun k hk => ⟨(hf k hk).2.2.2.2, (hf k hk).2.2.2.1.2.1, (hf k hk).2.2.2.1.2.2⟩⟩
    obtain ⟨b, off, spot⟩ := a
    have hspot : spot = none := by simpa [Addr.add] using World.cell?_spot (hf 0 hn).1
    subst hspot
    refine ⟨b, off, rfl, ?_, fun k hk => ?_⟩
    · exact cell_lt (b := b) (o := off + 0 * 2) (by have := (hf 0 hn).1; rw [Go.WideShapes.add_plain] at this; exact this)
    · obtain ⟨q1, q2, q3, q4, _⟩ := hf k hk
      rw [Go.WideShapes.add_plain] at q1 q2
      rw [Go.WideShapes.add_plain] at q2
      exact ⟨_, _, _, _, q1, q2, q3, q4.1⟩
/-- What is known of an array. -/
structure ArrF (w : World) (A : Option Addr) (n : Nat) (B : Option Addr) (m : Nat) (C : Option Addr) (N : Nat) (nm : Nat → ByteArray) (lo hi : Nat → Int) (an : Nat → ByteArray) (ty : Nat → Int) (ln vl : Nat → Nat) (x vk vn vd : Nat → Nat → Int) (vs : Nat → Nat → ByteArray) : Prop where
  dims : DimsAt w A n nm lo hi
  attrs : AttrsAt w B m an ty
  cells : CelsAt w C N ln vl x vk vn vd vs
  nmS : ∀ k, k < n → (nm k).size ≤ 9223372036854775807
  anS : ∀ k, k < m → (an k).size ≤ 9223372036854775807
  cS : ∀ k, k < N → ln k ≤ 9223372036854775807 ∧ vl k ≤ 9223372036854775807 ∧ ∀ j, j < vl k → (vs k j).size ≤ 9223372036854775807
  nL : n ≤ 9223372036854775807
  mL : m ≤ 9223372036854775807
  NL : N ≤ 9223372036854775807
theorem ArrF.below {w w' : World} {A : Option Addr} {n : Nat} {B : Option Addr} {m : Nat} {C : Option Addr} {N : Nat} {nm : Nat → ByteArray} {lo hi : Nat → Int} {an : Nat → ByteArray} {ty : Nat → Int} {ln vl : Nat → Nat} {x vk vn vd : Nat → Nat → Int} {vs : Nat → Nat → ByteArray}
    (h : ArrF w A n B m C N nm lo hi an ty ln vl x vk vn vd vs) (hb : Below w.heap.size w w') : ArrF w' A n B m C N nm lo hi an ty ln vl x vk vn vd vs :=
  ⟨h.dims.below hb, h.attrs.below hb, h.cells.below hb, h.nmS, h.anS, h.cS, h.nL, h.mL, h.NL⟩
end
end Go.Proofs.YtogmbehomilalaaGreatDoor
end

/- A list of cells has no more of them than it has room for. -/
section
namespace Go.Proofs.YtogmbehomilalaaGreatDoor
open Go Go.ChangeShapes Go.WideShapes Go.ChangeAt Go.RowKit
section
variable {H : Type} {enc : TypeId × Value → H} {w : World} {base : Nat} {spare : Nat → Bool} {held : Bool}
theorem cells_cap {fuel : Nat} {A : Option Addr} {n cap : Nat} {x : DataW H × List MemPlace} (h : DataW.trod enc Tryz.prog w base spare held fuel 24 [.slice A n cap] = some x) : n ≤ cap := by
  rcases DataW.trod_slice Tryz.underlying24 h with ⟨h0, _⟩ | ⟨a, len, cap', elems, rest, m, _, hcs, _, hb, hl, hm, hlen, hel, hsp, hns⟩
  · obtain ⟨rfl, rfl, rfl⟩ : A = none ∧ n = 0 ∧ cap = 0 := by simpa using h0
    exact Nat.le_refl _
  · obtain ⟨rfl, rfl, rfl⟩ : A = some a ∧ n = len ∧ cap = cap' := by simpa using hcs
    exact hl
end
end Go.Proofs.YtogmbehomilalaaGreatDoor
end

/- A range over a function, where the body knows each element by its place and by what memory holds of it. -/
section
namespace Go.Proofs.YtogmbehomilalaaGreatDoor
open Go Go.RowKit

/-- What an iterator promises whoever ranges over it: it makes at most N rounds; R: what it reads, and what each round must leave as it is; Y k: what holds of the arguments of round k. -/
def IterAt (F : Fence) (n : Nat) (P : Program) (g : Nat) (lb : Array Value) (R : World → Prop) (Y : Nat → Array Value → World → Prop) (N : Nat) : Prop :=
  ∀ (l : Nat) (J : Nat → World → Prop) (Jx : Unit → World → Prop) (W : World), AbidesFrom W.heap.size J → AbidesFrom W.heap.size Jx → (∀ k W', J k W' → R W') →
    (∀ k args W1, k < N → J k W1 → Y k args W1 → YieldAt F (n - 1) P l args W1 fun e W' => (e = .returned (.bool true) ∧ J (k + 1) W') ∨ (e = .returned (.bool false) ∧ Jx () W')) →
    J 0 W →
    CallsIn F n P g (#[.func (.yield l) #[] #[]] ++ lb) W fun e W' => (∃ v, e = .returned v) ∧ (J N W' ∨ Jx () W')

/-- How a round's body may be left. -/
def roundAt (I : Nat → World → Prop) (Ix : Code → World → Prop) (k : Nat) (W : World) : Exit → Act → World → Prop
  | .normal, _, W' => KeepsOthers W W' ∧ I k W'
  | .ret, _, W' => KeepsOthers W W' ∧ Ix .ret W'
  | .exit id, _, W' => KeepsOthers W W' ∧ Ix (.exit id) W'
  | .goto t, _, W' => KeepsOthers W W' ∧ Ix (.goto t) W'
  | .panic _, _, _ => False
  | .outgrown, _, _ => False

variable {F : Fence} {n : Nat} {P : Program}

end Go.Proofs.YtogmbehomilalaaGreatDoor
end

/- The cells of a slice, one by one. -/
section
namespace Go.Proofs.YtogmbehomilalaaGreatDoor
open Go Go.RowKit Go.Deep Go.Shelf
attribute [local go_sem] Oper.semAt_some

/-- What slices.Values reads: the slice that it was given, and its cells. -/
def ReadsCel (Bs : Nat) (A : Option Addr) (len cap : Nat) (p q : Nat → Value) (W : World) : Prop :=
  W.cell? ⟨Bs, 0, none⟩ = some (.slice A len cap) ∧ ∀ k, k < len → ∃ b o, A = some ⟨b, o, none⟩ ∧ W.cell? ⟨b, o + k * 2, none⟩ = some (p k) ∧ W.cell? ⟨b, o + k * 2 + 1, none⟩ = some (q k)

set_option maxRecDepth 100000 in
set_option maxHeartbeats 2000000 in
theorem cells_iter (F : Fence) (n : Nat) (hF : F.fn 80) (hro : F.round = none) (Bs len cap : Nat) (A : Option Addr) (p q : Nat → Value) (hxs : ∀ k, ∃ P n c Q m d, p k = .slice P n c ∧ q k = .slice Q m d) (hlen : len ≤ 1000000) (hn : 1 ≤ n) :
    IterAt F n Tryz.prog 80 #[.pointer (some ⟨Bs, 0, none⟩)] (ReadsCel Bs A len cap p q) (fun k args _ => args = #[.agg #[p k, q k]]) len := by
  intro l J Jx W hJ hJx hR hY h0
  refine callsIn_of_wp Tryz.func80 rfl hF ?_ hro
  simp only [Tryz.ntmps80, List.size_toArray, List.length_cons, List.length_nil, Nat.reduceAdd, Nat.reduceSub, Array.replicate_succ, Array.replicate_zero, List.push_toArray, List.append_toArray, List.nil_append, List.cons_append]
  have hs := (hR 0 W h0).1
  have HR := Lib.hid hR
  have HY := Lib.hid hY
  have HX := Lib.hid hxs
  have HJJ := Lib.hid hJ
  clear hR hY hxs
  gi_wp2
  gi_loopw [7] (fun i wr => ∃ k : Nat, k ≤ len ∧ i = .int .i64 k ∧ Hid (J k wr)) (fun i _ => len - (intOf i).toNat)
  case atStart => exact ⟨0, Nat.zero_le _, rfl, h0⟩
  case round =>
    obtain ⟨k, hk, rfl, hj⟩ := hrel
    by_cases hlt : k < len
    · obtain ⟨b, o, rfl, hc0, hc1⟩ := (HR.out k wr hj.out).2 k hlt
      obtain ⟨P, n9, c9, Q, m9, d9, ha, hb⟩ := HX.out k
      have hj2 := HJJ.out k wr (wr.alloc (.cells #[.slice P n9 c9, .slice Q m9 d9] 38)) none hj.out (World.grownBy_alloc wr _ _) (fun r e => by cases e)
      obtain ⟨fn, tmps, assign, body, hy, hround⟩ := HY.out k #[.agg #[p k, q k]] _ hlt hj2 rfl
      rw [ha] at hc0
      rw [hb] at hc1
      rw [ha, hb] at hy
      clear ha hb
      gi_wp2
      refine hround.mono ?_
      rintro e W3 (⟨rfl, hj3⟩ | ⟨rfl, hjx⟩)
      · have HJ3 := Lib.hid hj3
        clear hj3 hround hy hc0 hc1 hj2
        gi_wp2
        go_roundw
        case rel => exact ⟨k + 1, by omega, by go_num, HJ3⟩
        case measure => simp [intOf]; omega
      · have HJX := Lib.hid hjx
        clear hjx hround hy hc0 hc1 hj2
        gi_wp2
        refine bodyPost_ret (results_none rfl _ _ _) rfl ?_
        exact ⟨⟨_, rfl⟩, .inr HJX.out⟩
    · obtain rfl : k = len := by omega
      gi_wp2
      go_end0
      exact ⟨⟨_, rfl⟩, .inl hj.out⟩
theorem c_cells (w : World) (A : Option Addr) (n c : Nat) : Calls Tryz.prog 38 #[.slice A n c] w fun e w' => e = .returned (.func (.func 80) #[] #[.pointer (some ⟨w.heap.size, 0, none⟩)]) ∧ w.alloc (.cells #[.slice A n c] 24) = w' := by
  go_enter Tryz.func38, Tryz.ntmps38
  go_wp2
  go_ret
  exact ⟨rfl, rfl⟩
end Go.Proofs.YtogmbehomilalaaGreatDoor
end

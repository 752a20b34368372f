/- From the row's condition to the walk: a list of integers. -/
import Derived.Test.YtkckoanphciddaaGreatDoorZWka
import Derived.Test.YtkckoanphciddaaGreatDoorZCmpS
import Derived.Test.YtkckoanphciddaaGreatDoorZSch
import Derived.Test.YtkckoanphciddaaGreatDoorZPrt2
import Derived.Test.YtkckoanphciddaaGreatDoorZSpE

/- From the row's condition to the walk: a list of integers. -/
section
namespace Go.Proofs.YtkckoanphciddaaGreatDoor
open Go Go.ChangeShapes Go.WideShapes Go.ChangeAt Go.RowKit

section
variable {H : Type} {enc : TypeId × Value → H} {w : World} {base : Nat} {spare : Nat → Bool} {held : Bool}
theorem open_intsAt {fuel : Nat} {A : Option Addr} {n cap : Nat} {x : DataW H × List MemPlace} (h : DataW.trod enc Tryz.prog w base spare held fuel 35 [.slice A n cap] = some x) :
    ∃ xs : Nat → Int, IntsAt w A n xs ∧ n ≤ 9223372036854775807 ∧ ∀ k, k < n → -9223372036854775808 ≤ xs k ∧ xs k ≤ 9223372036854775807 := by
  have c1 : Tryz.prog.cellsOf 3 = 1 := by kernel_rfl
  rcases open_ints Tryz.underlying35 Tryz.underlying3 c1 h with ⟨hcs, _⟩ | ⟨a, len, cap', zs, hcs, _, hl, hm, hz, hx, hcell, hwf⟩
  · obtain ⟨rfl, rfl, rfl⟩ : A = none ∧ n = 0 ∧ cap = 0 := by simpa using hcs
    exact ⟨fun _ => 0, fun h9 => absurd h9 (by omega), by omega, fun _ h9 => absurd h9 (by omega)⟩
  · obtain ⟨rfl, rfl, rfl⟩ : A = some a ∧ n = len ∧ cap = cap' := by simpa using hcs
    have hlen : n ≤ zs.length := by rw [hz]; split <;> omega
    refine ⟨fun k => zs.getD k 0, fun hn => ?_, Nat.le_trans hl (Nat.le_trans hm (by decide)), fun k hk => ?_⟩
    · obtain ⟨b, o, rfl, hc⟩ := ints_at hcell (by omega)
      exact ⟨b, o, rfl, cell_lt (hc 0 (by omega)), fun k hk => hc k (by omega)⟩
    · have e : zs.getD k 0 = zs[k]'(by omega) := by simp [List.getD, List.getElem?_eq_getElem (show k < zs.length by omega)]
      show -9223372036854775808 ≤ zs.getD k 0 ∧ zs.getD k 0 ≤ 9223372036854775807
      rw [e]
      exact bounds_i64 (hwf _ (List.getElem_mem _))
end
end Go.Proofs.YtkckoanphciddaaGreatDoor
end

/- From the row's condition to the walk: a box. -/
section
namespace Go.Proofs.YtkckoanphciddaaGreatDoor
open Go Go.ChangeShapes Go.WideShapes Go.ChangeAt Go.RowKit

theorem box_fields : ∃ f0 f1 : Field, Tryz.prog.underlying 66 = some (.struct #[f0, f1]) ∧ f0.type = 35 ∧ f0.offset = 0 ∧ f1.type = 35 ∧ f1.offset = 1 :=
  ⟨_, _, Tryz.underlying66, rfl, rfl, rfl, rfl⟩
section
variable {H : Type} {enc : TypeId × Value → H} {w : World} {base : Nat} {spare : Nat → Bool} {held : Bool}
theorem open_ints1 {fuel : Nat} {c0 : Value} {x : DataW H × List MemPlace} (h : DataW.trod enc Tryz.prog w base spare held fuel 35 [c0] = some x) :
    ∃ (A : Option Addr) (n cap : Nat) (xs : Nat → Int), c0 = .slice A n cap ∧ IntsAt w A n xs ∧ n ≤ 9223372036854775807 := by
  have h' := h
  have c1 : Tryz.prog.cellsOf 3 = 1 := by kernel_rfl
  rcases open_ints Tryz.underlying35 Tryz.underlying3 c1 h with ⟨hcs, _⟩ | ⟨a, len, cap', zs, hcs, _⟩
  · obtain rfl : c0 = .slice none 0 0 := by simpa using hcs
    obtain ⟨xs, h1, h2, _⟩ := open_intsAt h'
    exact ⟨_, _, _, xs, rfl, h1, h2⟩
  · obtain rfl : c0 = .slice (some a) len cap' := by simpa using hcs
    obtain ⟨xs, h1, h2, _⟩ := open_intsAt h'
    exact ⟨_, _, _, xs, rfl, h1, h2⟩
set_option maxRecDepth 100000 in
theorem open_boxA {r : Reach} {b0 : Nat} {v : Value} {dt : DataW H} {ps : List MemPlace} (hval : Value.okWide Tryz.prog w r b0 66 v) (hd : DataW.Trod enc Tryz.prog w base spare held 66 v dt ps) :
    ∃ (A B : Option Addr) (n c m d : Nat) (l h : Nat → Int), v = BoxW A B n c m d ∧ IntsAt w A n l ∧ IntsAt w B m h := by
  obtain ⟨f0, f1, hu, t0, o0, t1, o1⟩ := box_fields
  obtain ⟨cs, rfl, hsz⟩ := okWide_struct hu hval
  have c2 : Tryz.prog.cellsOf 66 = 2 := by kernel_rfl
  have ci : Tryz.prog.cellsOf 35 = 1 := by kernel_rfl
  rw [c2] at hsz
  obtain ⟨fuel, hf⟩ := hd
  obtain ⟨l⟩ := cs
  match l, hsz with
  | [c0, c1], _ =>
    have hf' : DataW.trod enc Tryz.prog w base spare held fuel 66 [c0, c1] = some (dt, ps) := hf
    obtain ⟨xs, n, _, _, _, hlen, hfl⟩ := DataW.trod_struct hu hf'
    have l0 : 0 < xs.length := by rw [hlen]; simp
    have l1 : 1 < xs.length := by rw [hlen]; simp
    have q0 := hfl 0 f0 rfl
    have q1 := hfl 1 f1 rfl
    rw [t0, o0, ci, List.getElem?_eq_getElem l0] at q0
    rw [t1, o1, ci, List.getElem?_eq_getElem l1] at q1
    have q0' : DataW.trod enc Tryz.prog w base spare held n 35 [c0] = some xs[0] := by simpa using q0
    have q1' : DataW.trod enc Tryz.prog w base spare held n 35 [c1] = some xs[1] := by simpa using q1
    obtain ⟨A, n0, k0, x0, rfl, i0, _⟩ := open_ints1 q0'
    obtain ⟨B, n1, k1, x1, rfl, i1, _⟩ := open_ints1 q1'
    exact ⟨A, B, n0, k0, n1, k1, x0, x1, rfl, i0, i1⟩
end
end Go.Proofs.YtkckoanphciddaaGreatDoor
end

/- From the row's condition to the walk: a list of attributes. -/
section
namespace Go.Proofs.YtkckoanphciddaaGreatDoor
open Go Go.ChangeShapes Go.WideShapes Go.ChangeAt Go.RowKit

theorem attr_fields : ∃ f0 f1 : Field, Tryz.prog.underlying 45 = some (.struct #[f0, f1]) ∧ f0.type = 9 ∧ f0.offset = 0 ∧ f1.type = 3 ∧ f1.offset = 1 :=
  ⟨_, _, Tryz.underlying45, rfl, rfl, rfl, rfl⟩
section
variable {H : Type} {enc : TypeId × Value → H} {w : World} {base : Nat} {spare : Nat → Bool} {held : Bool}
theorem open_attr {fuel : Nat} {c0 c1 : Value} {x : DataW H × List MemPlace} (h : DataW.trod enc Tryz.prog w base spare held fuel 45 [c0, c1] = some x) :
    ∃ (s : ByteArray) (l : Int), c0 = .string s ∧ c1 = .int .i64 l ∧ s.size ≤ 9223372036854775807 ∧ IntKind.i64.wrap l = l := by
  obtain ⟨f0, f1, hu, t0, o0, t1, o1⟩ := attr_fields
  obtain ⟨xs, n, _, _, _, hlen, hf⟩ := DataW.trod_struct hu h
  have l0 : 0 < xs.length := by rw [hlen]; simp
  have l1 : 1 < xs.length := by rw [hlen]; simp
  have q0 := hf 0 f0 rfl
  have q1 := hf 1 f1 rfl
  have ci : Tryz.prog.cellsOf 3 = 1 := by kernel_rfl
  have cs : Tryz.prog.cellsOf 9 = 1 := by kernel_rfl
  rw [t0, o0, cs, List.getElem?_eq_getElem l0] at q0
  rw [t1, o1, ci, List.getElem?_eq_getElem l1] at q1
  obtain ⟨z0, e0, _, l9⟩ := DataW.trod_string Tryz.underlying9 q0
  obtain ⟨z1, e1, _, w1⟩ := DataW.trod_int Tryz.underlying3 q1
  exact ⟨z0, z1, by simpa using e0, by simpa using e1, l9, wf_w w1⟩

/-- The cells of a list of attributes. -/
theorem open_attrs {fuel : Nat} {A : Option Addr} {n cap : Nat} {x : DataW H × List MemPlace} (h : DataW.trod enc Tryz.prog w base spare held fuel 23 [.slice A n cap] = some x) :
    ∃ (nm : Nat → ByteArray) (ty : Nat → Int), AttrsAt w A n nm ty ∧ n ≤ 9223372036854775807 ∧ ∀ k, k < n → (nm k).size ≤ 9223372036854775807 ∧ IntKind.i64.wrap (ty k) = ty k := by
  have c3 : Tryz.prog.cellsOf 45 = 2 := by kernel_rfl
  rcases DataW.trod_slice Tryz.underlying23 h with ⟨h0, _⟩ | ⟨a, len, cap', elems, rest, m, _, hcs, _, hb, hl, hm, hlen, hel, hsp, hns⟩
  · obtain ⟨rfl, rfl, rfl⟩ : A = none ∧ n = 0 ∧ cap = 0 := by simpa using h0
    exact ⟨fun _ => ⟨#[]⟩, fun _ => 0, fun h9 => absurd h9 (by omega), by omega, fun _ h9 => absurd h9 (by omega)⟩
  · obtain ⟨rfl, rfl, rfl⟩ : A = some a ∧ n = len ∧ cap = cap' := by simpa using hcs
    have each : ∀ k, k < n → ∃ y : ByteArray × Int, w.cell? (a.add (k * 2)) = some (.string y.1) ∧ w.cell? ((a.add (k * 2)).add 1) = some (.int .i64 y.2) ∧ y.1.size ≤ 9223372036854775807 ∧ IntKind.i64.wrap y.2 = y.2 := by
      intro k hk
      have h1 := hel k hk
      have hk' : k < elems.length := by omega
      rw [c3, List.getElem?_eq_getElem hk', Option.bind_eq_some_iff] at h1
      obtain ⟨cs', hcs', hy⟩ := h1
      obtain ⟨_, hl2, hcell⟩ := World.cells?_some hcs'
      match cs', hl2 with
      | [c0, c1], _ =>
        obtain ⟨z0, z1, rfl, rfl, l9, w1⟩ := open_attr hy
        exact ⟨(z0, z1), by simpa [Addr.add] using hcell 0 (by omega), by simpa using hcell 1 (by omega), l9, w1⟩
    have pick : ∃ f : Nat → ByteArray × Int, ∀ k, k < n → w.cell? (a.add (k * 2)) = some (.string (f k).1) ∧ w.cell? ((a.add (k * 2)).add 1) = some (.int .i64 (f k).2) ∧ (f k).1.size ≤ 9223372036854775807 ∧ IntKind.i64.wrap (f k).2 = (f k).2 :=
      ⟨fun k => if hk : k < n then (each k hk).choose else (⟨#[]⟩, 0), fun k hk => by
        simp only [dif_pos hk]
        exact (each k hk).choose_spec⟩
    obtain ⟨f, hf⟩ := pick
    refine ⟨fun k => (f k).1, fun k => (f k).2, fun hn => ?_, ?_, fun k hk => (hf k hk).2.2⟩
    · obtain ⟨b, off, spot⟩ := a
      have hspot : spot = none := by simpa [Addr.add] using World.cell?_spot (hf 0 hn).1
      subst hspot
      refine ⟨b, off, rfl, ?_, fun k hk => ?_⟩
      · exact cell_lt (b := b) (o := off + 0 * 2) (by have := (hf 0 hn).1; rw [Go.WideShapes.add_plain] at this; exact this)
      · obtain ⟨q1, q2, _⟩ := hf k hk
        rw [Go.WideShapes.add_plain] at q1 q2
        rw [Go.WideShapes.add_plain] at q2
        exact ⟨q1, q2⟩
    · exact Nat.le_trans hl (Nat.le_trans hm (by decide))
set_option maxRecDepth 100000 in
theorem open_strA {r : Reach} {b0 : Nat} {v : Value} {dt : DataW H} {ps : List MemPlace} (hval : Value.okWide Tryz.prog w r b0 9 v) (hd : DataW.Trod enc Tryz.prog w base spare held 9 v dt ps) :
    ∃ s : ByteArray, v = .string s ∧ s.size ≤ 9223372036854775807 := by
  obtain ⟨s, rfl⟩ := okWide_string Tryz.underlying9 hval
  obtain ⟨fuel, hf⟩ := hd
  obtain ⟨s', e, _, hz⟩ := DataW.trod_string Tryz.underlying9 hf
  have e2 : s = s' := by simpa [Value.cells] using e
  exact ⟨s, rfl, by rw [e2]; exact hz⟩
end
end Go.Proofs.YtkckoanphciddaaGreatDoor
end

/- From the row's condition to the walk: cells, and arrays. -/
section
namespace Go.Proofs.YtkckoanphciddaaGreatDoor
open Go Go.ChangeShapes Go.WideShapes Go.ChangeAt Go.RowKit

/-- The cells of a slice, whatever their sizes. -/
def CelsAt (w : World) (A : Option Addr) (N : Nat) (ln vl : Nat → Nat) (x vk vn vd : Nat → Nat → Int) (vs : Nat → Nat → ByteArray) : Prop :=
  0 < N → ∃ b o, A = some ⟨b, o, none⟩ ∧ b < w.heap.size ∧ ∀ k, k < N → ∃ P c Q d, w.cell? ⟨b, o + k * 2, none⟩ = some (.slice P (ln k) c) ∧ w.cell? ⟨b, o + k * 2 + 1, none⟩ = some (.slice Q (vl k) d) ∧ IntsAt w P (ln k) (x k) ∧ ValsAt w Q (vl k) (vk k) (vn k) (vd k) (vs k)
theorem CelsAt.below {w w' : World} {A : Option Addr} {N : Nat} {ln vl : Nat → Nat} {x vk vn vd : Nat → Nat → Int} {vs : Nat → Nat → ByteArray} (h : CelsAt w A N ln vl x vk vn vd vs) (hb : Below w.heap.size w w') : CelsAt w' A N ln vl x vk vn vd vs := fun hn => by
  obtain ⟨b, o, h1, h2, h3⟩ := h hn
  refine ⟨b, o, h1, Nat.lt_of_lt_of_le h2 hb.size, fun k hk => ?_⟩
  obtain ⟨P, c, Q, d, a1, a2, a3, a4⟩ := h3 k hk
  exact ⟨P, c, Q, d, (hb.cell (p := ⟨b, o + k * 2, none⟩) h2).trans a1, (hb.cell (p := ⟨b, o + k * 2 + 1, none⟩) h2).trans a2, a3.below hb, a4.below hb⟩
theorem CelsAt.few {w : World} {A : Option Addr} {N : Nat} {ln vl : Nat → Nat} {x vk vn vd : Nat → Nat → Int} {vs : Nat → Nat → ByteArray} (h : CelsAt w A N ln vl x vk vn vd vs) (hl : ∀ k, k < N → ln k ≤ 1000) : CellsAt w A N ln vl x vk vn vd vs := fun hn => by
  obtain ⟨b, o, h1, h2, h3⟩ := h hn
  refine ⟨b, o, h1, h2, fun k hk => ?_⟩
  obtain ⟨P, c, Q, d, a1, a2, a3, a4⟩ := h3 k hk
  exact ⟨P, c, Q, d, a1, a2, a3, a4, hl k hk⟩
theorem CellsAt.cels {w : World} {A : Option Addr} {N : Nat} {ln vl : Nat → Nat} {x vk vn vd : Nat → Nat → Int} {vs : Nat → Nat → ByteArray} (h : CellsAt w A N ln vl x vk vn vd vs) : CelsAt w A N ln vl x vk vn vd vs := fun hn => by
  obtain ⟨b, o, h1, h2, h3⟩ := h hn
  refine ⟨b, o, h1, h2, fun k hk => ?_⟩
  obtain ⟨P, c, Q, d, a1, a2, a3, a4, _⟩ := h3 k hk
  exact ⟨P, c, Q, d, a1, a2, a3, a4⟩

theorem valF : ∃ f0 f1 f2 f3 : Field, Tryz.prog.underlying 40 = some (.struct #[f0, f1, f2, f3]) ∧ f0.type = 3 ∧ f0.offset = 0 ∧ f1.type = 2 ∧ f1.offset = 1 ∧ f2.type = 2 ∧ f2.offset = 2 ∧ f3.type = 9 ∧ f3.offset = 3 :=
  ⟨_, _, _, _, Tryz.underlying40, rfl, rfl, rfl, rfl, rfl, rfl, rfl, rfl⟩
theorem cellF : ∃ f0 f1 : Field, Tryz.prog.underlying 38 = some (.struct #[f0, f1]) ∧ f0.type = 35 ∧ f0.offset = 0 ∧ f1.type = 36 ∧ f1.offset = 1 :=
  ⟨_, _, Tryz.underlying38, rfl, rfl, rfl, rfl⟩
theorem arrF : ∃ f0 f1 f2 : Field, Tryz.prog.underlying 29 = some (.struct #[f0, f1, f2]) ∧ f0.type = 22 ∧ f0.offset = 0 ∧ f1.type = 23 ∧ f1.offset = 1 ∧ f2.type = 24 ∧ f2.offset = 2 :=
  ⟨_, _, _, Tryz.underlying29, rfl, rfl, rfl, rfl, rfl, rfl⟩
section
variable {H : Type} {enc : TypeId × Value → H} {w : World} {base : Nat} {spare : Nat → Bool} {held : Bool}
theorem open_valF {fuel : Nat} {c0 c1 c2 c3 : Value} {x : DataW H × List MemPlace} (h : DataW.trod enc Tryz.prog w base spare held fuel 40 [c0, c1, c2, c3] = some x) :
    ∃ (k n d : Int) (s : ByteArray), c0 = .int .i64 k ∧ c1 = .int .i64 n ∧ c2 = .int .i64 d ∧ c3 = .string s ∧ s.size ≤ 9223372036854775807 := by
  obtain ⟨f0, f1, f2, f3, hu, t0, o0, t1, o1, t2, o2, t3, o3⟩ := valF
  obtain ⟨xs, n, _, _, _, hlen, hf⟩ := DataW.trod_struct hu h
  have l0 : 0 < xs.length := by rw [hlen]; simp
  have l1 : 1 < xs.length := by rw [hlen]; simp
  have l2 : 2 < xs.length := by rw [hlen]; simp
  have l3 : 3 < xs.length := by rw [hlen]; simp
  have q0 := hf 0 f0 rfl
  have q1 := hf 1 f1 rfl
  have q2 := hf 2 f2 rfl
  have q3 := hf 3 f3 rfl
  have ci : Tryz.prog.cellsOf 3 = 1 := by kernel_rfl
  have c6 : Tryz.prog.cellsOf 2 = 1 := by kernel_rfl
  have cs : Tryz.prog.cellsOf 9 = 1 := by kernel_rfl
  rw [t0, o0, ci, List.getElem?_eq_getElem l0] at q0
  rw [t1, o1, c6, List.getElem?_eq_getElem l1] at q1
  rw [t2, o2, c6, List.getElem?_eq_getElem l2] at q2
  rw [t3, o3, cs, List.getElem?_eq_getElem l3] at q3
  obtain ⟨z0, e0, _, _⟩ := DataW.trod_int Tryz.underlying3 q0
  obtain ⟨z1, e1, _, _⟩ := DataW.trod_int Tryz.underlying2 q1
  obtain ⟨z2, e2, _, _⟩ := DataW.trod_int Tryz.underlying2 q2
  obtain ⟨z3, e3, _, l9⟩ := DataW.trod_string Tryz.underlying9 q3
  exact ⟨z0, z1, z2, z3, by simpa using e0, by simpa using e1, by simpa using e2, by simpa using e3, l9⟩
/-- What is known of a list of values. -/
def ValsF (w : World) (A : Option Addr) (n : Nat) (vk vn vd : Nat → Int) (vs : Nat → ByteArray) : Prop := ValsAt w A n vk vn vd vs ∧ n ≤ 9223372036854775807 ∧ ∀ k, k < n → (vs k).size ≤ 9223372036854775807
theorem open_valsF {fuel : Nat} {A : Option Addr} {n cap : Nat} {x : DataW H × List MemPlace} (h : DataW.trod enc Tryz.prog w base spare held fuel 36 [.slice A n cap] = some x) :
    ∃ (vk vn vd : Nat → Int) (vs : Nat → ByteArray), ValsF w A n vk vn vd vs := by
  have c4 : Tryz.prog.cellsOf 40 = 4 := by kernel_rfl
  rcases DataW.trod_slice Tryz.underlying36 h with ⟨h0, _⟩ | ⟨a, len, cap', elems, rest, m, _, hcs, _, hb, hl, hm, hlen, hel, hsp, hns⟩
  · obtain ⟨rfl, rfl, rfl⟩ : A = none ∧ n = 0 ∧ cap = 0 := by simpa using h0
    exact ⟨fun _ => 0, fun _ => 0, fun _ => 0, fun _ => ⟨#[]⟩, fun h9 => absurd h9 (by omega), by omega, fun _ h9 => absurd h9 (by omega)⟩
  · obtain ⟨rfl, rfl, rfl⟩ : A = some a ∧ n = len ∧ cap = cap' := by simpa using hcs
    have each : ∀ k, k < n → ∃ y : Int × Int × Int × ByteArray, w.cell? (a.add (k * 4)) = some (.int .i64 y.1) ∧ w.cell? ((a.add (k * 4)).add 1) = some (.int .i64 y.2.1) ∧ w.cell? ((a.add (k * 4)).add 2) = some (.int .i64 y.2.2.1) ∧ w.cell? ((a.add (k * 4)).add 3) = some (.string y.2.2.2) ∧ y.2.2.2.size ≤ 9223372036854775807 := by
      intro k hk
      have h1 := hel k hk
      have hk' : k < elems.length := by omega
      rw [c4, List.getElem?_eq_getElem hk', Option.bind_eq_some_iff] at h1
      obtain ⟨cs', hcs', hy⟩ := h1
      obtain ⟨_, hl2, hcell⟩ := World.cells?_some hcs'
      match cs', hl2 with
      | [c0, c1, c2, c3], _ =>
        obtain ⟨z0, z1, z2, z3, rfl, rfl, rfl, rfl, l9⟩ := open_valF hy
        exact ⟨(z0, z1, z2, z3), by simpa [Addr.add] using hcell 0 (by omega), by simpa using hcell 1 (by omega), by simpa using hcell 2 (by omega), by simpa using hcell 3 (by omega), l9⟩
    have pick : ∃ f : Nat → Int × Int × Int × ByteArray, ∀ k, k < n → w.cell? (a.add (k * 4)) = some (.int .i64 (f k).1) ∧ w.cell? ((a.add (k * 4)).add 1) = some (.int .i64 (f k).2.1) ∧ w.cell? ((a.add (k * 4)).add 2) = some (.int .i64 (f k).2.2.1) ∧ w.cell? ((a.add (k * 4)).add 3) = some (.string (f k).2.2.2) ∧ (f k).2.2.2.size ≤ 9223372036854775807 :=
      ⟨fun k => if hk : k < n then (each k hk).choose else (0, 0, 0, ⟨#[]⟩), fun k hk => by
        simp only [dif_pos hk]
        exact (each k hk).choose_spec⟩
    obtain ⟨f, hf⟩ := pick
    refine ⟨fun k => (f k).1, fun k => (f k).2.1, fun k => (f k).2.2.1, fun k => (f k).2.2.2, fun hn => ?_, Nat.le_trans hl (Nat.le_trans hm (by decide)), fun k hk => (hf k hk).2.2.2.2⟩
    obtain ⟨b, off, spot⟩ := a
    have hspot : spot = none := by simpa [Addr.add] using World.cell?_spot (hf 0 hn).1
    subst hspot
    refine ⟨b, off, rfl, ?_, fun k hk => ?_⟩
    · exact cell_lt (b := b) (o := off + 0 * 4) (by have := (hf 0 hn).1; rw [Go.WideShapes.add_plain] at this; exact this)
    · obtain ⟨q1, q2, q3, q4, _⟩ := hf k hk
      rw [Go.WideShapes.add_plain] at q1 q2 q3 q4
      rw [Go.WideShapes.add_plain] at q2 q3 q4
      exact ⟨q1, q2, q3, q4⟩
theorem open_vals1 {fuel : Nat} {c0 : Value} {x : DataW H × List MemPlace} (h : DataW.trod enc Tryz.prog w base spare held fuel 36 [c0] = some x) :
    ∃ (A : Option Addr) (n cap : Nat) (vk vn vd : Nat → Int) (vs : Nat → ByteArray), c0 = .slice A n cap ∧ ValsF w A n vk vn vd vs := by
  have h' := h
  rcases DataW.trod_slice Tryz.underlying36 h with ⟨h0, _⟩ | ⟨a, len, cap', elems, rest, m, _, hcs, _⟩
  · obtain rfl : c0 = .slice none 0 0 := by simpa using h0
    obtain ⟨vk, vn, vd, vs, h1⟩ := open_valsF h'
    exact ⟨_, _, _, vk, vn, vd, vs, rfl, h1⟩
  · obtain rfl : c0 = .slice (some a) len cap' := by simpa using hcs
    obtain ⟨vk, vn, vd, vs, h1⟩ := open_valsF h'
    exact ⟨_, _, _, vk, vn, vd, vs, rfl, h1⟩
/-- A cell's parts. -/
structure CelD where
  P : Option Addr
  ln : Nat
  c : Nat
  Q : Option Addr
  vl : Nat
  d : Nat
  x : Nat → Int
  vk : Nat → Int
  vn : Nat → Int
  vd : Nat → Int
  vs : Nat → ByteArray
theorem open_cell {fuel : Nat} {c0 c1 : Value} {y : DataW H × List MemPlace} (h : DataW.trod enc Tryz.prog w base spare held fuel 38 [c0, c1] = some y) :
    ∃ D : CelD, c0 = .slice D.P D.ln D.c ∧ c1 = .slice D.Q D.vl D.d ∧ IntsAt w D.P D.ln D.x ∧ ValsF w D.Q D.vl D.vk D.vn D.vd D.vs ∧ D.ln ≤ 9223372036854775807 := by
  obtain ⟨f0, f1, hu, t0, o0, t1, o1⟩ := cellF
  obtain ⟨xs, n, _, _, _, hlen, hf⟩ := DataW.trod_struct hu h
  have l0 : 0 < xs.length := by rw [hlen]; simp
  have l1 : 1 < xs.length := by rw [hlen]; simp
  have q0 := hf 0 f0 rfl
  have q1 := hf 1 f1 rfl
  have ci : Tryz.prog.cellsOf 35 = 1 := by kernel_rfl
  have cv : Tryz.prog.cellsOf 36 = 1 := by kernel_rfl
  rw [t0, o0, ci, List.getElem?_eq_getElem l0] at q0
  rw [t1, o1, cv, List.getElem?_eq_getElem l1] at q1
  have q0' : DataW.trod enc Tryz.prog w base spare held n 35 [c0] = some xs[0] := by simpa using q0
  have q1' : DataW.trod enc Tryz.prog w base spare held n 36 [c1] = some xs[1] := by simpa using q1
  obtain ⟨A, n0, k0, x0, rfl, i0, j0⟩ := open_ints1 q0'
  obtain ⟨B, n1, k1, vk, vn, vd, vs, rfl, i1⟩ := open_vals1 q1'
  exact ⟨⟨A, n0, k0, B, n1, k1, x0, vk, vn, vd, vs⟩, rfl, rfl, i0, i1, j0⟩
/-- What is known of a list of cells. -/
def CelsF (w : World) (A : Option Addr) (N : Nat) (ln vl : Nat → Nat) (x vk vn vd : Nat → Nat → Int) (vs : Nat → Nat → ByteArray) : Prop :=
  CelsAt w A N ln vl x vk vn vd vs ∧ N ≤ 9223372036854775807 ∧ ∀ k, k < N → ln k ≤ 9223372036854775807 ∧ vl k ≤ 9223372036854775807 ∧ ∀ j, j < vl k → (vs k j).size ≤ 9223372036854775807
theorem open_cells {fuel : Nat} {A : Option Addr} {n cap : Nat} {x : DataW H × List MemPlace} (h : DataW.trod enc Tryz.prog w base spare held fuel 24 [.slice A n cap] = some x) :
    ∃ (ln vl : Nat → Nat) (x vk vn vd : Nat → Nat → Int) (vs : Nat → Nat → ByteArray), CelsF w A n ln vl x vk vn vd vs := by
  have c2 : Tryz.prog.cellsOf 38 = 2 := by kernel_rfl
  rcases DataW.trod_slice Tryz.underlying24 h with ⟨h0, _⟩ | ⟨a, len, cap', elems, rest, m, _, hcs, _, hb, hl, hm, hlen, hel, hsp, hns⟩
  · obtain ⟨rfl, rfl, rfl⟩ : A = none ∧ n = 0 ∧ cap = 0 := by simpa using h0
    exact ⟨fun _ => 0, fun _ => 0, fun _ _ => 0, fun _ _ => 0, fun _ _ => 0, fun _ _ => 0, fun _ _ => ⟨#[]⟩, fun h9 => absurd h9 (by omega), by omega, fun _ h9 => absurd h9 (by omega)⟩
  · obtain ⟨rfl, rfl, rfl⟩ : A = some a ∧ n = len ∧ cap = cap' := by simpa using hcs
    have each : ∀ k, k < n → ∃ D : CelD, w.cell? (a.add (k * 2)) = some (.slice D.P D.ln D.c) ∧ w.cell? ((a.add (k * 2)).add 1) = some (.slice D.Q D.vl D.d) ∧ IntsAt w D.P D.ln D.x ∧ ValsF w D.Q D.vl D.vk D.vn D.vd D.vs ∧ D.ln ≤ 9223372036854775807 := by
      intro k hk
      have h1 := hel k hk
      have hk' : k < elems.length := by omega
      rw [c2, List.getElem?_eq_getElem hk', Option.bind_eq_some_iff] at h1
      obtain ⟨cs', hcs', hy⟩ := h1
      obtain ⟨_, hl2, hcell⟩ := World.cells?_some hcs'
      match cs', hl2 with
      | [c0, c1], _ =>
        obtain ⟨D, rfl, rfl, i0, i1, i2⟩ := open_cell hy
        exact ⟨D, by simpa [Addr.add] using hcell 0 (by omega), by simpa using hcell 1 (by omega), i0, i1, i2⟩
    have pick : ∃ f : Nat → CelD, ∀ k, k < n → w.cell? (a.add (k * 2)) = some (.slice (f k).P (f k).ln (f k).c) ∧ w.cell? ((a.add (k * 2)).add 1) = some (.slice (f k).Q (f k).vl (f k).d) ∧ IntsAt w (f k).P (f k).ln (f k).x ∧ ValsF w (f k).Q (f k).vl (f k).vk (f k).vn (f k).vd (f k).vs ∧ (f k).ln ≤ 9223372036854775807 :=
      ⟨fun k => if hk : k < n then (each k hk).choose else ⟨none, 0, 0, none, 0, 0, fun _ => 0, fun _ => 0, fun _ => 0, fun _ => 0, fun _ => ⟨#[]⟩⟩, fun k hk => by
        simp only [dif_pos hk]
        exact (each k hk).choose_spec⟩
    obtain ⟨f, hf⟩ := pick
    refine ⟨fun k => (f k).ln, fun k => (f k).vl, fun k => (f k).x, fun k => (f k).vk, fun k => (f k).vn, fun k => (f k).vd, fun k => (f k).vs, fun hn => ?_, Nat.le_trans hl (Nat.le_trans hm (by decide)), fun k hk => ⟨(hf k hk).2.2.2.2, (hf k hk).2.2.2.1.2.1, (hf k hk).2.2.2.1.2.2⟩⟩
    obtain ⟨b, off, spot⟩ := a
    have hspot : spot = none := by simpa [Addr.add] using World.cell?_spot (hf 0 hn).1
    subst hspot
    refine ⟨b, off, rfl, ?_, fun k hk => ?_⟩
    · exact cell_lt (b := b) (o := off + 0 * 2) (by have := (hf 0 hn).1; rw [Go.WideShapes.add_plain] at this; exact this)
    · obtain ⟨q1, q2, q3, q4, _⟩ := hf k hk
      rw [Go.WideShapes.add_plain] at q1 q2
      rw [Go.WideShapes.add_plain] at q2
      exact ⟨_, _, _, _, q1, q2, q3, q4.1⟩
theorem open_slice1 {fuel : Nat} {t e : TypeId} {c0 : Value} {x : DataW H × List MemPlace} (hu : Tryz.prog.underlying t = some (.slice e)) (h : DataW.trod enc Tryz.prog w base spare held fuel t [c0] = some x) : ∃ (A : Option Addr) (n cap : Nat), c0 = .slice A n cap := by
  rcases DataW.trod_slice hu h with ⟨h0, _⟩ | ⟨a, len, cap', elems, rest, m, _, hcs, _⟩
  · exact ⟨_, _, _, by simpa using h0⟩
  · exact ⟨_, _, _, by simpa using hcs⟩
/-- What is known of an array. -/
structure ArrF (w : World) (A : Option Addr) (n : Nat) (B : Option Addr) (m : Nat) (C : Option Addr) (N : Nat) (nm : Nat → ByteArray) (lo hi : Nat → Int) (an : Nat → ByteArray) (ty : Nat → Int) (ln vl : Nat → Nat) (x vk vn vd : Nat → Nat → Int) (vs : Nat → Nat → ByteArray) : Prop where
  dims : DimsAt w A n nm lo hi
  attrs : AttrsAt w B m an ty
  cells : CelsAt w C N ln vl x vk vn vd vs
  nmS : ∀ k, k < n → (nm k).size ≤ 9223372036854775807
  anS : ∀ k, k < m → (an k).size ≤ 9223372036854775807
  cS : ∀ k, k < N → ln k ≤ 9223372036854775807 ∧ vl k ≤ 9223372036854775807 ∧ ∀ j, j < vl k → (vs k j).size ≤ 9223372036854775807
  nL : n ≤ 9223372036854775807
  mL : m ≤ 9223372036854775807
  NL : N ≤ 9223372036854775807
theorem ArrF.below {w w' : World} {A : Option Addr} {n : Nat} {B : Option Addr} {m : Nat} {C : Option Addr} {N : Nat} {nm : Nat → ByteArray} {lo hi : Nat → Int} {an : Nat → ByteArray} {ty : Nat → Int} {ln vl : Nat → Nat} {x vk vn vd : Nat → Nat → Int} {vs : Nat → Nat → ByteArray}
    (h : ArrF w A n B m C N nm lo hi an ty ln vl x vk vn vd vs) (hb : Below w.heap.size w w') : ArrF w' A n B m C N nm lo hi an ty ln vl x vk vn vd vs :=
  ⟨h.dims.below hb, h.attrs.below hb, h.cells.below hb, h.nmS, h.anS, h.cS, h.nL, h.mL, h.NL⟩
theorem open_arr {fuel : Nat} {c0 c1 c2 : Value} {y : DataW H × List MemPlace} (h : DataW.trod enc Tryz.prog w base spare held fuel 29 [c0, c1, c2] = some y) :
    ∃ (A : Option Addr) (n cap : Nat) (B : Option Addr) (m bcap : Nat) (C : Option Addr) (N ccap : Nat) (nm : Nat → ByteArray) (lo hi : Nat → Int) (an : Nat → ByteArray) (ty : Nat → Int) (ln vl : Nat → Nat) (x vk vn vd : Nat → Nat → Int) (vs : Nat → Nat → ByteArray), c0 = .slice A n cap ∧ c1 = .slice B m bcap ∧ c2 = .slice C N ccap ∧ ArrF w A n B m C N nm lo hi an ty ln vl x vk vn vd vs := by
  obtain ⟨f0, f1, f2, hu, t0, o0, t1, o1, t2, o2⟩ := arrF
  obtain ⟨xs, n9, _, _, _, hlen, hf⟩ := DataW.trod_struct hu h
  have l0 : 0 < xs.length := by rw [hlen]; simp
  have l1 : 1 < xs.length := by rw [hlen]; simp
  have l2 : 2 < xs.length := by rw [hlen]; simp
  have q0 := hf 0 f0 rfl
  have q1 := hf 1 f1 rfl
  have q2 := hf 2 f2 rfl
  have ci : Tryz.prog.cellsOf 22 = 1 := by kernel_rfl
  have cv : Tryz.prog.cellsOf 23 = 1 := by kernel_rfl
  have cc : Tryz.prog.cellsOf 24 = 1 := by kernel_rfl
  rw [t0, o0, ci, List.getElem?_eq_getElem l0] at q0
  rw [t1, o1, cv, List.getElem?_eq_getElem l1] at q1
  rw [t2, o2, cc, List.getElem?_eq_getElem l2] at q2
  have q0' : DataW.trod enc Tryz.prog w base spare held n9 22 [c0] = some xs[0] := by simpa using q0
  have q1' : DataW.trod enc Tryz.prog w base spare held n9 23 [c1] = some xs[1] := by simpa using q1
  have q2' : DataW.trod enc Tryz.prog w base spare held n9 24 [c2] = some xs[2] := by simpa using q2
  obtain ⟨A, n, cap, rfl⟩ := open_slice1 Tryz.underlying22 q0'
  obtain ⟨B, m, bcap, rfl⟩ := open_slice1 Tryz.underlying23 q1'
  obtain ⟨C, N, ccap, rfl⟩ := open_slice1 Tryz.underlying24 q2'
  obtain ⟨nm, lo, hi, d1, d2, d3⟩ := open_dims q0'
  obtain ⟨an, ty, a1, a2, a3⟩ := open_attrs q1'
  obtain ⟨ln, vl, x, vk, vn, vd, vs, e1, e2, e3⟩ := open_cells q2'
  exact ⟨A, n, cap, B, m, bcap, C, N, ccap, nm, lo, hi, an, ty, ln, vl, x, vk, vn, vd, vs, rfl, rfl, rfl, d1, a1, e1, fun k hk => (d3 k hk).1, fun k hk => (a3 k hk).1, e3, d2, a2, e2⟩
set_option maxRecDepth 100000 in
theorem open_arrA {r : Reach} {b0 : Nat} {v : Value} {dt : DataW H} {ps : List MemPlace} (hval : Value.okWide Tryz.prog w r b0 29 v) (hd : DataW.Trod enc Tryz.prog w base spare held 29 v dt ps) :
    ∃ (A : Option Addr) (n cap : Nat) (B : Option Addr) (m bcap : Nat) (C : Option Addr) (N ccap : Nat) (nm : Nat → ByteArray) (lo hi : Nat → Int) (an : Nat → ByteArray) (ty : Nat → Int) (ln vl : Nat → Nat) (x vk vn vd : Nat → Nat → Int) (vs : Nat → Nat → ByteArray), v = ArrV A n cap B m bcap C N ccap ∧ ArrF w A n B m C N nm lo hi an ty ln vl x vk vn vd vs := by
  obtain ⟨f0, f1, f2, hu, _⟩ := arrF
  obtain ⟨cs, rfl, hsz⟩ := okWide_struct hu hval
  have c3 : Tryz.prog.cellsOf 29 = 3 := by kernel_rfl
  rw [c3] at hsz
  obtain ⟨fuel, hf⟩ := hd
  obtain ⟨l⟩ := cs
  match l, hsz with
  | [c0, c1, c2], _ =>
    have hf' : DataW.trod enc Tryz.prog w base spare held fuel 29 [c0, c1, c2] = some (dt, ps) := hf
    obtain ⟨A, n, cap, B, m, bcap, C, N, ccap, nm, lo, hi, an, ty, ln, vl, x, vk, vn, vd, vs, rfl, rfl, rfl, h9⟩ := open_arr hf'
    exact ⟨A, n, cap, B, m, bcap, C, N, ccap, nm, lo, hi, an, ty, ln, vl, x, vk, vn, vd, vs, rfl, h9⟩
end
end Go.Proofs.YtkckoanphciddaaGreatDoor
end

/- The reference's names and bounds. -/
section
namespace Go.Proofs.YtkckoanphciddaaGreatDoor
open Go Go.RowKit Go.Deep

theorem ret_b {a b : Bool} (h : a = b) : Ending.returned (.bool a) = .returned (.bool b) := by rw [h]
set_option maxHeartbeats 400000 in
theorem r_letter (c : Int) (w : World) : Calls Tryz.prog 139 #[.int .u8 c] w fun e w' => e = .returned (.bool (letB c)) ∧ w = w' := by
  by_cases h : 97 ≤ c
  · have e1 : letB c = decide (c ≤ 122) := by simp [letB, h]
    rw [e1]
    go_enter Tryz.func139, Tryz.ntmps139
    go_wp2
    go_ret
    exact ⟨rfl, rfl⟩
  · have e1 : letB c = false := by simp [letB, h]
    rw [e1]
    go_enter Tryz.func139, Tryz.ntmps139
    go_wp2
    go_ret
    exact ⟨rfl, rfl⟩
set_option maxHeartbeats 1000000 in
theorem r_further (c : Int) (w : World) : Calls Tryz.prog 140 #[.int .u8 c] w fun e w' => e = .returned (.bool (chrB c)) ∧ w = w' := by
  have HL := Lib.hid r_letter
  have HX : Hid (chrB c = (letB c || ((decide (48 ≤ c) && decide (c ≤ 57)) || c == 95))) := rfl
  go_enter Tryz.func140, Tryz.ntmps140
  go_wp2_with fail
  refine (HL.out _ _).mono ?_
  rintro e w1 ⟨rfl, rfl⟩
  generalize letB c = L at *
  cases L
  · by_cases g1 : 48 ≤ c
    · by_cases g2 : c ≤ 57
      · rw [decide_eq_true g1, decide_eq_true g2] at HX
        go_wp2
        go_ret
        exact ⟨ret_b (by rw [HX.out]; rfl), rfl⟩
      · rw [decide_eq_true g1] at HX
        go_wp2
        go_ret
        exact ⟨ret_b (by rw [HX.out]; rfl), rfl⟩
    · rw [decide_eq_false g1] at HX
      go_wp2
      go_ret
      exact ⟨ret_b (by rw [HX.out]; rfl), rfl⟩
  · go_wp2
    go_ret
    exact ⟨ret_b (by rw [HX.out]; simp), rfl⟩

set_option maxRecDepth 100000 in
set_option maxHeartbeats 2000000 in
theorem r_Name (s : ByteArray) (w : World) (hs : s.size ≤ 9223372036854775807) : Calls Tryz.prog 103 #[.string s] w fun e w' => e = .returned (.bool (nameB s)) ∧ w = w' := by
  have HL := Lib.hid r_letter
  have HF := Lib.hid r_further
  by_cases h0 : s.size = 0
  · have e1 : nameB s = false := by simp [nameB, h0]
    have h0' : (s.size : Int) < 1 := by omega
    rw [e1]
    clear e1
    go_enter Tryz.func103, Tryz.ntmps103
    go_wp2
    go_ret
    exact ⟨rfl, rfl⟩
  · have h0' : ¬ (s.size : Int) < 1 := by omega
    by_cases h1 : s.size ≤ 12
    · have hp : 0 < s.size := by omega
      have h1' : ¬ (s.size : Int) > 12 := by omega
      have HB := Lib.hid (byt_eq s 0 hp)
      have HN : Hid (nameB s = (letB (byt s 0) && nameTo s s.size)) := by show _ = _; simp [nameB, hp, h1]
      have HS := Lib.hid h1
      rw [HN.out]
      clear h0 h1
      go_enter Tryz.func103, Tryz.ntmps103
      go_wp2_with fail
      refine (HL.out _ _).mono ?_
      rintro e w1 ⟨rfl, rfl⟩
      rw [← HB.out]
      generalize hL : letB (byt s 0) = L
      have HLv := Lib.hid hL
      clear hL
      cases L
      · go_wp2
        go_ret
        exact ⟨ret_b (by rw [HLv.out]; rfl), rfl⟩
      · go_wp2
        go_loop [3] (fun i => ∃ k : Nat, k ≤ s.size ∧ i = .int .i64 k ∧ Hid (nameTo s k = true)) (fun i => s.size - (intOf i).toNat)
        case atStart => exact ⟨0, Nat.zero_le _, rfl, rfl⟩
        case round =>
          obtain ⟨k, hk, rfl, HK⟩ := hrel
          by_cases hlt : k < s.size
          · have HBk := Lib.hid (byt_eq s k hlt)
            have HC : Hid (chrB (s[k].toNat : Int) = true → nameTo s (k + 1) = true) := fun h => by rw [nameTo_succ, HK.out, HBk.out, h]; rfl
            have HE : Hid (chrB (s[k].toNat : Int) = false → nameTo s s.size = false) := fun h => nameTo_le (k := k + 1) (by rw [nameTo_succ, HBk.out, h, Bool.and_false]) (by omega)
            go_wp2_with fail
            refine (HF.out _ _).mono ?_
            rintro e w1 ⟨rfl, rfl⟩
            generalize chrB (s[k].toNat : Int) = L at *
            cases L
            · have HR := Lib.hid (HE.out rfl)
              go_wp2
              go_ret
              exact ⟨ret_b (by rw [HLv.out, HR.out]; rfl), rfl⟩
            · have HR := Lib.hid (HC.out rfl)
              go_wp2
              go_round
              case rel => exact ⟨k + 1, by omega, by go_num, HR.out⟩
              case measure => simp [intOf]; omega
          · obtain rfl : k = s.size := by omega
            go_wp2
            go_ret
            exact ⟨ret_b (by rw [HLv.out, HK.out]; rfl), rfl⟩
    · have e1 : nameB s = false := by simp [nameB, h1]
      have h1' : (s.size : Int) > 12 := by omega
      rw [e1]
      clear e1
      go_enter Tryz.func103, Tryz.ntmps103
      go_wp2
      go_ret
      exact ⟨rfl, rfl⟩

def boundB (lo hi : Int) : Bool := if lo < -1073741824 ∨ lo > 1073741824 ∨ hi < lo ∨ hi > 1073741825 then false else true
set_option maxHeartbeats 2000000 in
theorem r_bounds (s : ByteArray) (lo hi : Int) (w : World) : Calls Tryz.prog 121 #[DimV s lo hi] w fun e w' => e = .returned (.bool (boundB lo hi)) ∧ Below w.heap.size w w' := by
  have HX : Hid (boundB lo hi = if lo < -1073741824 ∨ lo > 1073741824 ∨ hi < lo ∨ hi > 1073741825 then false else true) := rfl
  have hb : Below w.heap.size w (w.alloc (.cells #[.string s, .int .i64 lo, .int .i64 hi] 43)) := (Below.refl _ _).alloc (Nat.le_refl _) _
  go_enter Tryz.func121, Tryz.ntmps121
  by_cases g1 : lo < -1073741824
  · have g1' : ¬ lo ≥ -1073741824 := by omega
    go_wp2
    go_ret
    exact ⟨ret_b (by rw [HX.out, if_pos (by omega)]), hb⟩
  · have g1' : lo ≥ -1073741824 := by omega
    by_cases g2 : lo > 1073741824
    · have g2' : ¬ lo ≤ 1073741824 := by omega
      go_wp2
      go_ret
      exact ⟨ret_b (by rw [HX.out, if_pos (by omega)]), hb⟩
    · have g2' : lo ≤ 1073741824 := by omega
      by_cases g3 : hi < lo
      · have g3' : ¬ hi ≥ lo := by omega
        go_wp2
        go_ret
        exact ⟨ret_b (by rw [HX.out, if_pos (by omega)]), hb⟩
      · have g3' : hi ≥ lo := by omega
        by_cases g4 : hi > 1073741825
        · have g4' : ¬ hi ≤ 1073741825 := by omega
          go_wp2
          go_ret
          exact ⟨ret_b (by rw [HX.out, if_pos (by omega)]), hb⟩
        · have g4' : hi ≤ 1073741825 := by omega
          go_wp2
          go_ret
          exact ⟨ret_b (by rw [HX.out, if_neg (by omega)]), hb⟩
set_option maxRecDepth 100000 in
set_option maxHeartbeats 1000000 in
theorem r_Last (s : ByteArray) (lo hi : Int) (w : World) : Calls Tryz.prog 82 #[DimV s lo hi] w fun e w' => e = .returned (.int .i64 (lastZ hi)) ∧ Below w.heap.size w w' := by
  by_cases h : hi ≤ 1073741824
  · have e1 : lastZ hi = hi := if_pos h
    rw [e1]
    go_enter Tryz.func82, Tryz.ntmps82
    go_wp2
    go_ret
    refine ⟨?_, (Below.refl _ _).alloc (Nat.le_refl _) _⟩
    first
    | rfl
    | (show Ending.returned (.int .i64 (min hi 1073741824)) = _; rw [Int.min_eq_left h])
  · have e1 : lastZ hi = 1073741824 := if_neg h
    rw [e1]
    go_enter Tryz.func82, Tryz.ntmps82
    go_wp2
    go_ret
    refine ⟨?_, (Below.refl _ _).alloc (Nat.le_refl _) _⟩
    first
    | rfl
    | (show Ending.returned (.int .i64 (min hi 1073741824)) = _; rw [Int.min_eq_right (by omega)])
end Go.Proofs.YtkckoanphciddaaGreatDoor
end

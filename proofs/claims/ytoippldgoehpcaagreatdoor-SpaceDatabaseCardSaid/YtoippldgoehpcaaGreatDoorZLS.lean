/- What every row of this layer shares: from a contract of the law's walk, which knows the laid variables and the world's shape, to the row. -/
import Derived.Test.YtoippldgoehpcaaGreatDoorRows
import Derived.ProofKit
import Derived.OpenShut
import Derived.LaidMore
import Derived.Lay
import Derived.Stop.Joined
import Derived.HandedShaped
import Derived.Carry
import Derived.Shelf.Vars
import Derived.Test.YtoippldgoehpcaaGreatDoorZPrtG
import Derived.Stop.LaidErr
import Derived.Lib.LaidTab
import Derived.Test.YtoippldgoehpcaaGreatDoorZSpE
import Derived.Test.YtoippldgoehpcaaGreatDoorZPrt2
import Derived.ChangeArms
import Derived.ChangeSlices
import Derived.Test.YtoippldgoehpcaaGreatDoorZSch
import Derived.Test.YtoippldgoehpcaaGreatDoorZCmpS

/- What every row of this layer shares: from a contract of the law's walk, which knows the laid variables and the world's shape, to the row. -/
section
namespace Go.Proofs.YtoippldgoehpcaaGreatDoor
open Go.ChangeShapes Go.WideShapes Go.ChangeAt Go.RowKit

theorem own : ownKnob Tryz.prog.godebug = none := by kernel_rfl
theorem laidOut' : laidOutB Tryz.prog = true := by kernel_rfl

/-- The builder for a row that lists variables, with the world's shape handed on to the walk. -/
theorem handed_laid_shaped {H : Type} {enc : TypeId × Value → H} {C : Checked} {os : Os} {f : FuncId} {fn : Func} {s : ChangeSpec} {apart fresh handsOn again : Bool} {X : World → Array Value → Prop}
    (hX : ∀ (w w' : World) (args : Array Value), w.heap = w'.heap → X w args → X w' args)
    (ownk : ownKnob C.prog.godebug = none) (started : os.Started) (noInit : C.prog.inits.idxOf? f = none) (hfn : C.prog.funcs[f]? = some fn)
    (witness : ∃ (w : World) (tape : Tape) (i : Input), w.os = os ∧ (w.forCall tape i).Shaped C.prog ∧ i.vars = [] ∧ Input.okWide C.prog (w.forCall tape i) .any w.heap.size f i ∧
      ((s.pre enc C.prog fn [] apart (w.forCall tape i).memory i.args ∧ X (w.forCall tape i).memory i.args) ∧ sizedMet enc C.prog fn (OpenSpec.ofChange s) apart (w.forCall tape i).memory i.args) ∧ Assume.holds {} C.prog (lone (Frame.enter C.prog f i.args .normal) [] (w.forCall tape i)))
    (walk : ∀ (W : World) (base : Nat) (args : Array Value) (ds gs : List (DataW H)) (before : List MemPlace),
      (∀ (j : Nat) t v, fn.params[j]? = some t → args[j]? = some v → Value.okWide C.prog W .any base t v) →
      DataW.Whole enc C.prog fn.params.toList s.vars apart W args.toList ds gs before → X W args → W.ShapedOpen C.prog →
      Calls C.prog f args W fun e W' => ∃ v, e = .returned v ∧ s.post enc C.prog fn apart fresh handsOn again W args v W') :
    ReturnsInHanded {} C os f .any (fun w args => (s.pre enc C.prog fn [] apart w args ∧ X w args) ∧ sizedMet enc C.prog fn (OpenSpec.ofChange s) apart w args) (s.post enc C.prog fn apart fresh handsOn again) := by
  refine returnsInHanded_of_calls ownk started noInit witness ?_
  intro w tape i _ shape _ okin given _
  obtain ⟨_, _, _, g, hg, _, _, _, _, vals⟩ := okin
  obtain rfl : g = fn := Option.some.inj (hg.symm.trans hfn)
  obtain ⟨⟨⟨ds, gs, before, whole, _⟩, hx⟩, _⟩ := given
  have whole' := DataW.Whole.of_heap (w' := w.forCall tape i) (by rfl) whole
  refine (walk (w.forCall tape i) w.heap.size i.args ds gs before vals whole' (hX _ _ _ (by rfl) hx) shape).mono ?_
  rintro e W' ⟨v, rfl, hp⟩
  exact ChangeSpec.post_blind hp

/-- A cell that holds something lies in a block that is there. -/
theorem cell_lt {w : World} {b o : Nat} {v : Value} (h : w.cell? ⟨b, o, none⟩ = some v) : b < w.heap.size := by
  by_cases hb : b < w.heap.size
  · exact hb
  · have : w.heap[b]? = none := Array.getElem?_eq_none (by omega)
    simp [World.cell?, this] at h

/-- What the world's shape says of the one variable of the library's that the walks read: it holds some integer. -/
theorem maxLen_cell {W : World} (h : W.ShapedOpen Tryz.prog) : ∃ m, W.cell? ⟨6, 0, none⟩ = some (.int .i64 m) :=
  cell_of_shapedOpen_int (g := 6) (t := 3) (zero := #[.int .i64 0]) h (of_decide_eq_true (by kernel_rfl)) (by kernel_rfl) rfl (by kernel_rfl) (by kernel_rfl) Tryz.underlying3
end Go.Proofs.YtoippldgoehpcaaGreatDoor
end

/- From the row's condition to the walk: the table of powers of ten. -/
section
namespace Go.Proofs.YtoippldgoehpcaaGreatDoor
open Go.ChangeShapes Go.WideShapes Go.ChangeAt Go.RowKit

/-- The table that every row of this layer lists third. -/
theorem tab_of {W : World} {x y : String × DataW Unit} {r : List (String × DataW Unit)} (h : laidMet Tryz.prog (x :: y :: ("internal/strconv.uint64pow10", Rows.laid_internal_strconv_uint64pow10) :: r) W) : Tab W :=
  have h' : laidMet Tryz.prog (("internal/strconv.uint64pow10", Lib.tabData .u64 Lib.pow10Tab) :: r) W := h.tail.tail
  Lib.tabIs_of_head (g := 1) (t := 267) (e := 146) (n := 20) (by kernel_rfl) (by kernel_rfl) (by kernel_rfl) (by kernel_rfl) (by kernel_rfl) (by kernel_rfl) h'
end Go.Proofs.YtoippldgoehpcaaGreatDoor
end

/- From the row's condition to the walk: dimensions, lists of integers, the names of types. -/
section
namespace Go.Proofs.YtoippldgoehpcaaGreatDoor
open Go Go.ChangeShapes Go.WideShapes Go.ChangeAt Go.RowKit

theorem tyTab_of {W : World} {x y z u : String × DataW Unit} {r : List (String × DataW Unit)} (h : laidMet Tryz.prog (x :: y :: z :: u :: ("tesseract/space.typeNames", Rows.laid_tesseract_space_typeNames) :: r) W) : TyTab W := by
  obtain ⟨ps, ⟨g', t', cs, fuel, p, q, hg', ht', hvar, hd, _, _⟩, _⟩ := h.tail.tail.tail.tail
  obtain rfl := Option.some.inj ((show Tryz.prog.globalNamed "tesseract/space.typeNames" = some 0 by kernel_rfl).symm.trans hg')
  obtain rfl := Option.some.inj ((show (Tryz.prog.globals[0]?).map (·.type) = some 170 by kernel_rfl).symm.trans ht')
  have cs1 : Tryz.prog.cellsOf 9 = 1 := by kernel_rfl
  obtain ⟨xs, m, _, hx, _, hlen, hel⟩ := DataW.trod_array Tryz.underlying170 hd
  have hxs : xs.map (·.1) = [.lit (.string []), .lit (.string [98, 111, 111, 108]), .lit (.string [105, 110, 116]), .lit (.string [114, 97, 116]), .lit (.string [116, 101, 120, 116])] := by
    have := congrArg Prod.fst hx
    simpa [Rows.laid_tesseract_space_typeNames] using this.symm
  have key : ∀ (i : Nat) (l : List UInt8), i < 5 → (xs.map (·.1))[i]? = some (.lit (.string l)) → ∃ s : ByteArray, s.data.toList = l ∧ W.cell? ⟨0, i, none⟩ = some (.string s) := by
    intro i l hi hl
    have h1 := hel i hi
    rw [cs1, Nat.mul_one, List.getElem?_eq_getElem (by omega)] at h1
    obtain ⟨s, hc, hy, _⟩ := DataW.trod_string Tryz.underlying9 h1
    rw [List.getElem?_map, List.getElem?_eq_getElem (by omega), hy] at hl
    refine ⟨s, by simpa using hl, ?_⟩
    have h2 : cs[i]? = some (.string s) := by
      have := congrArg (·[0]?) hc
      simpa [List.getElem?_take, List.getElem?_drop] using this
    have h3 := World.var?_cell (by kernel_rfl : Tryz.prog.globalNamed "tesseract/space.typeNames" = some 0) hvar i
    rw [h3, h2]
  have str : ∀ (s t : ByteArray), s.data.toList = t.data.toList → s = t := fun s t h => by
    obtain ⟨⟨a⟩⟩ := s
    obtain ⟨⟨b⟩⟩ := t
    simp only at h
    rw [h]
  intro t h1 h2
  rcases (by omega : t = 1 ∨ t = 2 ∨ t = 3 ∨ t = 4) with rfl | rfl | rfl | rfl
  · obtain ⟨s, e1, e2⟩ := key 1 _ (by omega) (by rw [hxs]; rfl)
    rw [e2, str s (tyN 1) (by rw [e1]; rfl)]
  · obtain ⟨s, e1, e2⟩ := key 2 _ (by omega) (by rw [hxs]; rfl)
    rw [e2, str s (tyN 2) (by rw [e1]; rfl)]
  · obtain ⟨s, e1, e2⟩ := key 3 _ (by omega) (by rw [hxs]; rfl)
    rw [e2, str s (tyN 3) (by rw [e1]; rfl)]
  · obtain ⟨s, e1, e2⟩ := key 4 _ (by omega) (by rw [hxs]; rfl)
    rw [e2, str s (tyN 4) (by rw [e1]; rfl)]

theorem wf_w {z : Int} (h : (Lit.int .i64 z).wf = true) : IntKind.i64.wrap z = z := by
  have := bounds_i64 h
  rw [IntKind.wrap_i64]; omega
theorem dim_fields : ∃ f0 f1 f2 : Field, Tryz.prog.underlying 46 = some (.struct #[f0, f1, f2]) ∧ f0.type = 9 ∧ f0.offset = 0 ∧ f1.type = 3 ∧ f1.offset = 1 ∧ f2.type = 3 ∧ f2.offset = 2 :=
  ⟨_, _, _, Tryz.underlying46, rfl, rfl, rfl, rfl, rfl, rfl⟩
section
variable {H : Type} {enc : TypeId × Value → H} {w : World} {base : Nat} {spare : Nat → Bool} {held : Bool}
theorem open_dim {fuel : Nat} {c0 c1 c2 : Value} {x : DataW H × List MemPlace} (h : DataW.trod enc Tryz.prog w base spare held fuel 46 [c0, c1, c2] = some x) :
    ∃ (s : ByteArray) (l u : Int), c0 = .string s ∧ c1 = .int .i64 l ∧ c2 = .int .i64 u ∧ s.size ≤ 9223372036854775807 ∧ IntKind.i64.wrap l = l ∧ IntKind.i64.wrap u = u := by
  obtain ⟨f0, f1, f2, hu, t0, o0, t1, o1, t2, o2⟩ := dim_fields
  obtain ⟨xs, n, _, _, _, hlen, hf⟩ := DataW.trod_struct hu h
  have l0 : 0 < xs.length := by rw [hlen]; simp
  have l1 : 1 < xs.length := by rw [hlen]; simp
  have l2 : 2 < xs.length := by rw [hlen]; simp
  have q0 := hf 0 f0 rfl
  have q1 := hf 1 f1 rfl
  have q2 := hf 2 f2 rfl
  have ci : Tryz.prog.cellsOf 3 = 1 := by kernel_rfl
  have cs : Tryz.prog.cellsOf 9 = 1 := by kernel_rfl
  rw [t0, o0, cs, List.getElem?_eq_getElem l0] at q0
  rw [t1, o1, ci, List.getElem?_eq_getElem l1] at q1
  rw [t2, o2, ci, List.getElem?_eq_getElem l2] at q2
  obtain ⟨z0, e0, _, l9⟩ := DataW.trod_string Tryz.underlying9 q0
  obtain ⟨z1, e1, _, w1⟩ := DataW.trod_int Tryz.underlying3 q1
  obtain ⟨z2, e2, _, w2⟩ := DataW.trod_int Tryz.underlying3 q2
  exact ⟨z0, z1, z2, by simpa using e0, by simpa using e1, by simpa using e2, l9, wf_w w1, wf_w w2⟩

/-- The cells of a list of dimensions. -/
theorem open_dims {fuel : Nat} {A : Option Addr} {n cap : Nat} {x : DataW H × List MemPlace} (h : DataW.trod enc Tryz.prog w base spare held fuel 22 [.slice A n cap] = some x) :
    ∃ (nm : Nat → ByteArray) (lo hi : Nat → Int), DimsAt w A n nm lo hi ∧ n ≤ 9223372036854775807 ∧ ∀ k, k < n → (nm k).size ≤ 9223372036854775807 ∧ IntKind.i64.wrap (lo k) = lo k ∧ IntKind.i64.wrap (hi k) = hi k := by
  have c3 : Tryz.prog.cellsOf 46 = 3 := by kernel_rfl
  rcases DataW.trod_slice Tryz.underlying22 h with ⟨h0, _⟩ | ⟨a, len, cap', elems, rest, m, _, hcs, _, hb, hl, hm, hlen, hel, hsp, hns⟩
  · obtain ⟨rfl, rfl, rfl⟩ : A = none ∧ n = 0 ∧ cap = 0 := by simpa using h0
    exact ⟨fun _ => ⟨#[]⟩, fun _ => 0, fun _ => 0, fun h9 => absurd h9 (by omega), by omega, fun _ h9 => absurd h9 (by omega)⟩
  · obtain ⟨rfl, rfl, rfl⟩ : A = some a ∧ n = len ∧ cap = cap' := by simpa using hcs
    have each : ∀ k, k < n → ∃ y : ByteArray × Int × Int, w.cell? (a.add (k * 3)) = some (.string y.1) ∧ w.cell? ((a.add (k * 3)).add 1) = some (.int .i64 y.2.1) ∧ w.cell? ((a.add (k * 3)).add 2) = some (.int .i64 y.2.2) ∧ y.1.size ≤ 9223372036854775807 ∧ IntKind.i64.wrap y.2.1 = y.2.1 ∧ IntKind.i64.wrap y.2.2 = y.2.2 := by
      intro k hk
      have h1 := hel k hk
      have hk' : k < elems.length := by omega
      rw [c3, List.getElem?_eq_getElem hk', Option.bind_eq_some_iff] at h1
      obtain ⟨cs', hcs', hy⟩ := h1
      obtain ⟨_, hl2, hcell⟩ := World.cells?_some hcs'
      match cs', hl2 with
      | [c0, c1, c2], _ =>
        obtain ⟨z0, z1, z2, rfl, rfl, rfl, l9, w1, w2⟩ := open_dim hy
        exact ⟨(z0, z1, z2), by simpa [Addr.add] using hcell 0 (by omega), by simpa using hcell 1 (by omega), by simpa using hcell 2 (by omega), l9, w1, w2⟩
    have pick : ∃ f : Nat → ByteArray × Int × Int, ∀ k, k < n → w.cell? (a.add (k * 3)) = some (.string (f k).1) ∧ w.cell? ((a.add (k * 3)).add 1) = some (.int .i64 (f k).2.1) ∧ w.cell? ((a.add (k * 3)).add 2) = some (.int .i64 (f k).2.2) ∧ (f k).1.size ≤ 9223372036854775807 ∧ IntKind.i64.wrap (f k).2.1 = (f k).2.1 ∧ IntKind.i64.wrap (f k).2.2 = (f k).2.2 :=
      ⟨fun k => if hk : k < n then (each k hk).choose else (⟨#[]⟩, 0, 0), fun k hk => by
        simp only [dif_pos hk]
        exact (each k hk).choose_spec⟩
    obtain ⟨f, hf⟩ := pick
    refine ⟨fun k => (f k).1, fun k => (f k).2.1, fun k => (f k).2.2, fun hn => ?_, ?_, fun k hk => (hf k hk).2.2.2⟩
    · obtain ⟨b, off, spot⟩ := a
      have hspot : spot = none := by simpa [Addr.add] using World.cell?_spot (hf 0 hn).1
      subst hspot
      refine ⟨b, off, rfl, ?_, fun k hk => ?_⟩
      · exact cell_lt (b := b) (o := off + 0 * 3) (by have := (hf 0 hn).1; rw [Go.WideShapes.add_plain] at this; exact this)
      · obtain ⟨q1, q2, q3, _⟩ := hf k hk
        rw [Go.WideShapes.add_plain] at q1 q2 q3
        rw [Go.WideShapes.add_plain] at q2 q3
        exact ⟨q1, q2, q3⟩
    · exact Nat.le_trans hl (Nat.le_trans hm (by decide))
end
end Go.Proofs.YtoippldgoehpcaaGreatDoor
end

/- From the row's condition to the walk: a list of integers. -/
section
namespace Go.Proofs.YtoippldgoehpcaaGreatDoor
open Go Go.ChangeShapes Go.WideShapes Go.ChangeAt Go.RowKit

section
variable {H : Type} {enc : TypeId × Value → H} {w : World} {base : Nat} {spare : Nat → Bool} {held : Bool}
theorem open_intsAt {fuel : Nat} {A : Option Addr} {n cap : Nat} {x : DataW H × List MemPlace} (h : DataW.trod enc Tryz.prog w base spare held fuel 38 [.slice A n cap] = some x) :
    ∃ xs : Nat → Int, IntsAt w A n xs ∧ n ≤ 9223372036854775807 ∧ ∀ k, k < n → -9223372036854775808 ≤ xs k ∧ xs k ≤ 9223372036854775807 := by
  have c1 : Tryz.prog.cellsOf 3 = 1 := by kernel_rfl
  rcases open_ints Tryz.underlying38 Tryz.underlying3 c1 h with ⟨hcs, _⟩ | ⟨a, len, cap', zs, hcs, _, hl, hm, hz, hx, hcell, hwf⟩
  · obtain ⟨rfl, rfl, rfl⟩ : A = none ∧ n = 0 ∧ cap = 0 := by simpa using hcs
    exact ⟨fun _ => 0, fun h9 => absurd h9 (by omega), by omega, fun _ h9 => absurd h9 (by omega)⟩
  · obtain ⟨rfl, rfl, rfl⟩ : A = some a ∧ n = len ∧ cap = cap' := by simpa using hcs
    have hlen : n ≤ zs.length := by rw [hz]; split <;> omega
    refine ⟨fun k => zs.getD k 0, fun hn => ?_, Nat.le_trans hl (Nat.le_trans hm (by decide)), fun k hk => ?_⟩
    · obtain ⟨b, o, rfl, hc⟩ := ints_at hcell (by omega)
      exact ⟨b, o, rfl, cell_lt (hc 0 (by omega)), fun k hk => hc k (by omega)⟩
    · have e : zs.getD k 0 = zs[k]'(by omega) := by simp [List.getD, List.getElem?_eq_getElem (show k < zs.length by omega)]
      show -9223372036854775808 ≤ zs.getD k 0 ∧ zs.getD k 0 ≤ 9223372036854775807
      rw [e]
      exact bounds_i64 (hwf _ (List.getElem_mem _))
end
end Go.Proofs.YtoippldgoehpcaaGreatDoor
end

/- From the row's condition to the walk: a list of attributes. -/
section
namespace Go.Proofs.YtoippldgoehpcaaGreatDoor
open Go Go.ChangeShapes Go.WideShapes Go.ChangeAt Go.RowKit

theorem attr_fields : ∃ f0 f1 : Field, Tryz.prog.underlying 48 = some (.struct #[f0, f1]) ∧ f0.type = 9 ∧ f0.offset = 0 ∧ f1.type = 3 ∧ f1.offset = 1 :=
  ⟨_, _, Tryz.underlying48, rfl, rfl, rfl, rfl⟩
section
variable {H : Type} {enc : TypeId × Value → H} {w : World} {base : Nat} {spare : Nat → Bool} {held : Bool}
theorem open_attr {fuel : Nat} {c0 c1 : Value} {x : DataW H × List MemPlace} (h : DataW.trod enc Tryz.prog w base spare held fuel 48 [c0, c1] = some x) :
    ∃ (s : ByteArray) (l : Int), c0 = .string s ∧ c1 = .int .i64 l ∧ s.size ≤ 9223372036854775807 ∧ IntKind.i64.wrap l = l := by
  obtain ⟨f0, f1, hu, t0, o0, t1, o1⟩ := attr_fields
  obtain ⟨xs, n, _, _, _, hlen, hf⟩ := DataW.trod_struct hu h
  have l0 : 0 < xs.length := by rw [hlen]; simp
  have l1 : 1 < xs.length := by rw [hlen]; simp
  have q0 := hf 0 f0 rfl
  have q1 := hf 1 f1 rfl
  have ci : Tryz.prog.cellsOf 3 = 1 := by kernel_rfl
  have cs : Tryz.prog.cellsOf 9 = 1 := by kernel_rfl
  rw [t0, o0, cs, List.getElem?_eq_getElem l0] at q0
  rw [t1, o1, ci, List.getElem?_eq_getElem l1] at q1
  obtain ⟨z0, e0, _, l9⟩ := DataW.trod_string Tryz.underlying9 q0
  obtain ⟨z1, e1, _, w1⟩ := DataW.trod_int Tryz.underlying3 q1
  exact ⟨z0, z1, by simpa using e0, by simpa using e1, l9, wf_w w1⟩

/-- The cells of a list of attributes. -/
theorem open_attrs {fuel : Nat} {A : Option Addr} {n cap : Nat} {x : DataW H × List MemPlace} (h : DataW.trod enc Tryz.prog w base spare held fuel 23 [.slice A n cap] = some x) :
    ∃ (nm : Nat → ByteArray) (ty : Nat → Int), AttrsAt w A n nm ty ∧ n ≤ 9223372036854775807 ∧ ∀ k, k < n → (nm k).size ≤ 9223372036854775807 ∧ IntKind.i64.wrap (ty k) = ty k := by
  have c3 : Tryz.prog.cellsOf 48 = 2 := by kernel_rfl
  rcases DataW.trod_slice Tryz.underlying23 h with ⟨h0, _⟩ | ⟨a, len, cap', elems, rest, m, _, hcs, _, hb, hl, hm, hlen, hel, hsp, hns⟩
  · obtain ⟨rfl, rfl, rfl⟩ : A = none ∧ n = 0 ∧ cap = 0 := by simpa using h0
    exact ⟨fun _ => ⟨#[]⟩, fun _ => 0, fun h9 => absurd h9 (by omega), by omega, fun _ h9 => absurd h9 (by omega)⟩
  · obtain ⟨rfl, rfl, rfl⟩ : A = some a ∧ n = len ∧ cap = cap' := by simpa using hcs
    have each : ∀ k, k < n → ∃ y : ByteArray × Int, w.cell? (a.add (k * 2)) = some (.string y.1) ∧ w.cell? ((a.add (k * 2)).add 1) = some (.int .i64 y.2) ∧ y.1.size ≤ 9223372036854775807 ∧ IntKind.i64.wrap y.2 = y.2 := by
      intro k hk
      have h1 := hel k hk
      have hk' : k < elems.length := by omega
      rw [c3, List.getElem?_eq_getElem hk', Option.bind_eq_some_iff] at h1
      obtain ⟨cs', hcs', hy⟩ := h1
      obtain ⟨_, hl2, hcell⟩ := World.cells?_some hcs'
      match cs', hl2 with
      | [c0, c1], _ =>
        obtain ⟨z0, z1, rfl, rfl, l9, w1⟩ := open_attr hy
        exact ⟨(z0, z1), by simpa [Addr.add] using hcell 0 (by omega), by simpa using hcell 1 (by omega), l9, w1⟩
    have pick : ∃ f : Nat → ByteArray × Int, ∀ k, k < n → w.cell? (a.add (k * 2)) = some (.string (f k).1) ∧ w.cell? ((a.add (k * 2)).add 1) = some (.int .i64 (f k).2) ∧ (f k).1.size ≤ 9223372036854775807 ∧ IntKind.i64.wrap (f k).2 = (f k).2 :=
      ⟨fun k => if hk : k < n then (each k hk).choose else (⟨#[]⟩, 0), fun k hk => by
        simp only [dif_pos hk]
        exact (each k hk).choose_spec⟩
    obtain ⟨f, hf⟩ := pick
    refine ⟨fun k => (f k).1, fun k => (f k).2, fun hn => ?_, ?_, fun k hk => (hf k hk).2.2⟩
    · obtain ⟨b, off, spot⟩ := a
      have hspot : spot = none := by simpa [Addr.add] using World.cell?_spot (hf 0 hn).1
      subst hspot
      refine ⟨b, off, rfl, ?_, fun k hk => ?_⟩
      · exact cell_lt (b := b) (o := off + 0 * 2) (by have := (hf 0 hn).1; rw [Go.WideShapes.add_plain] at this; exact this)
      · obtain ⟨q1, q2, _⟩ := hf k hk
        rw [Go.WideShapes.add_plain] at q1 q2
        rw [Go.WideShapes.add_plain] at q2
        exact ⟨q1, q2⟩
    · exact Nat.le_trans hl (Nat.le_trans hm (by decide))
set_option maxRecDepth 100000 in
theorem open_strA {r : Reach} {b0 : Nat} {v : Value} {dt : DataW H} {ps : List MemPlace} (hval : Value.okWide Tryz.prog w r b0 9 v) (hd : DataW.Trod enc Tryz.prog w base spare held 9 v dt ps) :
    ∃ s : ByteArray, v = .string s ∧ s.size ≤ 9223372036854775807 := by
  obtain ⟨s, rfl⟩ := okWide_string Tryz.underlying9 hval
  obtain ⟨fuel, hf⟩ := hd
  obtain ⟨s', e, _, hz⟩ := DataW.trod_string Tryz.underlying9 hf
  have e2 : s = s' := by simpa [Value.cells] using e
  exact ⟨s, rfl, by rw [e2]; exact hz⟩
end
end Go.Proofs.YtoippldgoehpcaaGreatDoor
end

/- The reference's names and bounds. -/
section
namespace Go.Proofs.YtoippldgoehpcaaGreatDoor
open Go Go.RowKit Go.Deep

theorem ret_b {a b : Bool} (h : a = b) : Ending.returned (.bool a) = .returned (.bool b) := by rw [h]
set_option maxHeartbeats 400000 in
theorem r_letter (c : Int) (w : World) : Calls Tryz.prog 143 #[.int .u8 c] w fun e w' => e = .returned (.bool (letB c)) ∧ w = w' := by
  by_cases h : 97 ≤ c
  · have e1 : letB c = decide (c ≤ 122) := by simp [letB, h]
    rw [e1]
    go_enter Tryz.func143, Tryz.ntmps143
    go_wp2
    go_ret
    exact ⟨rfl, rfl⟩
  · have e1 : letB c = false := by simp [letB, h]
    rw [e1]
    go_enter Tryz.func143, Tryz.ntmps143
    go_wp2
    go_ret
    exact ⟨rfl, rfl⟩
set_option maxHeartbeats 1000000 in
theorem r_further (c : Int) (w : World) : Calls Tryz.prog 144 #[.int .u8 c] w fun e w' => e = .returned (.bool (chrB c)) ∧ w = w' := by
  have HL := Lib.hid r_letter
  have HX : Hid (chrB c = (letB c || ((decide (48 ≤ c) && decide (c ≤ 57)) || c == 95))) := rfl
  go_enter Tryz.func144, Tryz.ntmps144
  go_wp2_with fail
  refine (HL.out _ _).mono ?_
  rintro e w1 ⟨rfl, rfl⟩
  generalize letB c = L at *
  cases L
  · by_cases g1 : 48 ≤ c
    · by_cases g2 : c ≤ 57
      · rw [decide_eq_true g1, decide_eq_true g2] at HX
        go_wp2
        go_ret
        exact ⟨ret_b (by rw [HX.out]; rfl), rfl⟩
      · rw [decide_eq_true g1] at HX
        go_wp2
        go_ret
        exact ⟨ret_b (by rw [HX.out]; rfl), rfl⟩
    · rw [decide_eq_false g1] at HX
      go_wp2
      go_ret
      exact ⟨ret_b (by rw [HX.out]; rfl), rfl⟩
  · go_wp2
    go_ret
    exact ⟨ret_b (by rw [HX.out]; simp), rfl⟩

set_option maxRecDepth 100000 in
set_option maxHeartbeats 2000000 in
theorem r_Name (s : ByteArray) (w : World) (hs : s.size ≤ 9223372036854775807) : Calls Tryz.prog 94 #[.string s] w fun e w' => e = .returned (.bool (nameB s)) ∧ w = w' := by
  have HL := Lib.hid r_letter
  have HF := Lib.hid r_further
  by_cases h0 : s.size = 0
  · have e1 : nameB s = false := by simp [nameB, h0]
    have h0' : (s.size : Int) < 1 := by omega
    rw [e1]
    clear e1
    go_enter Tryz.func94, Tryz.ntmps94
    go_wp2
    go_ret
    exact ⟨rfl, rfl⟩
  · have h0' : ¬ (s.size : Int) < 1 := by omega
    by_cases h1 : s.size ≤ 12
    · have hp : 0 < s.size := by omega
      have h1' : ¬ (s.size : Int) > 12 := by omega
      have HB := Lib.hid (byt_eq s 0 hp)
      have HN : Hid (nameB s = (letB (byt s 0) && nameTo s s.size)) := by show _ = _; simp [nameB, hp, h1]
      have HS := Lib.hid h1
      rw [HN.out]
      clear h0 h1
      go_enter Tryz.func94, Tryz.ntmps94
      go_wp2_with fail
      refine (HL.out _ _).mono ?_
      rintro e w1 ⟨rfl, rfl⟩
      rw [← HB.out]
      generalize hL : letB (byt s 0) = L
      have HLv := Lib.hid hL
      clear hL
      cases L
      · go_wp2
        go_ret
        exact ⟨ret_b (by rw [HLv.out]; rfl), rfl⟩
      · go_wp2
        go_loop [3] (fun i => ∃ k : Nat, k ≤ s.size ∧ i = .int .i64 k ∧ Hid (nameTo s k = true)) (fun i => s.size - (intOf i).toNat)
        case atStart => exact ⟨0, Nat.zero_le _, rfl, rfl⟩
        case round =>
          obtain ⟨k, hk, rfl, HK⟩ := hrel
          by_cases hlt : k < s.size
          · have HBk := Lib.hid (byt_eq s k hlt)
            have HC : Hid (chrB (s[k].toNat : Int) = true → nameTo s (k + 1) = true) := fun h => by rw [nameTo_succ, HK.out, HBk.out, h]; rfl
            have HE : Hid (chrB (s[k].toNat : Int) = false → nameTo s s.size = false) := fun h => nameTo_le (k := k + 1) (by rw [nameTo_succ, HBk.out, h, Bool.and_false]) (by omega)
            go_wp2_with fail
            refine (HF.out _ _).mono ?_
            rintro e w1 ⟨rfl, rfl⟩
            generalize chrB (s[k].toNat : Int) = L at *
            cases L
            · have HR := Lib.hid (HE.out rfl)
              go_wp2
              go_ret
              exact ⟨ret_b (by rw [HLv.out, HR.out]; rfl), rfl⟩
            · have HR := Lib.hid (HC.out rfl)
              go_wp2
              go_round
              case rel => exact ⟨k + 1, by omega, by go_num, HR.out⟩
              case measure => simp [intOf]; omega
          · obtain rfl : k = s.size := by omega
            go_wp2
            go_ret
            exact ⟨ret_b (by rw [HLv.out, HK.out]; rfl), rfl⟩
    · have e1 : nameB s = false := by simp [nameB, h1]
      have h1' : (s.size : Int) > 12 := by omega
      rw [e1]
      clear e1
      go_enter Tryz.func94, Tryz.ntmps94
      go_wp2
      go_ret
      exact ⟨rfl, rfl⟩

def boundB (lo hi : Int) : Bool := if lo < -1073741824 ∨ lo > 1073741824 ∨ hi < lo ∨ hi > 1073741825 then false else true
set_option maxHeartbeats 2000000 in
theorem r_bounds (s : ByteArray) (lo hi : Int) (w : World) : Calls Tryz.prog 145 #[DimV s lo hi] w fun e w' => e = .returned (.bool (boundB lo hi)) ∧ Below w.heap.size w w' := by
  have HX : Hid (boundB lo hi = if lo < -1073741824 ∨ lo > 1073741824 ∨ hi < lo ∨ hi > 1073741825 then false else true) := rfl
  have hb : Below w.heap.size w (w.alloc (.cells #[.string s, .int .i64 lo, .int .i64 hi] 46)) := (Below.refl _ _).alloc (Nat.le_refl _) _
  go_enter Tryz.func145, Tryz.ntmps145
  by_cases g1 : lo < -1073741824
  · have g1' : ¬ lo ≥ -1073741824 := by omega
    go_wp2
    go_ret
    exact ⟨ret_b (by rw [HX.out, if_pos (by omega)]), hb⟩
  · have g1' : lo ≥ -1073741824 := by omega
    by_cases g2 : lo > 1073741824
    · have g2' : ¬ lo ≤ 1073741824 := by omega
      go_wp2
      go_ret
      exact ⟨ret_b (by rw [HX.out, if_pos (by omega)]), hb⟩
    · have g2' : lo ≤ 1073741824 := by omega
      by_cases g3 : hi < lo
      · have g3' : ¬ hi ≥ lo := by omega
        go_wp2
        go_ret
        exact ⟨ret_b (by rw [HX.out, if_pos (by omega)]), hb⟩
      · have g3' : hi ≥ lo := by omega
        by_cases g4 : hi > 1073741825
        · have g4' : ¬ hi ≤ 1073741825 := by omega
          go_wp2
          go_ret
          exact ⟨ret_b (by rw [HX.out, if_pos (by omega)]), hb⟩
        · have g4' : hi ≤ 1073741825 := by omega
          go_wp2
          go_ret
          exact ⟨ret_b (by rw [HX.out, if_neg (by omega)]), hb⟩
set_option maxRecDepth 100000 in
set_option maxHeartbeats 1000000 in
theorem r_Last (s : ByteArray) (lo hi : Int) (w : World) : Calls Tryz.prog 111 #[DimV s lo hi] w fun e w' => e = .returned (.int .i64 (lastZ hi)) ∧ Below w.heap.size w w' := by
  by_cases h : hi ≤ 1073741824
  · have e1 : lastZ hi = hi := if_pos h
    rw [e1]
    go_enter Tryz.func111, Tryz.ntmps111
    go_wp2
    go_ret
    refine ⟨?_, (Below.refl _ _).alloc (Nat.le_refl _) _⟩
    first
    | rfl
    | (show Ending.returned (.int .i64 (min hi 1073741824)) = _; rw [Int.min_eq_left h])
  · have e1 : lastZ hi = 1073741824 := if_neg h
    rw [e1]
    go_enter Tryz.func111, Tryz.ntmps111
    go_wp2
    go_ret
    refine ⟨?_, (Below.refl _ _).alloc (Nat.le_refl _) _⟩
    first
    | rfl
    | (show Ending.returned (.int .i64 (min hi 1073741824)) = _; rw [Int.min_eq_right (by omega)])
end Go.Proofs.YtoippldgoehpcaaGreatDoor
end

/- The reference's error of dimensions. -/
section
namespace Go.Proofs.YtoippldgoehpcaaGreatDoor
open Go Go.RowKit Go.Deep

/-- Does one of the first k names equal s? -/
def dupTo (nm : Nat → ByteArray) (s : ByteArray) : Nat → Bool
  | 0 => false
  | k + 1 => dupTo nm s k || decide (nm k = s)
theorem dupTo_le {nm : Nat → ByteArray} {s : ByteArray} {k n : Nat} (h : dupTo nm s k = true) (hn : k ≤ n) : dupTo nm s n = true := by
  induction n with
  | zero => obtain rfl : k = 0 := by omega
            exact h
  | succ n ih =>
    by_cases e : k = n + 1
    · rw [← e]; exact h
    · rw [dupTo, ih (by omega)]; rfl
theorem dup_in (nm : Nat → ByteArray) (s : ByteArray) : ∀ k, inN (metK [] nm k) s = dupTo nm s k
  | 0 => inN_false.2 (by simp [metK])
  | k + 1 => by
    have ih := dup_in nm s k
    rw [dupTo, ← ih]
    by_cases h : nm k = s
    · rw [decide_eq_true h, Bool.or_true]
      exact inN_true.2 (by rw [metK, h]; exact List.mem_cons_self)
    · rw [decide_eq_false h, Bool.or_false]
      cases h2 : inN (metK [] nm k) s
      · exact inN_false.2 (by rw [metK]; intro h3; rcases List.mem_cons.1 h3 with h4 | h4; · exact h h4.symm
                              · exact inN_false.1 h2 h4)
      · exact inN_true.2 (by rw [metK]; exact List.mem_cons_of_mem _ (inN_true.1 h2))
theorem dimE_of (nm : Nat → ByteArray) (s : ByteArray) (k : Nat) (lo hi : Int) : dimE (metK [] nm k) s lo hi = if nameB s = false then 11 else if dupTo nm s k = true then 11 else if boundB lo hi = true then 0 else 3 := by
  rw [dimE, dup_in]
  cases h1 : nameB s
  · rfl
  · cases h2 : dupTo nm s k
    · unfold boundB
      by_cases h3 : lo < -1073741824 ∨ lo > 1073741824 ∨ hi < lo ∨ hi > 1073741825
      · rw [if_pos h3, if_pos h3]; rfl
      · rw [if_neg h3, if_neg h3]; rfl
    · rfl

theorem str_eq {s t : ByteArray} (h : (s.toList == t.toList) = true) : s = t := by
  have h1 : s.toList = t.toList := by simpa using h
  rw [ByteArray.toList_eq, ByteArray.toList_eq] at h1
  obtain ⟨⟨a⟩⟩ := s
  obtain ⟨⟨b⟩⟩ := t
  simp only at h1
  rw [h1]

set_option maxRecDepth 100000 in
set_option maxHeartbeats 4000000 in
theorem r_Dims (w : World) (A : Option Addr) (n cap : Nat) (nm : Nat → ByteArray) (lo hi : Nat → Int) (hd : DimsAt w A n nm lo hi) (hs : ∀ k, k < n → (nm k).size ≤ 9223372036854775807) (hn10 : n ≤ 1000) :
    Calls Tryz.prog 96 #[.slice A n cap] w fun e w' => e = .returned (.int .i64 (dimsZ nm lo hi n)) ∧ Below w.heap.size w w' := by
  have HD := Lib.hid hd
  have HS := Lib.hid hs
  have HNm := Lib.hid r_Name
  have HBd := Lib.hid r_bounds
  clear hd hs
  by_cases hn : n = 0 ∨ 4 < n
  · have e1 : dimsZ nm lo hi n = 13 := if_pos hn
    rw [e1]
    rcases hn with rfl | hn
    · go_enter Tryz.func96, Tryz.ntmps96
      go_wp2
      go_ret
      exact ⟨rfl, Below.refl _ _⟩
    · have h1 : ¬ (n : Int) < 1 := by omega
      have h2 : (n : Int) > 4 := by omega
      clear hn e1
      go_enter Tryz.func96, Tryz.ntmps96
      go_wp2
      go_ret
      exact ⟨rfl, Below.refl _ _⟩
  · have h1 : ¬ (n : Int) < 1 := by omega
    have h2 : ¬ (n : Int) > 4 := by omega
    have h3 : n ≤ 4 := by omega
    have HZ : Hid (dimsZ nm lo hi n = dimsTo [] nm lo hi n) := if_neg hn
    rw [HZ.out]
    clear hn HZ
    go_enter Tryz.func96, Tryz.ntmps96
    go_wp2
    go_loopw [3, 4] (fun i _ wr => ∃ k : Nat, k ≤ n ∧ i = .int .i64 k ∧ Hid (dimsTo [] nm lo hi k = 0 ∧ Below w.heap.size w wr)) (fun i _ _ => n - (intOf i).toNat)
    case atStart => exact ⟨0, Nat.zero_le _, rfl, rfl, Below.refl _ _⟩
    case round =>
      obtain ⟨k, hk, rfl, HK⟩ := hrel
      by_cases hlt : k < n
      · have HB := Lib.hid HK.out.2
        obtain ⟨bd, o, rfl, hbd, hc⟩ := (HD.out.below HB.out) (by omega)
        obtain ⟨c0, c1, c2⟩ := hc k hlt
        have HCW : Hid (∀ W, Below w.heap.size w W → W.cell? ⟨bd, o + k * 3, none⟩ = some (.string (nm k)) ∧ W.cell? ⟨bd, o + k * 3 + 1, none⟩ = some (.int .i64 (lo k)) ∧ W.cell? ⟨bd, o + k * 3 + 2, none⟩ = some (.int .i64 (hi k))) := fun W hW => by
          obtain ⟨bd', o', e1, _, hc'⟩ := (HD.out.below hW) (by omega)
          injection e1 with e1
          injection e1 with e1 e2
          subst e1 e2
          exact hc' k hlt
        clear hc
        have HT : Hid (dimsTo [] nm lo hi (k + 1) = if nameB (nm k) = false then 11 else if dupTo nm (nm k) k = true then 11 else if boundB (lo k) (hi k) = true then 0 else 3) := by show _ = _; rw [dimsTo, if_pos HK.out.1, dimE_of]
        have HE : Hid (dimsTo [] nm lo hi (k + 1) ≠ 0 → dimsTo [] nm lo hi n = dimsTo [] nm lo hi (k + 1)) := fun h => dimsTo_le h (by omega)
        have HNk := Lib.hid (fun W => HNm.out (nm k) W (HS.out k hlt))
        generalize hs9 : nm k = s at *
        have HSN := Lib.hid hs9
        clear hs9
        generalize lo k = l0 at *
        generalize hi k = h0 at *
        obtain ⟨D, hDe⟩ : ∃ D, dimsTo [] nm lo hi (k + 1) = D := ⟨_, rfl⟩
        have HDe := Lib.hid hDe
        rw [hDe] at HE HT
        clear hDe
        go_wp2_with fail
        refine (HNk.out _).mono ?_
        rintro e w1 ⟨rfl, rfl⟩
        cases hb : nameB s
        · have HD1 : Hid (dimsTo [] nm lo hi n = 11) := by
            have h9 : D = 11 := by rw [HT.out, if_pos hb]
            exact (HE.out (by rw [h9]; decide)).trans h9
          go_wp2
          go_ret
          exact ⟨by rw [HD1.out]; rfl, HB.out⟩
        · have HT2 : Hid (D = if dupTo nm s k = true then 11 else if boundB l0 h0 = true then 0 else 3) := by show _ = _; rw [HT.out, if_neg (by rw [hb]; decide)]
          clear hb HT HNk
          go_wp2
          obtain ⟨wo, rfl⟩ : ∃ wo, wo = wr := ⟨_, rfl⟩
          go_loopw [4] (fun i wr => ∃ j : Nat, j ≤ k ∧ i = .int .i64 j ∧ Hid (dupTo nm s j = false) ∧ Hid (Below w.heap.size w wr)) (fun i _ => k - (intOf i).toNat)
          case atStart => exact ⟨0, Nat.zero_le _, rfl, rfl, HB.out⟩
          case round =>
            obtain ⟨j, hj, rfl, HJ, HBj⟩ := hrel
            by_cases hlt2 : j < k
            · have HCC : Hid (∀ W, Below w.heap.size w W → W.cell? ⟨bd, o + j * 3, none⟩ = some (.string (nm j)) ∧ W.cell? ⟨bd, o + k * 3, none⟩ = some (.string s)) := fun W hW => by
                obtain ⟨bd', o', e1, _, hc'⟩ := (HD.out.below hW) (by omega)
                injection e1 with e1
                injection e1 with e1 e2
                subst e1 e2
                refine ⟨(hc' j (by omega)).1, ?_⟩
                rw [(hc' k hlt).1, HSN.out]
              obtain ⟨y0, y1⟩ := HCC.out wr HBj.out
              have HU : Hid (dupTo nm s (j + 1) = decide (nm j = s)) := by show _ = _; rw [dupTo, HJ.out, Bool.false_or]
              have HUl : Hid (dupTo nm s (j + 1) = true → dupTo nm s k = true) := fun h => dupTo_le h (by omega)
              generalize nm j = t at *
              by_cases he : t = s
              · subst he
                have HD1 : Hid (dimsTo [] nm lo hi n = 11) := by
                  have h9 : D = 11 := by rw [HT2.out, if_pos (HUl.out (by rw [HU.out, decide_eq_true rfl]))]
                  exact (HE.out (by rw [h9]; decide)).trans h9
                go_wp2
                go_quiet (fail)
                go_wp2
                go_ret
                exact ⟨by rw [HD1.out]; rfl, drewB HBj.out _⟩
              · have h5 : (t.toList == s.toList) = false := by
                  cases h6 : t.toList == s.toList
                  · rfl
                  · exact absurd (str_eq h6) he
                have HR : Hid (dupTo nm s (j + 1) = false) := by show _ = _; rw [HU.out, decide_eq_false he]
                go_wp2
                go_quiet (fail)
                go_wp2
                go_roundw
                case rel => exact ⟨j + 1, by omega, by go_num, HR.out, drewB HBj.out _⟩
                case measure => simp [intOf]; omega
            · obtain rfl : j = k := by omega
              have HT3 : Hid (D = if boundB l0 h0 = true then 0 else 3) := by show _ = _; rw [HT2.out, if_neg (by rw [HJ.out]; decide)]
              have HBk := Lib.hid (fun W => HBd.out s l0 h0 W)
              obtain ⟨k0, k1, k2⟩ := HCW.out wr HBj.out
              clear c0 c1 c2
              cases hb2 : boundB l0 h0
              · rw [hb2] at HBk
                have HD1 : Hid (dimsTo [] nm lo hi n = 3) := by
                  have h9 : D = 3 := by rw [HT3.out, if_neg (by rw [hb2]; decide)]
                  exact (HE.out (by rw [h9]; decide)).trans h9
                clear hb2
                go_wp2_with fail
                refine (HBk.out _).mono ?_
                rintro e w2 ⟨rfl, hb2⟩
                have HB2 : Hid (Below w.heap.size w w2) := st HBj.out hb2
                go_wp2
                go_ret
                exact ⟨by rw [HD1.out]; rfl, HB2.out⟩
              · rw [hb2] at HBk
                have HD1 : Hid (D = 0) := by show _ = _; rw [HT3.out, if_pos hb2]
                clear hb2
                go_wp2_with fail
                refine (HBk.out _).mono ?_
                rintro e w2 ⟨rfl, hb2⟩
                have HB2 : Hid (Below w.heap.size w w2) := st HBj.out hb2
                go_wp2
                go_roundw
                case rel => exact ⟨j + 1, by omega, by go_num, HDe.out.trans HD1.out, HB2.out⟩
                case measure => simp [intOf]; omega
      · obtain rfl : k = n := by omega
        go_wp2
        go_ret
        exact ⟨by rw [HK.out.1]; rfl, HK.out.2⟩
end Go.Proofs.YtoippldgoehpcaaGreatDoor
end

/- What the laws examine: the sizes of schemas. -/
section
namespace Go.Proofs.YtoippldgoehpcaaGreatDoor
open Go Go.RowKit Go.Deep

set_option maxHeartbeats 1000000 in
theorem l_short (s : ByteArray) (hs : s.size ≤ 9223372036854775807) (w : World) : Calls Tryz.prog 33 #[.string s] w fun e w' => e = .returned (.bool (decide (s.size ≤ 40))) ∧ w' = w := by
  have e1 : decide (s.size ≤ 40) = decide ((s.size : Int) ≤ 40) := by
    by_cases h : s.size ≤ 40
    · rw [decide_eq_true h, decide_eq_true (by omega)]
    · rw [decide_eq_false h, decide_eq_false (by omega)]
  rw [e1]
  go_enter Tryz.func33, Tryz.ntmps33
  go_wp2
  go_ret
  exact ⟨rfl, rfl⟩

set_option maxRecDepth 100000 in
set_option maxHeartbeats 4000000 in
/-- schema of dimensions alone. -/
theorem l_schema (w : World) (A : Option Addr) (n cap : Nat) (nm : Nat → ByteArray) (lo hi : Nat → Int) (hd : DimsAt w A n nm lo hi) (hs : ∀ k, k < n → (nm k).size ≤ 9223372036854775807) (hn : n ≤ 9223372036854775807) :
    Calls Tryz.prog 19 #[.slice A n cap, .slice none 0 0] w fun e w' => ∃ b : Bool, e = .returned (.bool b) ∧ (b = true → n ≤ 10) ∧ Below w.heap.size w w' := by
  have HD := Lib.hid hd
  have HS := Lib.hid hs
  have HL := Lib.hid l_short
  clear hd hs
  go_enter Tryz.func19, Tryz.ntmps19
  by_cases h0 : (n : Int) > 10
  · go_wp2
    go_ret
    exact ⟨false, rfl, (fun h => by cases h), Below.refl _ _⟩
  · go_wp2
    go_loopw [5] (fun i wr => ∃ k : Nat, k ≤ n ∧ i = .int .i64 k ∧ Hid (Below w.heap.size w wr)) (fun i _ => n - (intOf i).toNat)
    case atStart => exact ⟨0, Nat.zero_le _, rfl, Below.refl _ _⟩
    case round =>
      obtain ⟨k, hk, rfl, HB⟩ := hrel
      by_cases hlt : k < n
      · obtain ⟨bd, o, rfl, _, hc⟩ := (HD.out.below HB.out) (by omega)
        obtain ⟨c0, c1, c2⟩ := hc k hlt
        clear hc
        have HSk := Lib.hid (HL.out (nm k) (HS.out k hlt))
        generalize nm k = s at *
        generalize lo k = l0 at *
        generalize hi k = h0 at *
        by_cases h5 : s.size ≤ 40
        · rw [decide_eq_true h5] at HSk
          clear h5
          go_wp2_with fail
          refine (HSk.out _).mono ?_
          rintro e w1 ⟨rfl, rfl⟩
          go_wp2
          go_roundw
          case rel => exact ⟨k + 1, by omega, by go_num, HB.out⟩
          case measure => simp [intOf]; omega
        · rw [decide_eq_false h5] at HSk
          clear h5
          go_wp2_with fail
          refine (HSk.out _).mono ?_
          rintro e w1 ⟨rfl, rfl⟩
          go_wp2
          go_ret
          exact ⟨false, rfl, (fun h => by cases h), HB.out⟩
      · obtain rfl : k = n := by omega
        go_wp2
        go_loopw [6] (fun i wr => i = .int .i64 0 ∧ Hid (Below w.heap.size w wr)) (fun _ _ => 0)
        case atStart => exact ⟨rfl, HB.out⟩
        case round =>
          obtain ⟨rfl, HB2⟩ := hrel
          go_wp2
          go_ret
          exact ⟨true, rfl, fun _ => by omega, HB2.out⟩
end Go.Proofs.YtoippldgoehpcaaGreatDoor
end

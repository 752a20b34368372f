/- What every row of this layer shares: from a contract of the law's walk, which knows the laid variables and the world's shape, to the row. -/
import Derived.Test.YtmhggphkhabjlaaGreatDoorRows
import Derived.ProofKit
import Derived.OpenShut
import Derived.LaidMore
import Derived.Lay
import Derived.Stop.Joined
import Derived.HandedShaped
import Derived.Carry
import Derived.Shelf.Vars
import Derived.Test.YtmhggphkhabjlaaGreatDoorZQuo
import Derived.Stop.LaidErr
import Derived.Lib.LaidTab
import Derived.Test.YtmhggphkhabjlaaGreatDoorZSpC
import Derived.Test.YtmhggphkhabjlaaGreatDoorZSpE
import Derived.Test.YtmhggphkhabjlaaGreatDoorZPrA
import Derived.ChangeArms
import Derived.ChangeSlices
import Derived.Test.YtmhggphkhabjlaaGreatDoorZSpG
import Derived.StillTailTactics

/- What every row of this layer shares: from a contract of the law's walk, which knows the laid variables and the world's shape, to the row. -/
section
namespace Go.Proofs.YtmhggphkhabjlaaGreatDoor
open Go.ChangeShapes Go.WideShapes Go.ChangeAt Go.RowKit

theorem own : ownKnob Tryz.prog.godebug = none := by kernel_rfl
theorem laidOut' : laidOutB Tryz.prog = true := by kernel_rfl

/-- The builder for a row that lists variables, with the world's shape handed on to the walk. -/
theorem handed_laid_shaped {H : Type} {enc : TypeId × Value → H} {C : Checked} {os : Os} {f : FuncId} {fn : Func} {s : ChangeSpec} {apart fresh handsOn again : Bool} {X : World → Array Value → Prop}
    (hX : ∀ (w w' : World) (args : Array Value), w.heap = w'.heap → X w args → X w' args)
    (ownk : ownKnob C.prog.godebug = none) (started : os.Started) (noInit : C.prog.inits.idxOf? f = none) (hfn : C.prog.funcs[f]? = some fn)
    (witness : ∃ (w : World) (tape : Tape) (i : Input), w.os = os ∧ (w.forCall tape i).Shaped C.prog ∧ i.vars = [] ∧ Input.okWide C.prog (w.forCall tape i) .any w.heap.size f i ∧
      ((s.pre enc C.prog fn [] apart (w.forCall tape i).memory i.args ∧ X (w.forCall tape i).memory i.args) ∧ sizedMet enc C.prog fn (OpenSpec.ofChange s) apart (w.forCall tape i).memory i.args) ∧ Assume.holds {} C.prog (lone (Frame.enter C.prog f i.args .normal) [] (w.forCall tape i)))
    (walk : ∀ (W : World) (base : Nat) (args : Array Value) (ds gs : List (DataW H)) (before : List MemPlace),
      (∀ (j : Nat) t v, fn.params[j]? = some t → args[j]? = some v → Value.okWide C.prog W .any base t v) →
      DataW.Whole enc C.prog fn.params.toList s.vars apart W args.toList ds gs before → X W args → W.ShapedOpen C.prog →
      Calls C.prog f args W fun e W' => ∃ v, e = .returned v ∧ s.post enc C.prog fn apart fresh handsOn again W args v W') :
    ReturnsInHanded {} C os f .any (fun w args => (s.pre enc C.prog fn [] apart w args ∧ X w args) ∧ sizedMet enc C.prog fn (OpenSpec.ofChange s) apart w args) (s.post enc C.prog fn apart fresh handsOn again) := by
  refine returnsInHanded_of_calls ownk started noInit witness ?_
  intro w tape i _ shape _ okin given _
  obtain ⟨_, _, _, g, hg, _, _, _, _, vals⟩ := okin
  obtain rfl : g = fn := Option.some.inj (hg.symm.trans hfn)
  obtain ⟨⟨⟨ds, gs, before, whole, _⟩, hx⟩, _⟩ := given
  have whole' := DataW.Whole.of_heap (w' := w.forCall tape i) (by rfl) whole
  refine (walk (w.forCall tape i) w.heap.size i.args ds gs before vals whole' (hX _ _ _ (by rfl) hx) shape).mono ?_
  rintro e W' ⟨v, rfl, hp⟩
  exact ChangeSpec.post_blind hp

/-- A cell that holds something lies in a block that is there. -/
theorem cell_lt {w : World} {b o : Nat} {v : Value} (h : w.cell? ⟨b, o, none⟩ = some v) : b < w.heap.size := by
  by_cases hb : b < w.heap.size
  · exact hb
  · have : w.heap[b]? = none := Array.getElem?_eq_none (by omega)
    simp [World.cell?, this] at h

/-- What the world's shape says of the one variable of the library's that the walks read: it holds some integer. -/
theorem maxLen_cell {W : World} (h : W.ShapedOpen Tryz.prog) : ∃ m, W.cell? ⟨6, 0, none⟩ = some (.int .i64 m) :=
  cell_of_shapedOpen_int (g := 6) (t := 3) (zero := #[.int .i64 0]) h (of_decide_eq_true (by kernel_rfl)) (by kernel_rfl) rfl (by kernel_rfl) (by kernel_rfl) Tryz.underlying3
end Go.Proofs.YtmhggphkhabjlaaGreatDoor
end

/- From the row's condition to the walk: the table of powers of ten. -/
section
namespace Go.Proofs.YtmhggphkhabjlaaGreatDoor
open Go.ChangeShapes Go.WideShapes Go.ChangeAt Go.RowKit

/-- The table that every row of this layer lists third. -/
theorem tab_of {W : World} {x y : String × DataW Unit} {r : List (String × DataW Unit)} (h : laidMet Tryz.prog (x :: y :: ("internal/strconv.uint64pow10", Rows.laid_internal_strconv_uint64pow10) :: r) W) : Tab W :=
  have h' : laidMet Tryz.prog (("internal/strconv.uint64pow10", Lib.tabData .u64 Lib.pow10Tab) :: r) W := h.tail.tail
  Lib.tabIs_of_head (g := 1) (t := 185) (e := 63) (n := 20) (by kernel_rfl) (by kernel_rfl) (by kernel_rfl) (by kernel_rfl) (by kernel_rfl) (by kernel_rfl) h'
end Go.Proofs.YtmhggphkhabjlaaGreatDoor
end

/- From the row's condition to the walk: dimensions, lists of integers, the names of types. -/
section
namespace Go.Proofs.YtmhggphkhabjlaaGreatDoor
open Go Go.ChangeShapes Go.WideShapes Go.ChangeAt Go.RowKit

theorem tyTab_of {W : World} {x y z u : String × DataW Unit} {r : List (String × DataW Unit)} (h : laidMet Tryz.prog (x :: y :: z :: u :: ("tesseract/space.typeNames", Rows.laid_tesseract_space_typeNames) :: r) W) : TyTab W := by
  obtain ⟨ps, ⟨g', t', cs, fuel, p, q, hg', ht', hvar, hd, _, _⟩, _⟩ := h.tail.tail.tail.tail
  obtain rfl := Option.some.inj ((show Tryz.prog.globalNamed "tesseract/space.typeNames" = some 0 by kernel_rfl).symm.trans hg')
  obtain rfl := Option.some.inj ((show (Tryz.prog.globals[0]?).map (·.type) = some 109 by kernel_rfl).symm.trans ht')
  have cs1 : Tryz.prog.cellsOf 9 = 1 := by kernel_rfl
  obtain ⟨xs, m, _, hx, _, hlen, hel⟩ := DataW.trod_array Tryz.underlying109 hd
  have hxs : xs.map (·.1) = [.lit (.string []), .lit (.string [98, 111, 111, 108]), .lit (.string [105, 110, 116]), .lit (.string [114, 97, 116]), .lit (.string [116, 101, 120, 116])] := by
    have := congrArg Prod.fst hx
    simpa [Rows.laid_tesseract_space_typeNames] using this.symm
  have key : ∀ (i : Nat) (l : List UInt8), i < 5 → (xs.map (·.1))[i]? = some (.lit (.string l)) → ∃ s : ByteArray, s.data.toList = l ∧ W.cell? ⟨0, i, none⟩ = some (.string s) := by
    intro i l hi hl
    have h1 := hel i hi
    rw [cs1, Nat.mul_one, List.getElem?_eq_getElem (by omega)] at h1
    obtain ⟨s, hc, hy, _⟩ := DataW.trod_string Tryz.underlying9 h1
    rw [List.getElem?_map, List.getElem?_eq_getElem (by omega), hy] at hl
    refine ⟨s, by simpa using hl, ?_⟩
    have h2 : cs[i]? = some (.string s) := by
      have := congrArg (·[0]?) hc
      simpa [List.getElem?_take, List.getElem?_drop] using this
    have h3 := World.var?_cell (by kernel_rfl : Tryz.prog.globalNamed "tesseract/space.typeNames" = some 0) hvar i
    rw [h3, h2]
  have str : ∀ (s t : ByteArray), s.data.toList = t.data.toList → s = t := fun s t h => by
    obtain ⟨⟨a⟩⟩ := s
    obtain ⟨⟨b⟩⟩ := t
    simp only at h
    rw [h]
  intro t h1 h2
  rcases (by omega : t = 1 ∨ t = 2 ∨ t = 3 ∨ t = 4) with rfl | rfl | rfl | rfl
  · obtain ⟨s, e1, e2⟩ := key 1 _ (by omega) (by rw [hxs]; rfl)
    rw [e2, str s (tyN 1) (by rw [e1]; rfl)]
  · obtain ⟨s, e1, e2⟩ := key 2 _ (by omega) (by rw [hxs]; rfl)
    rw [e2, str s (tyN 2) (by rw [e1]; rfl)]
  · obtain ⟨s, e1, e2⟩ := key 3 _ (by omega) (by rw [hxs]; rfl)
    rw [e2, str s (tyN 3) (by rw [e1]; rfl)]
  · obtain ⟨s, e1, e2⟩ := key 4 _ (by omega) (by rw [hxs]; rfl)
    rw [e2, str s (tyN 4) (by rw [e1]; rfl)]

theorem wf_w {z : Int} (h : (Lit.int .i64 z).wf = true) : IntKind.i64.wrap z = z := by
  have := bounds_i64 h
  rw [IntKind.wrap_i64]; omega
theorem dim_fields : ∃ f0 f1 f2 : Field, Tryz.prog.underlying 28 = some (.struct #[f0, f1, f2]) ∧ f0.type = 9 ∧ f0.offset = 0 ∧ f1.type = 3 ∧ f1.offset = 1 ∧ f2.type = 3 ∧ f2.offset = 2 :=
  ⟨_, _, _, Tryz.underlying28, rfl, rfl, rfl, rfl, rfl, rfl⟩
section
variable {H : Type} {enc : TypeId × Value → H} {w : World} {base : Nat} {spare : Nat → Bool} {held : Bool}
theorem open_dim {fuel : Nat} {c0 c1 c2 : Value} {x : DataW H × List MemPlace} (h : DataW.trod enc Tryz.prog w base spare held fuel 28 [c0, c1, c2] = some x) :
    ∃ (s : ByteArray) (l u : Int), c0 = .string s ∧ c1 = .int .i64 l ∧ c2 = .int .i64 u ∧ s.size ≤ 9223372036854775807 ∧ IntKind.i64.wrap l = l ∧ IntKind.i64.wrap u = u := by
  obtain ⟨f0, f1, f2, hu, t0, o0, t1, o1, t2, o2⟩ := dim_fields
  obtain ⟨xs, n, _, _, _, hlen, hf⟩ := DataW.trod_struct hu h
  have l0 : 0 < xs.length := by rw [hlen]; simp
  have l1 : 1 < xs.length := by rw [hlen]; simp
  have l2 : 2 < xs.length := by rw [hlen]; simp
  have q0 := hf 0 f0 rfl
  have q1 := hf 1 f1 rfl
  have q2 := hf 2 f2 rfl
  have ci : Tryz.prog.cellsOf 3 = 1 := by kernel_rfl
  have cs : Tryz.prog.cellsOf 9 = 1 := by kernel_rfl
  rw [t0, o0, cs, List.getElem?_eq_getElem l0] at q0
  rw [t1, o1, ci, List.getElem?_eq_getElem l1] at q1
  rw [t2, o2, ci, List.getElem?_eq_getElem l2] at q2
  obtain ⟨z0, e0, _, l9⟩ := DataW.trod_string Tryz.underlying9 q0
  obtain ⟨z1, e1, _, w1⟩ := DataW.trod_int Tryz.underlying3 q1
  obtain ⟨z2, e2, _, w2⟩ := DataW.trod_int Tryz.underlying3 q2
  exact ⟨z0, z1, z2, by simpa using e0, by simpa using e1, by simpa using e2, l9, wf_w w1, wf_w w2⟩

/-- The cells of a list of dimensions. -/
theorem open_dims {fuel : Nat} {A : Option Addr} {n cap : Nat} {x : DataW H × List MemPlace} (h : DataW.trod enc Tryz.prog w base spare held fuel 22 [.slice A n cap] = some x) :
    ∃ (nm : Nat → ByteArray) (lo hi : Nat → Int), DimsAt w A n nm lo hi ∧ n ≤ 9223372036854775807 ∧ ∀ k, k < n → (nm k).size ≤ 9223372036854775807 ∧ IntKind.i64.wrap (lo k) = lo k ∧ IntKind.i64.wrap (hi k) = hi k := by
  have c3 : Tryz.prog.cellsOf 28 = 3 := by kernel_rfl
  rcases DataW.trod_slice Tryz.underlying22 h with ⟨h0, _⟩ | ⟨a, len, cap', elems, rest, m, _, hcs, _, hb, hl, hm, hlen, hel, hsp, hns⟩
  · obtain ⟨rfl, rfl, rfl⟩ : A = none ∧ n = 0 ∧ cap = 0 := by simpa using h0
    exact ⟨fun _ => ⟨#[]⟩, fun _ => 0, fun _ => 0, fun h9 => absurd h9 (by omega), by omega, fun _ h9 => absurd h9 (by omega)⟩
  · obtain ⟨rfl, rfl, rfl⟩ : A = some a ∧ n = len ∧ cap = cap' := by simpa using hcs
    have each : ∀ k, k < n → ∃ y : ByteArray × Int × Int, w.cell? (a.add (k * 3)) = some (.string y.1) ∧ w.cell? ((a.add (k * 3)).add 1) = some (.int .i64 y.2.1) ∧ w.cell? ((a.add (k * 3)).add 2) = some (.int .i64 y.2.2) ∧ y.1.size ≤ 9223372036854775807 ∧ IntKind.i64.wrap y.2.1 = y.2.1 ∧ IntKind.i64.wrap y.2.2 = y.2.2 := by
      intro k hk
      have h1 := hel k hk
      have hk' : k < elems.length := by omega
      rw [c3, List.getElem?_eq_getElem hk', Option.bind_eq_some_iff] at h1
      obtain ⟨cs', hcs', hy⟩ := h1
      obtain ⟨_, hl2, hcell⟩ := World.cells?_some hcs'
      match cs', hl2 with
      | [c0, c1, c2], _ =>
        obtain ⟨z0, z1, z2, rfl, rfl, rfl, l9, w1, w2⟩ := open_dim hy
        exact ⟨(z0, z1, z2), by simpa [Addr.add] using hcell 0 (by omega), by simpa using hcell 1 (by omega), by simpa using hcell 2 (by omega), l9, w1, w2⟩
    have pick : ∃ f : Nat → ByteArray × Int × Int, ∀ k, k < n → w.cell? (a.add (k * 3)) = some (.string (f k).1) ∧ w.cell? ((a.add (k * 3)).add 1) = some (.int .i64 (f k).2.1) ∧ w.cell? ((a.add (k * 3)).add 2) = some (.int .i64 (f k).2.2) ∧ (f k).1.size ≤ 9223372036854775807 ∧ IntKind.i64.wrap (f k).2.1 = (f k).2.1 ∧ IntKind.i64.wrap (f k).2.2 = (f k).2.2 :=
      ⟨fun k => if hk : k < n then (each k hk).choose else (⟨#[]⟩, 0, 0), fun k hk => by
        simp only [dif_pos hk]
        exact (each k hk).choose_spec⟩
    obtain ⟨f, hf⟩ := pick
    refine ⟨fun k => (f k).1, fun k => (f k).2.1, fun k => (f k).2.2, fun hn => ?_, ?_, fun k hk => (hf k hk).2.2.2⟩
    · obtain ⟨b, off, spot⟩ := a
      have hspot : spot = none := by simpa [Addr.add] using World.cell?_spot (hf 0 hn).1
      subst hspot
      refine ⟨b, off, rfl, ?_, fun k hk => ?_⟩
      · exact cell_lt (b := b) (o := off + 0 * 3) (by have := (hf 0 hn).1; rw [Go.WideShapes.add_plain] at this; exact this)
      · obtain ⟨q1, q2, q3, _⟩ := hf k hk
        rw [Go.WideShapes.add_plain] at q1 q2 q3
        rw [Go.WideShapes.add_plain] at q2 q3
        exact ⟨q1, q2, q3⟩
    · exact Nat.le_trans hl (Nat.le_trans hm (by decide))
end
end Go.Proofs.YtmhggphkhabjlaaGreatDoor
end

/- Numbers of coordinates: arithmetic. -/
section
namespace Go.Proofs.YtmhggphkhabjlaaGreatDoor
open Go Go.RowKit Go.Deep

/-- The number of the first k coordinates. -/
def idxTo (lo hi xs : Nat → Int) : Nat → Int
  | 0 => 0
  | k + 1 => idxTo lo hi xs k * extZ (lo k) (hi k) + (xs k - lo k)
/-- What is left of a number when the last j coordinates are taken off. -/
def remZ (lo hi : Nat → Int) (n : Nat) (i : Int) : Nat → Int
  | 0 => i
  | j + 1 => remZ lo hi n i j / extZ (lo (n - 1 - j)) (hi (n - 1 - j))
/-- The coordinates with a number. -/
def atZ (lo hi : Nat → Int) (n : Nat) (i : Int) (k : Nat) : Int := lo k + remZ lo hi n i (n - 1 - k) % extZ (lo k) (hi k)
theorem idxTo_bound {lo hi xs : Nat → Int} {k : Nat} (hok : DimsOk lo hi k) (hx : inTo lo hi xs k = true) : 0 ≤ idxTo lo hi xs k ∧ idxTo lo hi xs k < prodZ lo hi k := by
  induction k with
  | zero => exact ⟨by unfold idxTo; decide, by unfold idxTo prodZ; decide⟩
  | succ k ih =>
    rw [inTo, Bool.and_eq_true, Bool.and_eq_true, decide_eq_true_eq, decide_eq_true_eq] at hx
    obtain ⟨h1, h2⟩ := ih (fun j hj => hok j (by omega)) hx.1
    obtain ⟨a1, a2, a3, _⟩ := hok k (by omega)
    have hE := extZ_bound a1 a2 a3
    have hy : 0 ≤ xs k - lo k ∧ xs k - lo k < extZ (lo k) (hi k) := by unfold extZ; omega
    rw [idxTo, prodZ]
    generalize idxTo lo hi xs k = x at *
    generalize extZ (lo k) (hi k) = e at *
    generalize prodZ lo hi k = p at *
    generalize xs k - lo k = y at *
    have h3 : 0 ≤ x * e := Int.mul_nonneg h1 (by omega)
    have h4 : (x + 1) * e ≤ p * e := Int.mul_le_mul_of_nonneg_right (by omega) (by omega)
    rw [Int.add_mul, Int.one_mul] at h4
    omega
theorem remZ_bound {lo hi : Nat → Int} {n : Nat} {i : Int} (hok : DimsOk lo hi n) (h1 : 0 ≤ i) (h2 : i < prodZ lo hi n) : ∀ j, j ≤ n → 0 ≤ remZ lo hi n i j ∧ remZ lo hi n i j < prodZ lo hi (n - j)
  | 0, _ => ⟨h1, h2⟩
  | j + 1, hj => by
    obtain ⟨g1, g2⟩ := remZ_bound hok h1 h2 j (by omega)
    obtain ⟨a1, a2, a3, _⟩ := hok (n - 1 - j) (by omega)
    have hE := extZ_bound a1 a2 a3
    rw [show n - j = (n - 1 - j) + 1 by omega, prodZ] at g2
    rw [remZ, show n - (j + 1) = n - 1 - j by omega]
    exact ⟨Int.ediv_nonneg g1 (by omega), Int.ediv_lt_of_lt_mul (by omega) g2⟩
theorem idx_at {lo hi : Nat → Int} {n : Nat} {i : Int} (hok : DimsOk lo hi n) (h1 : 0 ≤ i) (h2 : i < prodZ lo hi n) : ∀ k, k ≤ n → idxTo lo hi (atZ lo hi n i) k = remZ lo hi n i (n - k)
  | 0, _ => by
    obtain ⟨g1, g2⟩ := remZ_bound hok h1 h2 n (Nat.le_refl _)
    rw [Nat.sub_self, prodZ] at g2
    rw [idxTo, Nat.sub_zero]
    omega
  | k + 1, hk => by
    rw [idxTo, idx_at hok h1 h2 k (by omega), atZ, show n - k = (n - 1 - k) + 1 by omega, remZ, show n - 1 - (n - 1 - k) = k by omega, show n - (k + 1) = n - 1 - k by omega]
    have := Int.mul_ediv_add_emod (remZ lo hi n i (n - 1 - k)) (extZ (lo k) (hi k))
    rw [Int.mul_comm] at this
    omega
theorem idx_of_at {lo hi : Nat → Int} {n : Nat} {i : Int} (hok : DimsOk lo hi n) (h1 : 0 ≤ i) (h2 : i < prodZ lo hi n) : idxTo lo hi (atZ lo hi n i) n = i := by
  rw [idx_at hok h1 h2 n (Nat.le_refl _), Nat.sub_self]; rfl
theorem at_in {lo hi : Nat → Int} {n : Nat} {i : Int} (hok : DimsOk lo hi n) : ∀ k, k ≤ n → inTo lo hi (atZ lo hi n i) k = true
  | 0, _ => rfl
  | k + 1, hk => by
    obtain ⟨a1, a2, a3, _⟩ := hok k (by omega)
    have hE := extZ_bound a1 a2 a3
    have e1 := Int.emod_nonneg (remZ lo hi n i (n - 1 - k)) (by omega : extZ (lo k) (hi k) ≠ 0)
    have e2 := Int.emod_lt_of_pos (remZ lo hi n i (n - 1 - k)) (by omega : 0 < extZ (lo k) (hi k))
    rw [inTo, at_in hok k (by omega), Bool.true_and, Bool.and_eq_true, decide_eq_true_eq, decide_eq_true_eq]
    have e3 : extZ (lo k) (hi k) = lastZ (hi k) - lo k + 1 := rfl
    unfold atZ
    omega
def cmpI (a b : Int) : Int := if a < b then -1 else if b < a then 1 else 0
theorem cmpI_zero {a b : Int} : cmpI a b = 0 ↔ a = b := by
  unfold cmpI
  constructor
  · intro h
    split at h
    · exact absurd h (by decide)
    · split at h
      · exact absurd h (by decide)
      · omega
  · rintro rfl
    rw [if_neg (by omega), if_neg (by omega)]
theorem cmpI_of_div {a b e : Int} (he : 0 < e) (h : a / e ≠ b / e) : cmpI a b = cmpI (a / e) (b / e) := by
  have h1 : a / e < b / e → a < b := fun g => by
    apply Int.lt_of_not_ge
    intro g2
    have := Int.ediv_le_ediv he g2
    omega
  have h2 : b / e < a / e → b < a := fun g => by
    apply Int.lt_of_not_ge
    intro g2
    have := Int.ediv_le_ediv he g2
    omega
  unfold cmpI
  rcases Int.lt_or_gt_of_ne h with g | g
  · rw [if_pos g, if_pos (h1 g)]
  · have g3 := h2 g
    rw [if_neg (by omega), if_pos g3, if_neg (by omega), if_pos g]
theorem cmpI_of_mod {a b e l : Int} (h : a / e = b / e) : cmpI a b = cmpI (l + a % e) (l + b % e) := by
  have h1 := Int.mul_ediv_add_emod a e
  have h2 := Int.mul_ediv_add_emod b e
  rw [h] at h1
  generalize e * (b / e) = m at *
  generalize a % e = x at *
  generalize b % e = y at *
  unfold cmpI
  by_cases g : a < b
  · rw [if_pos g, if_pos (by omega)]
  · rw [if_neg g]
    by_cases g2 : b < a
    · rw [if_pos g2, if_neg (by omega), if_pos (by omega)]
    · rw [if_neg g2, if_neg (by omega), if_neg (by omega)]
end Go.Proofs.YtmhggphkhabjlaaGreatDoor
end

/- The number of coordinates. -/
section
namespace Go.Proofs.YtmhggphkhabjlaaGreatDoor
open Go Go.RowKit Go.Deep

theorem vol_zero {nm : Nat → ByteArray} {lo hi : Nat → Int} {n : Nat} (h : volE nm lo hi n = 0) : 1 ≤ n ∧ n ≤ 4 ∧ DimsOk lo hi n ∧ overB lo hi n = false ∧ volZ nm lo hi n = prodZ lo hi n ∧ 1 ≤ prodZ lo hi n ∧ prodZ lo hi n ≤ 4611686018427387904 ∧ dimsZ nm lo hi n = 0 := by
  have hv : volZ nm lo hi n = prodZ lo hi n := if_pos h
  unfold volE at h
  by_cases h0 : dimsZ nm lo hi n = 0
  · rw [if_neg (by rw [h0]; simp)] at h
    cases ho : openB hi n
    · rw [ho] at h
      cases hv2 : overB lo hi n
      · obtain ⟨a1, a2, a3⟩ := dimsZ_ok h0
        exact ⟨a1, a2, a3, rfl, hv, (prodZ_bound a3 hv2).1, (prodZ_bound a3 hv2).2, h0⟩
      · rw [hv2] at h; exact absurd h (by decide)
    · rw [ho] at h; simp at h
  · rw [if_pos h0] at h; exact absurd h h0
theorem prodZ_le {lo hi : Nat → Int} {n : Nat} (hok : DimsOk lo hi n) (ho : overB lo hi n = false) {k : Nat} (hk : k ≤ n) : 1 ≤ prodZ lo hi k ∧ prodZ lo hi k ≤ 4611686018427387904 :=
  prodZ_bound (fun j hj => hok j (by omega)) (by
    cases h : overB lo hi k
    · rfl
    · exact absurd ((overB_le h hk).symm.trans ho) (by decide))
noncomputable def idxE (nm : Nat → ByteArray) (lo hi : Nat → Int) (n : Nat) (xs : Nat → Int) (m : Nat) : Int := if volE nm lo hi n ≠ 0 then volE nm lo hi n else placeEr lo hi xs n m
noncomputable def idxZ (nm : Nat → ByteArray) (lo hi : Nat → Int) (n : Nat) (xs : Nat → Int) (m : Nat) : Int := if idxE nm lo hi n xs m = 0 then idxTo lo hi xs n else 0
theorem place_zero {lo hi xs : Nat → Int} {n m : Nat} (h : placeEr lo hi xs n m = 0) : m = n ∧ inTo lo hi xs n = true := by
  unfold placeEr at h
  by_cases h1 : n = m
  · rw [if_neg (by omega)] at h
    cases h2 : inTo lo hi xs n
    · rw [h2] at h; exact absurd h (by decide)
    · exact ⟨h1.symm, rfl⟩
  · rw [if_pos h1] at h; exact absurd h (by decide)
theorem inTo_mono {lo hi xs : Nat → Int} {k n : Nat} (h : inTo lo hi xs n = true) (hk : k ≤ n) : inTo lo hi xs k = true := by
  cases h2 : inTo lo hi xs k
  · exact absurd (inTo_le h2 hk) (by rw [h]; decide)
  · rfl

theorem idx_wrap {p z l I : Int} (h : I = p + (z - l)) (h1 : 0 ≤ I) (h2 : I ≤ 4611686018427387904) (h3 : -1073741824 ≤ l) (h4 : l ≤ 1073741824) (h5 : l ≤ z) (h6 : z ≤ 1073741824) : IntKind.i64.wrap (IntKind.i64.wrap (IntKind.i64.wrap p + z) - l) = I := by
  rw [w64 (n := p) (by omega) (by omega), w64 (n := p + z) (by omega) (by omega), w64 (by omega) (by omega)]
  omega

set_option maxRecDepth 100000 in
set_option maxHeartbeats 4000000 in
theorem s_Index (w : World) (A X : Option Addr) (n cap m mc : Nat) (nm : Nat → ByteArray) (lo hi xs : Nat → Int) (hd : DimsAt w A n nm lo hi) (hx : IntsAt w X m xs) (hn1 : n ≤ 1000) (hm1 : m ≤ 1000) :
    Calls Tryz.prog 18 #[.slice A n cap, .slice X m mc] w fun e w' => e = .returned (.tuple #[.int .i64 (idxZ nm lo hi n xs m), .int .i64 (idxE nm lo hi n xs m)]) ∧ Below w.heap.size w w' := by
  have HV := Lib.hid (s_Volume w A n cap nm lo hi hd)
  have HP : Hid (∀ W, Below w.heap.size w W → Calls Tryz.prog 56 #[.slice A n cap, .slice X m mc] W fun e w' => e = .returned (.int .i64 (placeEr lo hi xs n m)) ∧ Below W.heap.size W w') := fun W hW => s_placeError W A X n cap m mc nm lo hi xs (hd.below hW) (hx.below hW) hn1 hm1
  have HX := Lib.hid s_extent
  have HD := Lib.hid hd
  have HI := Lib.hid hx
  clear hd hx
  obtain ⟨vz, hvz⟩ : ∃ vz, idxZ nm lo hi n xs m = vz := ⟨_, rfl⟩
  obtain ⟨ve, hve⟩ : ∃ ve, idxE nm lo hi n xs m = ve := ⟨_, rfl⟩
  rw [hvz, hve]
  have HE : Hid (idxZ nm lo hi n xs m = vz ∧ idxE nm lo hi n xs m = ve) := ⟨hvz, hve⟩
  clear hvz hve
  by_cases h0 : volE nm lo hi n = 0
  · have HZ := Lib.hid (vol_zero h0)
    have HE2 : Hid (ve = placeEr lo hi xs n m) := by show _ = _; rw [← HE.out.2, idxE, if_neg (by rw [h0]; simp)]
    have h4 : n ≤ 4 := HZ.out.2.1
    rw [h0] at HV
    clear h0
    generalize volZ nm lo hi n = V at *
    go_enter Tryz.func18, Tryz.ntmps18
    go_wp2_with fail
    refine HV.out.mono ?_
    rintro e w1 ⟨rfl, hb1⟩
    have HB1 := Lib.hid hb1
    clear hb1 HV
    go_wp2_with fail
    refine (HP.out _ HB1.out).mono ?_
    rintro e w2 ⟨rfl, hb2⟩
    have HB2 : Hid (Below w.heap.size w w2) := st HB1.out hb2
    clear hb2 HB1 HP
    by_cases h1 : placeEr lo hi xs n m = 0
    · have HN := Lib.hid (place_zero h1)
      rw [h1] at HE2
      have HR : Hid (vz = idxTo lo hi xs n) := by show _ = _; rw [← HE.out.1, idxZ, if_pos (by rw [HE.out.2, HE2.out])]
      rw [h1]
      clear h1
      obtain rfl : m = n := HN.out.1
      go_wp2
      go_loopw [9, 10, 11, 28] (fun v _ _ i wr => ∃ k : Nat, k ≤ m ∧ i = .int .i64 k ∧ v = .int .i64 (idxTo lo hi xs k) ∧ Hid (Below w.heap.size w wr)) (fun _ _ _ i _ => m - (intOf i).toNat)
      case atStart => exact ⟨0, Nat.zero_le _, rfl, rfl, HB2.out⟩
      case round =>
        obtain ⟨k, hk, rfl, rfl, HB⟩ := hrel
        by_cases hlt : k < m
        · obtain ⟨bd, o, rfl, hbd, hc⟩ := (HD.out.below HB.out) (by omega)
          obtain ⟨c0, c1, c2⟩ := hc k hlt
          clear hc
          obtain ⟨bx, ox, rfl, hbx, hcx⟩ := (HI.out.below HB.out) (by omega)
          have x0 := hcx k hlt
          clear hcx
          have HBo : Hid (0 ≤ idxTo lo hi xs k ∧ idxTo lo hi xs k < prodZ lo hi k ∧ 0 ≤ idxTo lo hi xs (k + 1) ∧ idxTo lo hi xs (k + 1) < prodZ lo hi (k + 1) ∧ prodZ lo hi k ≤ 4611686018427387904 ∧ prodZ lo hi (k + 1) ≤ 4611686018427387904) := by
            have a := fun j (hj : j ≤ m) => idxTo_bound (fun i hi => HZ.out.2.2.1 i (by omega)) (inTo_mono HN.out.2 hj)
            have b := fun j (hj : j ≤ m) => prodZ_le HZ.out.2.2.1 HZ.out.2.2.2.1 hj
            exact ⟨(a k hk).1, (a k hk).2, (a (k + 1) hlt).1, (a (k + 1) hlt).2, (b k hk).2, (b (k + 1) hlt).2⟩
          have HS : Hid (idxTo lo hi xs (k + 1) = idxTo lo hi xs k * extZ (lo k) (hi k) + (xs k - lo k)) := rfl
          obtain ⟨q1, q2, q3, q4⟩ := HZ.out.2.2.1 k hlt
          have HQ := Lib.hid (And.intro q1 (And.intro q2 (inTo_ok HN.out.2 k hlt)))
          have hl := lastZ_le (hi k)
          have HXk := Lib.hid (fun s W => HX.out s (lo k) (hi k) W q1 q3 q2)
          clear q1 q2 q3 q4
          generalize nm k = s at *
          generalize lo k = l0 at *
          generalize hi k = h0 at *
          generalize xs k = z at *
          generalize lastZ h0 = L at *
          generalize idxTo lo hi xs k = I at *
          obtain ⟨I', hI⟩ : ∃ I', idxTo lo hi xs (k + 1) = I' := ⟨_, rfl⟩
          have HI2 := Lib.hid hI
          rw [hI] at HBo HS
          clear hI
          generalize prodZ lo hi k = P at *
          generalize prodZ lo hi (k + 1) = P' at *
          generalize extZ l0 h0 = E at *
          have KB := Lib.hid (dim_box wr s l0 h0)
          have HBA : Hid (Below w.heap.size w (wr.alloc (.cells #[.string s, .int .i64 l0, .int .i64 h0] 28))) := HB.out.alloc HB.out.size _
          have HX0 : Hid (∀ W, Below wr.heap.size wr W → W.cell? ⟨bx, ox + k, none⟩ = some (.int .i64 z)) := fun W hW => (hW.cell (p := ⟨bx, ox + k, none⟩) hbx).trans x0
          have HBW : Hid (Below wr.heap.size wr (wr.alloc (.cells #[.string s, .int .i64 l0, .int .i64 h0] 28))) := (Below.refl _ _).alloc (Nat.le_refl _) _
          go_wp2_with fail
          clear c0 c1 c2 x0
          generalize wr.alloc (.cells #[.string s, .int .i64 l0, .int .i64 h0] 28) = W0 at *
          have B0d : Below W0.heap.size W0 W0.drew := Below.drew (Below.refl _ _)
          go_region_held3 (fun W => W.cell? ⟨wr.heap.size, 0, none⟩ = some (.string s) ∧ W.cell? ⟨wr.heap.size, 1, none⟩ = some (.int .i64 l0) ∧ W.cell? ⟨wr.heap.size, 2, none⟩ = some (.int .i64 h0) ∧ W.cell? ⟨bx, ox + k, none⟩ = some (.int .i64 z))
            (first | exact ⟨(KB.out _ B1).1, (KB.out _ B1).2.1, (KB.out _ B1).2.2, HX0.out _ (st HBW.out B1)⟩ | exact ⟨(KB.out _ B0d).1, (KB.out _ B0d).2.1, (KB.out _ B0d).2.2, HX0.out _ (st HBW.out B0d)⟩ | exact ⟨(KB.out _ (Below.refl _ _)).1, (KB.out _ (Below.refl _ _)).2.1, (KB.out _ (Below.refl _ _)).2.2, HX0.out _ HBW.out⟩)
            (first
              | (go_at_call 55; refine (HXk.out _ _).mono ?_; rintro e w3 ⟨rfl, hb3⟩; have B1 : Below W0.heap.size W0 w3 := st B0d hb3))
          all_goals
            go_wp2
            go_roundw
            case rel => exact ⟨k + 1, by omega, by go_num, (by rw [HI2.out]; have := HBo.out; have := HQ.out; exact congrArg _ (idx_wrap HS.out (by omega) (by omega) (by omega) (by omega) (by omega) (by omega))), st HBA.out B1⟩
            case measure => simp [intOf]; omega
        · obtain rfl : k = m := by omega
          go_wp2
          go_ret2
          exact ⟨by rw [HR.out, HE2.out]; rfl, HB.out⟩
    · have h2 : (placeEr lo hi xs n m != 0) = true := by rw [bne_iff_ne]; exact h1
      have HR : Hid (vz = 0) := by show _ = _; rw [← HE.out.1, idxZ, if_neg (by rw [HE.out.2, HE2.out]; exact h1)]
      generalize placeEr lo hi xs n m = E at *
      go_wp2
      go_ret2
      exact ⟨by rw [HR.out, HE2.out]; rfl, HB2.out⟩
  · have HE2 : Hid (ve = volE nm lo hi n ∧ vz = 0) := by
      have e1 : ve = volE nm lo hi n := by rw [← HE.out.2, idxE, if_pos h0]
      refine ⟨e1, ?_⟩
      rw [← HE.out.1, idxZ, HE.out.2, if_neg (by rw [e1]; exact h0)]
    have h1 : (volE nm lo hi n != 0) = true := by rw [bne_iff_ne]; exact h0
    generalize volE nm lo hi n = E at *
    generalize volZ nm lo hi n = V at *
    clear h0
    go_enter Tryz.func18, Tryz.ntmps18
    go_wp2_with fail
    refine HV.out.mono ?_
    rintro e w1 ⟨rfl, hb1⟩
    go_wp2
    go_ret2
    exact ⟨by rw [HE2.out.1, HE2.out.2]; rfl, hb1⟩
end Go.Proofs.YtmhggphkhabjlaaGreatDoor
end

/- What every row of this layer shares: from a contract of the law's walk, which knows the laid variables and the world's shape, to the row. -/
import Derived.Test.YtogmbehomilalaaGreatDoorRows
import Derived.ProofKit
import Derived.OpenShut
import Derived.LaidMore
import Derived.Lay
import Derived.Stop.Joined
import Derived.HandedShaped
import Derived.Carry
import Derived.Shelf.Vars
import Derived.Test.YtogmbehomilalaaGreatDoorZPrtG
import Derived.Stop.LaidErr
import Derived.Lib.LaidTab
import Derived.Test.YtogmbehomilalaaGreatDoorZSpE
import Derived.Test.YtogmbehomilalaaGreatDoorZPrt2
import Derived.ChangeArms
import Derived.ChangeSlices
import Derived.Test.YtogmbehomilalaaGreatDoorZWk2

/- What every row of this layer shares: from a contract of the law's walk, which knows the laid variables and the world's shape, to the row. -/
section
namespace Go.Proofs.YtogmbehomilalaaGreatDoor
open Go.ChangeShapes Go.WideShapes Go.ChangeAt Go.RowKit

theorem own : ownKnob Tryz.prog.godebug = none := by kernel_rfl
theorem laidOut' : laidOutB Tryz.prog = true := by kernel_rfl

/-- The builder for a row that lists variables, with the world's shape handed on to the walk. -/
theorem handed_laid_shaped {H : Type} {enc : TypeId × Value → H} {C : Checked} {os : Os} {f : FuncId} {fn : Func} {s : ChangeSpec} {apart fresh handsOn again : Bool} {X : World → Array Value → Prop}
    (hX : ∀ (w w' : World) (args : Array Value), w.heap = w'.heap → X w args → X w' args)
    (ownk : ownKnob C.prog.godebug = none) (started : os.Started) (noInit : C.prog.inits.idxOf? f = none) (hfn : C.prog.funcs[f]? = some fn)
    (witness : ∃ (w : World) (tape : Tape) (i : Input), w.os = os ∧ (w.forCall tape i).Shaped C.prog ∧ i.vars = [] ∧ Input.okWide C.prog (w.forCall tape i) .any w.heap.size f i ∧
      ((s.pre enc C.prog fn [] apart (w.forCall tape i).memory i.args ∧ X (w.forCall tape i).memory i.args) ∧ sizedMet enc C.prog fn (OpenSpec.ofChange s) apart (w.forCall tape i).memory i.args) ∧ Assume.holds {} C.prog (lone (Frame.enter C.prog f i.args .normal) [] (w.forCall tape i)))
    (walk : ∀ (W : World) (base : Nat) (args : Array Value) (ds gs : List (DataW H)) (before : List MemPlace),
      (∀ (j : Nat) t v, fn.params[j]? = some t → args[j]? = some v → Value.okWide C.prog W .any base t v) →
      DataW.Whole enc C.prog fn.params.toList s.vars apart W args.toList ds gs before → X W args → W.ShapedOpen C.prog →
      Calls C.prog f args W fun e W' => ∃ v, e = .returned v ∧ s.post enc C.prog fn apart fresh handsOn again W args v W') :
    ReturnsInHanded {} C os f .any (fun w args => (s.pre enc C.prog fn [] apart w args ∧ X w args) ∧ sizedMet enc C.prog fn (OpenSpec.ofChange s) apart w args) (s.post enc C.prog fn apart fresh handsOn again) := by
  refine returnsInHanded_of_calls ownk started noInit witness ?_
  intro w tape i _ shape _ okin given _
  obtain ⟨_, _, _, g, hg, _, _, _, _, vals⟩ := okin
  obtain rfl : g = fn := Option.some.inj (hg.symm.trans hfn)
  obtain ⟨⟨⟨ds, gs, before, whole, _⟩, hx⟩, _⟩ := given
  have whole' := DataW.Whole.of_heap (w' := w.forCall tape i) (by rfl) whole
  refine (walk (w.forCall tape i) w.heap.size i.args ds gs before vals whole' (hX _ _ _ (by rfl) hx) shape).mono ?_
  rintro e W' ⟨v, rfl, hp⟩
  exact ChangeSpec.post_blind hp

/-- A cell that holds something lies in a block that is there. -/
theorem cell_lt {w : World} {b o : Nat} {v : Value} (h : w.cell? ⟨b, o, none⟩ = some v) : b < w.heap.size := by
  by_cases hb : b < w.heap.size
  · exact hb
  · have : w.heap[b]? = none := Array.getElem?_eq_none (by omega)
    simp [World.cell?, this] at h

/-- What the world's shape says of the one variable of the library's that the walks read: it holds some integer. -/
theorem maxLen_cell {W : World} (h : W.ShapedOpen Tryz.prog) : ∃ m, W.cell? ⟨6, 0, none⟩ = some (.int .i64 m) :=
  cell_of_shapedOpen_int (g := 6) (t := 3) (zero := #[.int .i64 0]) h (of_decide_eq_true (by kernel_rfl)) (by kernel_rfl) rfl (by kernel_rfl) (by kernel_rfl) Tryz.underlying3
end Go.Proofs.YtogmbehomilalaaGreatDoor
end

/- From the row's condition to the walk: the table of powers of ten. -/
section
namespace Go.Proofs.YtogmbehomilalaaGreatDoor
open Go.ChangeShapes Go.WideShapes Go.ChangeAt Go.RowKit

/-- The table that every row of this layer lists third. -/
theorem tab_of {W : World} {x y : String × DataW Unit} {r : List (String × DataW Unit)} (h : laidMet Tryz.prog (x :: y :: ("internal/strconv.uint64pow10", Rows.laid_internal_strconv_uint64pow10) :: r) W) : Tab W :=
  have h' : laidMet Tryz.prog (("internal/strconv.uint64pow10", Lib.tabData .u64 Lib.pow10Tab) :: r) W := h.tail.tail
  Lib.tabIs_of_head (g := 1) (t := 228) (e := 89) (n := 20) (by kernel_rfl) (by kernel_rfl) (by kernel_rfl) (by kernel_rfl) (by kernel_rfl) (by kernel_rfl) h'
end Go.Proofs.YtogmbehomilalaaGreatDoor
end

/- From the row's condition to the walk: dimensions, lists of integers, the names of types. -/
section
namespace Go.Proofs.YtogmbehomilalaaGreatDoor
open Go Go.ChangeShapes Go.WideShapes Go.ChangeAt Go.RowKit

theorem tyTab_of {W : World} {x y z u : String × DataW Unit} {r : List (String × DataW Unit)} (h : laidMet Tryz.prog (x :: y :: z :: u :: ("tesseract/space.typeNames", Rows.laid_tesseract_space_typeNames) :: r) W) : TyTab W := by
  obtain ⟨ps, ⟨g', t', cs, fuel, p, q, hg', ht', hvar, hd, _, _⟩, _⟩ := h.tail.tail.tail.tail
  obtain rfl := Option.some.inj ((show Tryz.prog.globalNamed "tesseract/space.typeNames" = some 0 by kernel_rfl).symm.trans hg')
  obtain rfl := Option.some.inj ((show (Tryz.prog.globals[0]?).map (·.type) = some 119 by kernel_rfl).symm.trans ht')
  have cs1 : Tryz.prog.cellsOf 9 = 1 := by kernel_rfl
  obtain ⟨xs, m, _, hx, _, hlen, hel⟩ := DataW.trod_array Tryz.underlying119 hd
  have hxs : xs.map (·.1) = [.lit (.string []), .lit (.string [98, 111, 111, 108]), .lit (.string [105, 110, 116]), .lit (.string [114, 97, 116]), .lit (.string [116, 101, 120, 116])] := by
    have := congrArg Prod.fst hx
    simpa [Rows.laid_tesseract_space_typeNames] using this.symm
  have key : ∀ (i : Nat) (l : List UInt8), i < 5 → (xs.map (·.1))[i]? = some (.lit (.string l)) → ∃ s : ByteArray, s.data.toList = l ∧ W.cell? ⟨0, i, none⟩ = some (.string s) := by
    intro i l hi hl
    have h1 := hel i hi
    rw [cs1, Nat.mul_one, List.getElem?_eq_getElem (by omega)] at h1
    obtain ⟨s, hc, hy, _⟩ := DataW.trod_string Tryz.underlying9 h1
    rw [List.getElem?_map, List.getElem?_eq_getElem (by omega), hy] at hl
    refine ⟨s, by simpa using hl, ?_⟩
    have h2 : cs[i]? = some (.string s) := by
      have := congrArg (·[0]?) hc
      simpa [List.getElem?_take, List.getElem?_drop] using this
    have h3 := World.var?_cell (by kernel_rfl : Tryz.prog.globalNamed "tesseract/space.typeNames" = some 0) hvar i
    rw [h3, h2]
  have str : ∀ (s t : ByteArray), s.data.toList = t.data.toList → s = t := fun s t h => by
    obtain ⟨⟨a⟩⟩ := s
    obtain ⟨⟨b⟩⟩ := t
    simp only at h
    rw [h]
  intro t h1 h2
  rcases (by omega : t = 1 ∨ t = 2 ∨ t = 3 ∨ t = 4) with rfl | rfl | rfl | rfl
  · obtain ⟨s, e1, e2⟩ := key 1 _ (by omega) (by rw [hxs]; rfl)
    rw [e2, str s (tyN 1) (by rw [e1]; rfl)]
  · obtain ⟨s, e1, e2⟩ := key 2 _ (by omega) (by rw [hxs]; rfl)
    rw [e2, str s (tyN 2) (by rw [e1]; rfl)]
  · obtain ⟨s, e1, e2⟩ := key 3 _ (by omega) (by rw [hxs]; rfl)
    rw [e2, str s (tyN 3) (by rw [e1]; rfl)]
  · obtain ⟨s, e1, e2⟩ := key 4 _ (by omega) (by rw [hxs]; rfl)
    rw [e2, str s (tyN 4) (by rw [e1]; rfl)]

section
variable {H : Type} {enc : TypeId × Value → H} {w : World} {base : Nat} {spare : Nat → Bool} {held : Bool}
end
end Go.Proofs.YtogmbehomilalaaGreatDoor
end

/- What the laws ask of the driver. -/
section
namespace Go.Proofs.YtogmbehomilalaaGreatDoor
open Go Go.RowKit Go.Deep

/-- The examples of the chapter hold in whatever world goes on from here. -/
def WorksAt (w : World) : Prop := ∀ W, Below w.heap.size w W → Calls Tryz.prog 7 #[] W fun e w' => e = .returned (.bool true) ∧ Below W.heap.size W w'
end Go.Proofs.YtogmbehomilalaaGreatDoor
end

/- The driver's works, behind whatever went before. -/
section
namespace Go.Proofs.YtogmbehomilalaaGreatDoor
open Go.ChangeShapes Go.WideShapes Go.ChangeAt Go.RowKit

theorem works_at {W : World} {ml : Int} (htab : Tab W) (htt : TyTab W) (hml : W.cell? ⟨6, 0, none⟩ = some (.int .i64 ml)) : WorksAt W := fun V hV =>
  w_works V ml (htab.below hV) (fun t h1 h2 => (hV.cell (p := ⟨0, t, none⟩) (cell_lt (htt t h1 h2))).trans (htt t h1 h2)) ((hV.cell (p := ⟨6, 0, none⟩) (cell_lt hml)).trans hml)

end Go.Proofs.YtogmbehomilalaaGreatDoor
end

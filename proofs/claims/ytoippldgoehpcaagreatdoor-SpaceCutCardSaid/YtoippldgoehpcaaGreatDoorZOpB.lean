/- From the row's condition to the walk: a box. -/
import Derived.Test.YtoippldgoehpcaaGreatDoorZOpI
import Derived.Test.YtoippldgoehpcaaGreatDoorZCmpS
namespace Go.Proofs.YtoippldgoehpcaaGreatDoor
open Go Go.ChangeShapes Go.WideShapes Go.ChangeAt Go.RowKit

theorem box_fields : ∃ f0 f1 : Field, Tryz.prog.underlying 66 = some (.struct #[f0, f1]) ∧ f0.type = 38 ∧ f0.offset = 0 ∧ f1.type = 38 ∧ f1.offset = 1 :=
  ⟨_, _, Tryz.underlying66, rfl, rfl, rfl, rfl⟩
section
variable {H : Type} {enc : TypeId × Value → H} {w : World} {base : Nat} {spare : Nat → Bool} {held : Bool}
theorem open_ints1 {fuel : Nat} {c0 : Value} {x : DataW H × List MemPlace} (h : DataW.trod enc Tryz.prog w base spare held fuel 38 [c0] = some x) :
    ∃ (A : Option Addr) (n cap : Nat) (xs : Nat → Int), c0 = .slice A n cap ∧ IntsAt w A n xs ∧ n ≤ 9223372036854775807 := by
  have h' := h
  have c1 : Tryz.prog.cellsOf 3 = 1 := by kernel_rfl
  rcases open_ints Tryz.underlying38 Tryz.underlying3 c1 h with ⟨hcs, _⟩ | ⟨a, len, cap', zs, hcs, _⟩
  · obtain rfl : c0 = .slice none 0 0 := by simpa using hcs
    obtain ⟨xs, h1, h2, _⟩ := open_intsAt h'
    exact ⟨_, _, _, xs, rfl, h1, h2⟩
  · obtain rfl : c0 = .slice (some a) len cap' := by simpa using hcs
    obtain ⟨xs, h1, h2, _⟩ := open_intsAt h'
    exact ⟨_, _, _, xs, rfl, h1, h2⟩
set_option maxRecDepth 100000 in
theorem open_boxA {r : Reach} {b0 : Nat} {v : Value} {dt : DataW H} {ps : List MemPlace} (hval : Value.okWide Tryz.prog w r b0 66 v) (hd : DataW.Trod enc Tryz.prog w base spare held 66 v dt ps) :
    ∃ (A B : Option Addr) (n c m d : Nat) (l h : Nat → Int), v = BoxW A B n c m d ∧ IntsAt w A n l ∧ IntsAt w B m h := by
  obtain ⟨f0, f1, hu, t0, o0, t1, o1⟩ := box_fields
  obtain ⟨cs, rfl, hsz⟩ := okWide_struct hu hval
  have c2 : Tryz.prog.cellsOf 66 = 2 := by kernel_rfl
  have ci : Tryz.prog.cellsOf 38 = 1 := by kernel_rfl
  rw [c2] at hsz
  obtain ⟨fuel, hf⟩ := hd
  obtain ⟨l⟩ := cs
  match l, hsz with
  | [c0, c1], _ =>
    have hf' : DataW.trod enc Tryz.prog w base spare held fuel 66 [c0, c1] = some (dt, ps) := hf
    obtain ⟨xs, n, _, _, _, hlen, hfl⟩ := DataW.trod_struct hu hf'
    have l0 : 0 < xs.length := by rw [hlen]; simp
    have l1 : 1 < xs.length := by rw [hlen]; simp
    have q0 := hfl 0 f0 rfl
    have q1 := hfl 1 f1 rfl
    rw [t0, o0, ci, List.getElem?_eq_getElem l0] at q0
    rw [t1, o1, ci, List.getElem?_eq_getElem l1] at q1
    have q0' : DataW.trod enc Tryz.prog w base spare held n 38 [c0] = some xs[0] := by simpa using q0
    have q1' : DataW.trod enc Tryz.prog w base spare held n 38 [c1] = some xs[1] := by simpa using q1
    obtain ⟨A, n0, k0, x0, rfl, i0, _⟩ := open_ints1 q0'
    obtain ⟨B, n1, k1, x1, rfl, i1, _⟩ := open_ints1 q1'
    exact ⟨A, B, n0, k0, n1, k1, x0, x1, rfl, i0, i1⟩
end
end Go.Proofs.YtoippldgoehpcaaGreatDoor

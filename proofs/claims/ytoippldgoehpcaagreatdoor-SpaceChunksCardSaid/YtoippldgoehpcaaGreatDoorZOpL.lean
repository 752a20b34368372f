/- From the row's condition to the walk: a layout. -/
import Derived.Test.YtoippldgoehpcaaGreatDoorZOpB
import Derived.Test.YtoippldgoehpcaaGreatDoorZChB
namespace Go.Proofs.YtoippldgoehpcaaGreatDoor
open Go Go.ChangeShapes Go.WideShapes Go.ChangeAt Go.RowKit

theorem lay_fields : ∃ f0 f1 f2 f3 f4 f5 : Field, Tryz.prog.underlying 75 = some (.struct #[f0, f1, f2, f3, f4, f5]) ∧ (f0.type = 38 ∧ f0.offset = 0) ∧ (f1.type = 38 ∧ f1.offset = 1) ∧ (f2.type = 3 ∧ f2.offset = 2) ∧ (f3.type = 3 ∧ f3.offset = 3) ∧ (f4.type = 3 ∧ f4.offset = 4) ∧ (f5.type = 3 ∧ f5.offset = 5) :=
  ⟨_, _, _, _, _, _, Tryz.underlying75, ⟨rfl, rfl⟩, ⟨rfl, rfl⟩, ⟨rfl, rfl⟩, ⟨rfl, rfl⟩, ⟨rfl, rfl⟩, ⟨rfl, rfl⟩⟩
section
variable {H : Type} {enc : TypeId × Value → H} {w : World} {base : Nat} {spare : Nat → Bool} {held : Bool}
set_option maxRecDepth 100000 in
theorem open_layA {r : Reach} {b0 : Nat} {v : Value} {dt : DataW H} {ps : List MemPlace} (hval : Value.okWide Tryz.prog w r b0 75 v) (hd : DataW.Trod enc Tryz.prog w base spare held 75 v dt ps) :
    ∃ (S O : Option Addr) (s sc o oc : Nat) (sd ov : Nat → Int) (ord tile form codec : Int), v = LayV S s sc O o oc ord tile form codec ∧ IntsAt w S s sd ∧ IntsAt w O o ov := by
  obtain ⟨f0, f1, f2, f3, f4, f5, hu, ⟨t0, o0⟩, ⟨t1, o1⟩, ⟨t2, o2⟩, ⟨t3, o3⟩, ⟨t4, o4⟩, ⟨t5, o5⟩⟩ := lay_fields
  obtain ⟨cs, rfl, hsz⟩ := okWide_struct hu hval
  have c2 : Tryz.prog.cellsOf 75 = 6 := by kernel_rfl
  have cl : Tryz.prog.cellsOf 38 = 1 := by kernel_rfl
  have ci : Tryz.prog.cellsOf 3 = 1 := by kernel_rfl
  rw [c2] at hsz
  obtain ⟨fuel, hf⟩ := hd
  obtain ⟨l⟩ := cs
  match l, hsz with
  | [c0, c1, c2, c3, c4, c5], _ =>
    have hf' : DataW.trod enc Tryz.prog w base spare held fuel 75 [c0, c1, c2, c3, c4, c5] = some (dt, ps) := hf
    obtain ⟨xs, n, _, _, _, hlen, hfl⟩ := DataW.trod_struct hu hf'
    have l0 : 0 < xs.length := by rw [hlen]; simp
    have l1 : 1 < xs.length := by rw [hlen]; simp
    have l2 : 2 < xs.length := by rw [hlen]; simp
    have l3 : 3 < xs.length := by rw [hlen]; simp
    have l4 : 4 < xs.length := by rw [hlen]; simp
    have l5 : 5 < xs.length := by rw [hlen]; simp
    have q0 := hfl 0 f0 rfl
    have q1 := hfl 1 f1 rfl
    have q2 := hfl 2 f2 rfl
    have q3 := hfl 3 f3 rfl
    have q4 := hfl 4 f4 rfl
    have q5 := hfl 5 f5 rfl
    rw [t0, o0, cl, List.getElem?_eq_getElem l0] at q0
    rw [t1, o1, cl, List.getElem?_eq_getElem l1] at q1
    rw [t2, o2, ci, List.getElem?_eq_getElem l2] at q2
    rw [t3, o3, ci, List.getElem?_eq_getElem l3] at q3
    rw [t4, o4, ci, List.getElem?_eq_getElem l4] at q4
    rw [t5, o5, ci, List.getElem?_eq_getElem l5] at q5
    have q0' : DataW.trod enc Tryz.prog w base spare held n 38 [c0] = some xs[0] := by simpa using q0
    have q1' : DataW.trod enc Tryz.prog w base spare held n 38 [c1] = some xs[1] := by simpa using q1
    obtain ⟨A, n0, k0, x0, rfl, i0, _⟩ := open_ints1 q0'
    obtain ⟨B, n1, k1, x1, rfl, i1, _⟩ := open_ints1 q1'
    obtain ⟨z2, e2, _, _⟩ := DataW.trod_int Tryz.underlying3 q2
    obtain ⟨z3, e3, _, _⟩ := DataW.trod_int Tryz.underlying3 q3
    obtain ⟨z4, e4, _, _⟩ := DataW.trod_int Tryz.underlying3 q4
    obtain ⟨z5, e5, _, _⟩ := DataW.trod_int Tryz.underlying3 q5
    obtain rfl : c2 = .int .i64 z2 := by simpa using e2
    obtain rfl : c3 = .int .i64 z3 := by simpa using e3
    obtain rfl : c4 = .int .i64 z4 := by simpa using e4
    obtain rfl : c5 = .int .i64 z5 := by simpa using e5
    exact ⟨A, B, n0, k0, n1, k1, x0, x1, z2, z3, z4, z5, rfl, i0, i1⟩
end
end Go.Proofs.YtoippldgoehpcaaGreatDoor

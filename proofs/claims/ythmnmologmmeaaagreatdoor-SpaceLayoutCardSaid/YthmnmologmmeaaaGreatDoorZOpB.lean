/- From the row's condition to the walk: a list of integers. -/
import Derived.Test.YthmnmologmmeaaaGreatDoorZWka
import Derived.Test.YthmnmologmmeaaaGreatDoorZCmpS

/- From the row's condition to the walk: a list of integers. -/
section
namespace Go.Proofs.YthmnmologmmeaaaGreatDoor
open Go Go.ChangeShapes Go.WideShapes Go.ChangeAt Go.RowKit

section
variable {H : Type} {enc : TypeId × Value → H} {w : World} {base : Nat} {spare : Nat → Bool} {held : Bool}
theorem open_intsAt {fuel : Nat} {A : Option Addr} {n cap : Nat} {x : DataW H × List MemPlace} (h : DataW.trod enc Tryz.prog w base spare held fuel 35 [.slice A n cap] = some x) :
    ∃ xs : Nat → Int, IntsAt w A n xs ∧ n ≤ 9223372036854775807 ∧ ∀ k, k < n → -9223372036854775808 ≤ xs k ∧ xs k ≤ 9223372036854775807 := by
  have c1 : Tryz.prog.cellsOf 3 = 1 := by kernel_rfl
  rcases open_ints Tryz.underlying35 Tryz.underlying3 c1 h with ⟨hcs, _⟩ | ⟨a, len, cap', zs, hcs, _, hl, hm, hz, hx, hcell, hwf⟩
  · obtain ⟨rfl, rfl, rfl⟩ : A = none ∧ n = 0 ∧ cap = 0 := by simpa using hcs
    exact ⟨fun _ => 0, fun h9 => absurd h9 (by omega), by omega, fun _ h9 => absurd h9 (by omega)⟩
  · obtain ⟨rfl, rfl, rfl⟩ : A = some a ∧ n = len ∧ cap = cap' := by simpa using hcs
    have hlen : n ≤ zs.length := by rw [hz]; split <;> omega
    refine ⟨fun k => zs.getD k 0, fun hn => ?_, Nat.le_trans hl (Nat.le_trans hm (by decide)), fun k hk => ?_⟩
    · obtain ⟨b, o, rfl, hc⟩ := ints_at hcell (by omega)
      exact ⟨b, o, rfl, cell_lt (hc 0 (by omega)), fun k hk => hc k (by omega)⟩
    · have e : zs.getD k 0 = zs[k]'(by omega) := by simp [List.getD, List.getElem?_eq_getElem (show k < zs.length by omega)]
      show -9223372036854775808 ≤ zs.getD k 0 ∧ zs.getD k 0 ≤ 9223372036854775807
      rw [e]
      exact bounds_i64 (hwf _ (List.getElem_mem _))
end
end Go.Proofs.YthmnmologmmeaaaGreatDoor
end

/- From the row's condition to the walk: a box. -/
section
namespace Go.Proofs.YthmnmologmmeaaaGreatDoor
open Go Go.ChangeShapes Go.WideShapes Go.ChangeAt Go.RowKit

theorem box_fields : ∃ f0 f1 : Field, Tryz.prog.underlying 66 = some (.struct #[f0, f1]) ∧ f0.type = 35 ∧ f0.offset = 0 ∧ f1.type = 35 ∧ f1.offset = 1 :=
  ⟨_, _, Tryz.underlying66, rfl, rfl, rfl, rfl⟩
section
variable {H : Type} {enc : TypeId × Value → H} {w : World} {base : Nat} {spare : Nat → Bool} {held : Bool}
theorem open_ints1 {fuel : Nat} {c0 : Value} {x : DataW H × List MemPlace} (h : DataW.trod enc Tryz.prog w base spare held fuel 35 [c0] = some x) :
    ∃ (A : Option Addr) (n cap : Nat) (xs : Nat → Int), c0 = .slice A n cap ∧ IntsAt w A n xs ∧ n ≤ 9223372036854775807 := by
  have h' := h
  have c1 : Tryz.prog.cellsOf 3 = 1 := by kernel_rfl
  rcases open_ints Tryz.underlying35 Tryz.underlying3 c1 h with ⟨hcs, _⟩ | ⟨a, len, cap', zs, hcs, _⟩
  · obtain rfl : c0 = .slice none 0 0 := by simpa using hcs
    obtain ⟨xs, h1, h2, _⟩ := open_intsAt h'
    exact ⟨_, _, _, xs, rfl, h1, h2⟩
  · obtain rfl : c0 = .slice (some a) len cap' := by simpa using hcs
    obtain ⟨xs, h1, h2, _⟩ := open_intsAt h'
    exact ⟨_, _, _, xs, rfl, h1, h2⟩
set_option maxRecDepth 100000 in
theorem open_boxA {r : Reach} {b0 : Nat} {v : Value} {dt : DataW H} {ps : List MemPlace} (hval : Value.okWide Tryz.prog w r b0 66 v) (hd : DataW.Trod enc Tryz.prog w base spare held 66 v dt ps) :
    ∃ (A B : Option Addr) (n c m d : Nat) (l h : Nat → Int), v = BoxW A B n c m d ∧ IntsAt w A n l ∧ IntsAt w B m h := by
  obtain ⟨f0, f1, hu, t0, o0, t1, o1⟩ := box_fields
  obtain ⟨cs, rfl, hsz⟩ := okWide_struct hu hval
  have c2 : Tryz.prog.cellsOf 66 = 2 := by kernel_rfl
  have ci : Tryz.prog.cellsOf 35 = 1 := by kernel_rfl
  rw [c2] at hsz
  obtain ⟨fuel, hf⟩ := hd
  obtain ⟨l⟩ := cs
  match l, hsz with
  | [c0, c1], _ =>
    have hf' : DataW.trod enc Tryz.prog w base spare held fuel 66 [c0, c1] = some (dt, ps) := hf
    obtain ⟨xs, n, _, _, _, hlen, hfl⟩ := DataW.trod_struct hu hf'
    have l0 : 0 < xs.length := by rw [hlen]; simp
    have l1 : 1 < xs.length := by rw [hlen]; simp
    have q0 := hfl 0 f0 rfl
    have q1 := hfl 1 f1 rfl
    rw [t0, o0, ci, List.getElem?_eq_getElem l0] at q0
    rw [t1, o1, ci, List.getElem?_eq_getElem l1] at q1
    have q0' : DataW.trod enc Tryz.prog w base spare held n 35 [c0] = some xs[0] := by simpa using q0
    have q1' : DataW.trod enc Tryz.prog w base spare held n 35 [c1] = some xs[1] := by simpa using q1
    obtain ⟨A, n0, k0, x0, rfl, i0, _⟩ := open_ints1 q0'
    obtain ⟨B, n1, k1, x1, rfl, i1, _⟩ := open_ints1 q1'
    exact ⟨A, B, n0, k0, n1, k1, x0, x1, rfl, i0, i1⟩
end
end Go.Proofs.YthmnmologmmeaaaGreatDoor
end

/- The string of a text with a quote in it, and of a value that is none. -/
import Derived.Test.YthcpcaoapkmchaaGreatDoorZVal
import Derived.Test.YthcpcaoapkmchaaGreatDoorShelf
namespace Go.Proofs.YthcpcaoapkmchaaGreatDoor
open Go.RowKit Go.Deep

theorem ret_si {a b : ByteArray} {c : Int} (h : a = b) : Ending.returned (.tuple #[.string a, .int .i64 c]) = .returned (.tuple #[.string b, .int .i64 c]) := by rw [h]
set_option maxRecDepth 100000 in
set_option maxHeartbeats 2000000 in
theorem p_its (w : World) (m : Int) (hm : w.cell? ⟨0, 0, none⟩ = some (.int .i64 m)) :
    Calls Tryz.prog 23 #[V 3 0 0 ⟨#[105, 116, 39, 115]⟩] w fun e w' => e = .returned (.tuple #[.string ⟨#[39, 105, 116, 39, 39, 115, 39]⟩, .int .i64 0]) ∧ Below w.heap.size w w' := by
  obtain ⟨W, b, hW, hb, hlt, hbel, K⟩ := box_facts w 3 0 0 ⟨#[105, 116, 39, 115]⟩
  have HW := Lib.hid hW
  have h0 : 0 < w.heap.size := by
    by_cases h : 0 < w.heap.size
    · exact h
    · exfalso
      have : w.heap[0]? = none := Array.getElem?_eq_none (by omega)
      simp [World.cell?, this] at hm
  have HM : Hid (∀ W', Below w.heap.size w W' → W'.cell? ⟨0, 0, none⟩ = some (.int .i64 m)) := fun W' hw => (hw.cell (p := ⟨0, 0, none⟩) h0).trans hm
  have HB := Lib.hid hb
  have HV := Lib.hid (fun W => c_validValue 3 0 0 ⟨#[105, 116, 39, 115]⟩ W (.text _ ⟨by decide, by decide⟩))
  clear hm
  clear hW hb
  go_enter Tryz.func23, Tryz.ntmps23
  go_wp2_with fail
  rw [HW.out]
  refine (HV.out _).mono ?_
  rintro e w1 ⟨rfl, hb1⟩
  have B1 : Hid (Below w.heap.size w w1) := btr hbel hb1
  obtain ⟨k0, k1, k2, k3⟩ := K.out _ hb1
  have HR := Lib.hid (Tryz.strings_ReplaceAll ⟨#[105, 116, 39, 115]⟩ ⟨#[39]⟩ ⟨#[39, 39]⟩ m w1 (by decide) (HM.out _ B1.out) (by decide) (by decide))
  clear hb1 HV
  rw [← HB.out] at k0 k1 k2 k3
  go_wp2_with fail
  refine HR.out.mono ?_
  rintro e w2 ⟨rfl, hb2⟩
  have B2 : Hid (Below w.heap.size w w2) := btr B1.out hb2
  go_wp2
  go_ret2
  exact ⟨ret_si (by kernel_rfl), B2.out⟩
end Go.Proofs.YthcpcaoapkmchaaGreatDoor

/- Sums and values of numbers that are nil, or were not made by the package. -/
import Derived.Test.YtfkjfeobhbocjaaGreatDoorNil
namespace Go.Proofs.YtfkjfeobhbocjaaGreatDoor
open Go.RowKit Go.Deep

set_option maxRecDepth 100000 in
set_option maxHeartbeats 400000 in
theorem b_value (w : World) (x : Value) (hx : Bad w x) :
    Calls Tryz.prog 21 #[x] w fun e w' => e = .returned (V 0 0 0 noS) ∧ Below w.heap.size w w' := by
  have HV := Lib.hid (fun W (h : Below w.heap.size w W) => c_valid_bad W x (hx.below h))
  go_enter Tryz.func21, Tryz.ntmps21
  go_wp2_with fail
  refine (HV.out _ ((Below.refl _ _).alloc (Nat.le_refl _) _)).mono ?_
  rintro e w' ⟨rfl, rfl⟩
  clear HV
  go_wp2
  exact bodyPost_ret (v := V 0 0 0 noS) (by simp [results, Tryz.results21, go_sem]) rfl ⟨rfl, (Below.refl _ _).alloc (Nat.le_refl _) _⟩

end Go.Proofs.YtfkjfeobhbocjaaGreatDoor

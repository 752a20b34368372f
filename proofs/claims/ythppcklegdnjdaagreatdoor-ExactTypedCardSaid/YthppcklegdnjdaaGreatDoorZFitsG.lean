/- Does a value fit a type? Whatever both are. -/
import Derived.Test.YthppcklegdnjdaaGreatDoorZInv
import Derived.Test.YthppcklegdnjdaaGreatDoorZTyp4
import Derived.Test.YthppcklegdnjdaaGreatDoorZOrdG
namespace Go.Proofs.YthppcklegdnjdaaGreatDoor
open Go.RowKit Go.Deep

/-- Does a valid value fit a type? -/
def fitB (k d t : Int) : Bool := if k = 0 then true else if t = 1 then k == 1 else if t = 2 then (k == 2 && d == 1) else if t = 3 then k == 2 else k == 3
set_option maxRecDepth 100000 in
set_option maxHeartbeats 2000000 in
theorem k_fits (k n d : Int) (s : ByteArray) (t : Int) (w : World) :
    Calls Tryz.prog 53 #[V k n d s, .int .i64 t] w fun e w' => e = .returned (.bool (fitB k d t)) ∧ Below w.heap.size w w' := by
  have HBE : Hid (Below w.heap.size w (w.alloc (.cells #[.int .i64 k, .int .i64 n, .int .i64 d, .string s] 24))) := (Below.refl _ _).alloc (Nat.le_refl _) _
  by_cases k0 : k = 0
  · subst k0
    rw [show fitB 0 d t = true from if_pos rfl]
    go_enter Tryz.func53, Tryz.ntmps53
    go_wp2
    go_ret
    exact ⟨rfl, HBE.out⟩
  by_cases t1 : t = 1
  · subst t1
    rw [show fitB k d 1 = (k == 1) by simp [fitB, k0]]
    go_enter Tryz.func53, Tryz.ntmps53
    go_wp2
    go_ret
    exact ⟨rfl, HBE.out⟩
  by_cases t2 : t = 2
  · subst t2
    by_cases k2 : k = 2
    · subst k2
      rw [show fitB 2 d 2 = (d == 1) by simp [fitB]]
      go_enter Tryz.func53, Tryz.ntmps53
      go_wp2
      go_ret
      exact ⟨rfl, HBE.out⟩
    · rw [show fitB k d 2 = false by simp [fitB, k0, k2]]
      go_enter Tryz.func53, Tryz.ntmps53
      go_wp2
      go_ret
      exact ⟨rfl, HBE.out⟩
  by_cases t3 : t = 3
  · subst t3
    rw [show fitB k d 3 = (k == 2) by simp [fitB, k0]]
    go_enter Tryz.func53, Tryz.ntmps53
    go_wp2
    go_ret
    exact ⟨rfl, HBE.out⟩
  rw [show fitB k d t = (k == 3) by simp [fitB, k0, t1, t2, t3]]
  go_enter Tryz.func53, Tryz.ntmps53
  go_wp2
  go_ret
  exact ⟨rfl, HBE.out⟩

set_option maxRecDepth 100000 in
set_option maxHeartbeats 2000000 in
theorem k_Fits (k n d : Int) (s : ByteArray) (t : Int) (w : World) :
    Calls Tryz.prog 17 #[V k n d s, .int .i64 t] w fun e w' => e = .returned (.bool (isTy t && (okB k n d s && fitB k d t))) ∧ Below w.heap.size w w' := by
  have HBE : Hid (Below w.heap.size w (w.alloc (.cells #[.int .i64 k, .int .i64 n, .int .i64 d, .string s] 24))) := (Below.refl _ _).alloc (Nat.le_refl _) _
  have HT := Lib.hid (fun W => c_isTypeB t W)
  have HV := Lib.hid (fun W => k_valid k n d s W)
  have HF := Lib.hid (fun W => k_fits k n d s t W)
  cases h1 : isTy t with
  | false =>
    rw [h1] at HT
    rw [show (false && (okB k n d s && fitB k d t)) = false from rfl]
    clear HV HF
    go_enter Tryz.func17, Tryz.ntmps17
    go_wp2_with fail
    refine (HT.out _).mono ?_
    rintro e w1 ⟨rfl, rfl⟩
    go_wp2
    go_ret
    exact ⟨rfl, HBE.out⟩
  | true =>
    rw [h1] at HT
    rw [Bool.true_and]
    cases h2 : okB k n d s with
    | false =>
      rw [h2] at HV
      rw [Bool.false_and]
      clear HF
      go_enter Tryz.func17, Tryz.ntmps17
      go_wp2_with fail
      refine (HT.out _).mono ?_
      rintro e w1 ⟨rfl, rfl⟩
      go_wp2_with fail
      refine (HV.out _).mono ?_
      rintro e w2 ⟨rfl, hb2⟩
      go_wp2
      go_ret
      exact ⟨rfl, HBE.out.trans (hb2.mono HBE.out.size)⟩
    | true =>
      rw [h2] at HV
      rw [Bool.true_and]
      generalize fitB k d t = r at *
      go_enter Tryz.func17, Tryz.ntmps17
      go_wp2_with fail
      refine (HT.out _).mono ?_
      rintro e w1 ⟨rfl, rfl⟩
      go_wp2_with fail
      refine (HV.out _).mono ?_
      rintro e w2 ⟨rfl, hb2⟩
      obtain ⟨x0, x1, x2, x3⟩ := row_v ((hb2.block _ (by simp)).trans (heap_alloc_new w _))
      go_wp2_with fail
      refine (HF.out _).mono ?_
      rintro e w3 ⟨rfl, hb3⟩
      go_wp2
      go_ret
      exact ⟨rfl, HBE.out.trans ((btr hb2 hb3).mono HBE.out.size)⟩
end Go.Proofs.YthppcklegdnjdaaGreatDoor

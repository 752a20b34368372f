/- Numbers that are nil, or were not made by the package: what the calls return. -/
import Derived.Test.YtfkjfeobhbocjaaGreatDoorEx
namespace Go.Proofs.YtfkjfeobhbocjaaGreatDoor
open Go.RowKit Go.Deep

def Bad (w : World) (v : Value) : Prop := v = .pointer none ∨ ∃ b, v = .pointer (some ⟨b, 0, none⟩) ∧ b < w.heap.size ∧ w.cell? ⟨b, 0, none⟩ = some (.pointer none)
theorem Bad.below {w w' : World} {v : Value} (h : Bad w v) (hb : Below w.heap.size w w') : Bad w' v := by
  rcases h with h | ⟨b, h1, h2, h3⟩
  · exact .inl h
  · exact .inr ⟨b, h1, Nat.lt_of_lt_of_le h2 hb.size, (hb.cell (p := ⟨b, 0, none⟩) h2).trans h3⟩
theorem c_valid_bad (w : World) (v : Value) (h : Bad w v) : Calls Tryz.prog 42 #[v] w fun e w' => e = .returned (.bool false) ∧ w = w' := by
  rcases h with h | ⟨b, h1, h2, h3⟩
  · rw [h]; exact c_valid_nil w
  · rw [h1]; exact c_valid_other w b h3
theorem b_add_l (w : World) (x y : Value) (hx : Bad w x) : Calls Tryz.prog 16 #[x, y] w fun e w' => e = .returned (.pointer none) ∧ w = w' := by
  have HV := Lib.hid (c_valid_bad w x hx)
  go_enter Tryz.func16, Tryz.ntmps16
  go_wp2_with fail
  refine HV.out.mono ?_
  rintro e w' ⟨rfl, rfl⟩
  go_wp2
  go_ret
  exact ⟨rfl, rfl⟩
theorem b_add_r (w : World) (x y : Value) (neg : Bool) (n d : Nat) (hx : RatAt w x neg n d) (hy : Bad w y) : Calls Tryz.prog 16 #[x, y] w fun e w' => e = .returned (.pointer none) ∧ w = w' := by
  have HV := Lib.hid (c_valid w x neg n d hx)
  have HV2 := Lib.hid (c_valid_bad w y hy)
  go_enter Tryz.func16, Tryz.ntmps16
  go_wp2_with fail
  refine HV.out.mono ?_
  rintro e w' ⟨rfl, rfl⟩
  go_wp2_with fail
  refine HV2.out.mono ?_
  rintro e w' ⟨rfl, rfl⟩
  go_wp2
  go_ret
  exact ⟨rfl, rfl⟩
theorem b_sub_l (w : World) (x y : Value) (hx : Bad w x) : Calls Tryz.prog 17 #[x, y] w fun e w' => e = .returned (.pointer none) ∧ w = w' := by
  have HV := Lib.hid (c_valid_bad w x hx)
  go_enter Tryz.func17, Tryz.ntmps17
  go_wp2_with fail
  refine HV.out.mono ?_
  rintro e w' ⟨rfl, rfl⟩
  go_wp2
  go_ret
  exact ⟨rfl, rfl⟩
theorem b_sub_r (w : World) (x y : Value) (neg : Bool) (n d : Nat) (hx : RatAt w x neg n d) (hy : Bad w y) : Calls Tryz.prog 17 #[x, y] w fun e w' => e = .returned (.pointer none) ∧ w = w' := by
  have HV := Lib.hid (c_valid w x neg n d hx)
  have HV2 := Lib.hid (c_valid_bad w y hy)
  go_enter Tryz.func17, Tryz.ntmps17
  go_wp2_with fail
  refine HV.out.mono ?_
  rintro e w' ⟨rfl, rfl⟩
  go_wp2_with fail
  refine HV2.out.mono ?_
  rintro e w' ⟨rfl, rfl⟩
  go_wp2
  go_ret
  exact ⟨rfl, rfl⟩
theorem b_mul_l (w : World) (x y : Value) (hx : Bad w x) : Calls Tryz.prog 18 #[x, y] w fun e w' => e = .returned (.pointer none) ∧ w = w' := by
  have HV := Lib.hid (c_valid_bad w x hx)
  go_enter Tryz.func18, Tryz.ntmps18
  go_wp2_with fail
  refine HV.out.mono ?_
  rintro e w' ⟨rfl, rfl⟩
  go_wp2
  go_ret
  exact ⟨rfl, rfl⟩
theorem b_mul_r (w : World) (x y : Value) (neg : Bool) (n d : Nat) (hx : RatAt w x neg n d) (hy : Bad w y) : Calls Tryz.prog 18 #[x, y] w fun e w' => e = .returned (.pointer none) ∧ w = w' := by
  have HV := Lib.hid (c_valid w x neg n d hx)
  have HV2 := Lib.hid (c_valid_bad w y hy)
  go_enter Tryz.func18, Tryz.ntmps18
  go_wp2_with fail
  refine HV.out.mono ?_
  rintro e w' ⟨rfl, rfl⟩
  go_wp2_with fail
  refine HV2.out.mono ?_
  rintro e w' ⟨rfl, rfl⟩
  go_wp2
  go_ret
  exact ⟨rfl, rfl⟩
theorem b_quo_l (w : World) (x y : Value) (hx : Bad w x) : Calls Tryz.prog 10 #[x, y] w fun e w' => e = .returned (.tuple #[.pointer none, .int .i64 1]) ∧ w = w' := by
  have HV := Lib.hid (c_valid_bad w x hx)
  go_enter Tryz.func10, Tryz.ntmps10
  go_wp2_with fail
  refine HV.out.mono ?_
  rintro e w' ⟨rfl, rfl⟩
  go_wp2
  go_ret2
  exact ⟨rfl, rfl⟩
theorem b_quo_r (w : World) (x y : Value) (neg : Bool) (n d : Nat) (hx : RatAt w x neg n d) (hy : Bad w y) : Calls Tryz.prog 10 #[x, y] w fun e w' => e = .returned (.tuple #[.pointer none, .int .i64 1]) ∧ w = w' := by
  have HV := Lib.hid (c_valid w x neg n d hx)
  have HV2 := Lib.hid (c_valid_bad w y hy)
  go_enter Tryz.func10, Tryz.ntmps10
  go_wp2_with fail
  refine HV.out.mono ?_
  rintro e w' ⟨rfl, rfl⟩
  go_wp2_with fail
  refine HV2.out.mono ?_
  rintro e w' ⟨rfl, rfl⟩
  go_wp2
  go_ret2
  exact ⟨rfl, rfl⟩
theorem b_cmp_l (w : World) (x y : Value) (hx : Bad w x) : Calls Tryz.prog 20 #[x, y] w fun e w' => e = .returned (.int .i64 0) ∧ w = w' := by
  have HV := Lib.hid (c_valid_bad w x hx)
  go_enter Tryz.func20, Tryz.ntmps20
  go_wp2_with fail
  refine HV.out.mono ?_
  rintro e w' ⟨rfl, rfl⟩
  go_wp2
  go_ret
  exact ⟨rfl, rfl⟩
theorem b_cmp_r (w : World) (x y : Value) (neg : Bool) (n d : Nat) (hx : RatAt w x neg n d) (hy : Bad w y) : Calls Tryz.prog 20 #[x, y] w fun e w' => e = .returned (.int .i64 0) ∧ w = w' := by
  have HV := Lib.hid (c_valid w x neg n d hx)
  have HV2 := Lib.hid (c_valid_bad w y hy)
  go_enter Tryz.func20, Tryz.ntmps20
  go_wp2_with fail
  refine HV.out.mono ?_
  rintro e w' ⟨rfl, rfl⟩
  go_wp2_with fail
  refine HV2.out.mono ?_
  rintro e w' ⟨rfl, rfl⟩
  go_wp2
  go_ret
  exact ⟨rfl, rfl⟩
theorem b_sign (w : World) (x : Value) (hx : Bad w x) : Calls Tryz.prog 13 #[x] w fun e w' => e = .returned (.int .i64 0) ∧ w = w' := by
  have HV := Lib.hid (c_valid_bad w x hx)
  go_enter Tryz.func13, Tryz.ntmps13
  go_wp2_with fail
  refine HV.out.mono ?_
  rintro e w' ⟨rfl, rfl⟩
  go_wp2
  go_ret
  exact ⟨rfl, rfl⟩
theorem b_text (w : World) (x : Value) (hx : Bad w x) : Calls Tryz.prog 12 #[x] w fun e w' => e = .returned (.string noS) ∧ w = w' := by
  have HV := Lib.hid (c_valid_bad w x hx)
  go_enter Tryz.func12, Tryz.ntmps12
  go_wp2_with fail
  refine HV.out.mono ?_
  rintro e w' ⟨rfl, rfl⟩
  go_wp2
  go_ret
  exact ⟨rfl, rfl⟩
theorem b_floor (w : World) (x : Value) (hx : Bad w x) : Calls Tryz.prog 14 #[x] w fun e w' => e = .returned (.pointer none) ∧ w = w' := by
  have HV := Lib.hid (c_valid_bad w x hx)
  go_enter Tryz.func14, Tryz.ntmps14
  go_wp2_with fail
  refine HV.out.mono ?_
  rintro e w' ⟨rfl, rfl⟩
  go_wp2
  go_ret
  exact ⟨rfl, rfl⟩
theorem b_whole (w : World) (x : Value) (hx : Bad w x) : Calls Tryz.prog 15 #[x] w fun e w' => e = .returned (.bool false) ∧ w = w' := by
  have HV := Lib.hid (c_valid_bad w x hx)
  go_enter Tryz.func15, Tryz.ntmps15
  go_wp2_with fail
  refine HV.out.mono ?_
  rintro e w' ⟨rfl, rfl⟩
  go_wp2
  go_ret
  exact ⟨rfl, rfl⟩
theorem b_bits (w : World) (x : Value) (hx : Bad w x) : Calls Tryz.prog 11 #[x] w fun e w' => e = .returned (.tuple #[.int .i64 0, .int .i64 0]) ∧ w = w' := by
  have HV := Lib.hid (c_valid_bad w x hx)
  go_enter Tryz.func11, Tryz.ntmps11
  go_wp2_with fail
  refine HV.out.mono ?_
  rintro e w' ⟨rfl, rfl⟩
  go_wp2
  go_ret2
  exact ⟨rfl, rfl⟩
end Go.Proofs.YtfkjfeobhbocjaaGreatDoor

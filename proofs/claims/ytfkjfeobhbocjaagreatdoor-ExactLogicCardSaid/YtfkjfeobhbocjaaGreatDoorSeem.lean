/- Reading a string that is not one of a value. -/
import Derived.Test.YtfkjfeobhbocjaaGreatDoorRead
import Derived.Test.YtfkjfeobhbocjaaGreatDoorDo
namespace Go.Proofs.YtfkjfeobhbocjaaGreatDoor
open Go.RowKit Go.Deep

set_option maxRecDepth 100000 in
set_option maxHeartbeats 2000000 in
theorem seem_64 (w : World) (m : Int) (hm : w.cell? ⟨3, 0, none⟩ = some (.int .i64 m)) :
    Calls Tryz.prog 66 #[.string ⟨#[54, 47, 52]⟩] w fun e w' => e = .returned (V 0 0 0 noS) ∧ Below w.heap.size w w' := by
  have HP := Lib.hid (fun W => Tryz.strings_CutPrefix ⟨#[54, 47, 52]⟩ ⟨#[63]⟩ W)
  have h0 : 3 < w.heap.size := by
    by_cases h : 3 < w.heap.size
    · exact h
    · exfalso
      have : w.heap[3]? = none := Array.getElem?_eq_none (by omega)
      simp [World.cell?, this] at hm
  have HA := Lib.hid (fun W (hW : Below w.heap.size w W) => parse_64 W m ((hW.cell (p := ⟨3, 0, none⟩) h0).trans hm))
  clear hm
  have e1 : ((⟨#[54, 47, 52]⟩ : ByteArray) == (⟨#[116, 114, 117, 101]⟩ : ByteArray)) = false := by decide
  have e2 : ((⟨#[54, 47, 52]⟩ : ByteArray) == (⟨#[102, 97, 108, 115, 101]⟩ : ByteArray)) = false := by decide
  go_enter Tryz.func66, Tryz.ntmps66
  go_wp2_with fail
  have HR0 := Lib.hid (heap_alloc_new w (.cells #[.int .i64 0, .int .i64 0, .int .i64 0, .string ⟨#[]⟩] 46))
  generalize HW : w.alloc (.cells #[.int .i64 0, .int .i64 0, .int .i64 0, .string ⟨#[]⟩] 46) = W0 at *
  have B0 : Below w.heap.size w W0 := by rw [← HW]; exact (Below.refl _ _).alloc (Nat.le_refl _) _
  have hz0 : w.heap.size < W0.heap.size := by rw [← HW]; simp
  clear HW
  refine (HP.out _).mono ?_
  rintro e w1 ⟨rfl, hw⟩
  subst w1
  have e3 : Lib.hasPrefix [54, 47, 52] [63] = false := by kernel_rfl
  have e4 : (Lib.trimPrefix [54, 47, 52] [63]).toArray = #[54, 47, 52] := by kernel_rfl
  have e5 : ((((⟨#[54, 47, 52]⟩ : ByteArray)[0].toNat : Nat) : Int) == 39) = false := by decide
  simp only [e3, e4]
  clear HP e3 e4 e1 e2
  go_wp2_with fail
  refine (HA.out _ B0).mono ?_
  rintro e w1 ⟨rfl, hb1⟩
  have B1 : Hid (Below w.heap.size w w1) := btr B0 hb1
  have hh1 := (hb1.block _ hz0).trans HR0.out
  have hz1 : w.heap.size < w1.heap.size := Nat.lt_of_lt_of_le hz0 hb1.size
  clear hb1 HA HR0 e5 B0 hz0
  go_wp2_with fail
  refine (value_nil _).mono ?_
  rintro e w2 ⟨rfl, hb2⟩
  have B2 : Hid (Below w.heap.size w w2) := btr B1.out hb2
  have hh2 := (hb2.block _ hz1).trans hh1
  obtain ⟨r0, r1, r2, r3, f0, f1, f2, f3⟩ := res_at hh2
  have HH2 := Lib.hid hh2
  clear hh1 hh2 hb2
  go_wp2
  exact bodyPost_ret (v := V 0 0 0 noS) (results_cell_row Tryz.results66 _ _ w.heap.size 46 _ (0, 0) _ rfl (put4 HH2.out _ _ _ _) Tryz.underlying46 rfl (by rw [info_v4]; rfl)) rfl ⟨rfl, below4 B2.out _ (Nat.le_refl _) _ _ _ _⟩

set_option maxRecDepth 100000 in
set_option maxHeartbeats 2000000 in
theorem read_64 (w : World) (m : Int) (hm : w.cell? ⟨3, 0, none⟩ = some (.int .i64 m)) :
    Calls Tryz.prog 32 #[.string ⟨#[54, 47, 52]⟩] w fun e w' => e = .returned (.tuple #[V 0 0 0 noS, .int .i64 7]) ∧ Below w.heap.size w w' := by
  have HP := Lib.hid (fun W => p_none W)
  have h0 : 3 < w.heap.size := by
    by_cases h : 3 < w.heap.size
    · exact h
    · exfalso
      have : w.heap[3]? = none := Array.getElem?_eq_none (by omega)
      simp [World.cell?, this] at hm
  have HA := Lib.hid (fun W (hW : Below w.heap.size w W) => seem_64 W m ((hW.cell (p := ⟨3, 0, none⟩) h0).trans hm))
  clear hm
  go_enter Tryz.func32, Tryz.ntmps32
  go_wp2_with fail
  have HR0 := Lib.hid (heap_alloc_new w (.cells #[.int .i64 0, .int .i64 0, .int .i64 0, .string ⟨#[]⟩] 46))
  generalize HW : w.alloc (.cells #[.int .i64 0, .int .i64 0, .int .i64 0, .string ⟨#[]⟩] 46) = W0 at *
  have B0 : Below w.heap.size w W0 := by rw [← HW]; exact (Below.refl _ _).alloc (Nat.le_refl _) _
  have hz0 : w.heap.size < W0.heap.size := by rw [← HW]; simp
  clear HW
  refine (HA.out _ B0).mono ?_
  rintro e w1 ⟨rfl, hb1⟩
  have B1 : Hid (Below w.heap.size w w1) := btr B0 hb1
  have hh1 := (hb1.block _ hz0).trans HR0.out
  have hz1 : w.heap.size < w1.heap.size := Nat.lt_of_lt_of_le hz0 hb1.size
  clear hb1 HA HR0 B0 hz0
  go_wp2_with fail
  refine (HP.out _).mono ?_
  rintro e w2 ⟨rfl, hb2⟩
  have hr2 := (hb2.block _ (by simp; omega)).trans ((Below.heap_alloc w1 _ _ hz1).trans hh1)
  have B2 : Hid (Below w.heap.size w w2) := btr (B1.out.alloc (by omega) _) hb2
  have hz2 : w.heap.size < w2.heap.size := (Array.getElem?_eq_some_iff.1 hr2).1
  clear hb2 hh1 HP
  go_wp2_with (refine wpList_store_row 46 _ _ rfl rfl rfl w.heap.size 46 rfl [.int .i64 0, .int .i64 0, .int .i64 0, .string noS] rfl _ hr2 rfl info_val (val_one _ _ _ _) ?_; intro wz hhz hgz hzz; have HBz : Hid (Below w.heap.size w wz) := B2.out.grown hgz B2.out.size (fun j hj => by injection hj with hj; omega); clear hzz hgz hr2)
  exact bodyPost_ret (v := .tuple #[V 0 0 0 noS, .int .i64 7]) (results_cell_tmp Tryz.results32 _ _ w.heap.size 46 _ (0, 0) _ rfl hhz Tryz.underlying46 rfl (by rw [info_val]; rfl)) rfl ⟨rfl, HBz.out⟩
end Go.Proofs.YtfkjfeobhbocjaaGreatDoor

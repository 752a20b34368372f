/- The string of a text with a quote in it, and of a value that is none. -/
import Derived.Test.YtnfncdalneifnaaGreatDoorZVal
import Derived.Test.YtnfncdalneifnaaGreatDoorShelf
import Derived.Test.YtnfncdalneifnaaGreatDoorZNum
import Derived.Test.YtnfncdalneifnaaGreatDoorZDo

/- The string of a text with a quote in it, and of a value that is none. -/
section
namespace Go.Proofs.YtnfncdalneifnaaGreatDoor
open Go.RowKit Go.Deep

theorem ret_si {a b : ByteArray} {c : Int} (h : a = b) : Ending.returned (.tuple #[.string a, .int .i64 c]) = .returned (.tuple #[.string b, .int .i64 c]) := by rw [h]
set_option maxRecDepth 100000 in
set_option maxHeartbeats 2000000 in
theorem p_its (w : World) (m : Int) (hm : w.cell? ⟨3, 0, none⟩ = some (.int .i64 m)) :
    Calls Tryz.prog 21 #[V 3 0 0 ⟨#[105, 116, 39, 115]⟩] w fun e w' => e = .returned (.tuple #[.string ⟨#[39, 105, 116, 39, 39, 115, 39]⟩, .int .i64 0]) ∧ Below w.heap.size w w' := by
  obtain ⟨W, b, hW, hb, hlt, hbel, K⟩ := box_facts w 3 0 0 ⟨#[105, 116, 39, 115]⟩
  have HW := Lib.hid hW
  have h0 : 3 < w.heap.size := by
    by_cases h : 3 < w.heap.size
    · exact h
    · exfalso
      have : w.heap[3]? = none := Array.getElem?_eq_none (by omega)
      simp [World.cell?, this] at hm
  have HM : Hid (∀ W', Below w.heap.size w W' → W'.cell? ⟨3, 0, none⟩ = some (.int .i64 m)) := fun W' hw => (hw.cell (p := ⟨3, 0, none⟩) h0).trans hm
  have HB := Lib.hid hb
  have HV := Lib.hid (fun W => c_validValue 3 0 0 ⟨#[105, 116, 39, 115]⟩ W (.text _ ⟨by decide, by decide⟩))
  clear hm
  clear hW hb
  go_enter Tryz.func21, Tryz.ntmps21
  go_wp2_with fail
  rw [HW.out]
  refine (HV.out _).mono ?_
  rintro e w1 ⟨rfl, hb1⟩
  have B1 : Hid (Below w.heap.size w w1) := btr hbel hb1
  obtain ⟨k0, k1, k2, k3⟩ := K.out _ hb1
  have HR := Lib.hid (Tryz.strings_ReplaceAll ⟨#[105, 116, 39, 115]⟩ ⟨#[39]⟩ ⟨#[39, 39]⟩ m w1 (by decide) (HM.out _ B1.out) (by decide) (by decide))
  clear hb1 HV
  rw [← HB.out] at k0 k1 k2 k3
  go_wp2_with fail
  refine HR.out.mono ?_
  rintro e w2 ⟨rfl, hb2⟩
  have B2 : Hid (Below w.heap.size w w2) := btr B1.out hb2
  go_wp2
  go_ret2
  exact ⟨ret_si (by kernel_rfl), B2.out⟩
end Go.Proofs.YtnfncdalneifnaaGreatDoor
end

/- Reading a string that is not one of a number in lowest terms. -/
section
namespace Go.Proofs.YtnfncdalneifnaaGreatDoor
open Go.RowKit Go.Deep


set_option maxRecDepth 100000 in
theorem is_dec6 (w : World) :
    Calls Tryz.prog 170 #[.string ⟨#[54]⟩] w fun e w' => e = .returned (.bool true) ∧ ∃ n, w' = w.drewN n := by
  go_enter Tryz.func170, Tryz.ntmps170
  go_wp2
  refine wp_loop_rounds 2 ?_
  rw [rounds_succ]
  go_wp2
  rw [rounds_succ]
  go_wp2
  go_ret
  exact ⟨rfl, by first | exact ⟨0, rfl⟩ | exact ⟨_, rfl⟩ | exact ⟨_, World.drewN_drewN _ _ _⟩⟩

set_option maxRecDepth 100000 in
set_option maxHeartbeats 2000000 in
theorem read_dec6 (w : World) :
    Calls Tryz.prog 171 #[.string ⟨#[54]⟩] w fun e w' => NatRet w 6 e w' := by
  have hmk := fun W => run_make_row' (P := Tryz.prog) 76 71 (.int .u64 0) 8 Tryz.underlying76 info_u64 rfl .i64 .i64 1 (by omega) (by omega) W
  simp only [Int.natCast_one] at hmk
  go_enter Tryz.func171, Tryz.ntmps171
  go_wp2
  clear hmk
  have hrow0 : (w.alloc (.cells (madeCells #[.int .u64 0] 1) 71)).rowIs w.heap.size 71 1 (fun j => U ((fun _ => 0) j)) := World.rowIs_made _ _ _ _
  have hbel0 : Below w.heap.size w (w.alloc (.cells (madeCells #[.int .u64 0] 1) 71)) := (Below.refl _ _).alloc (Nat.le_refl _) _
  generalize w.alloc (.cells (madeCells #[.int .u64 0] 1) 71) = W at *
  have HROW := Lib.hid hrow0
  have HBEL := Lib.hid hbel0
  clear hrow0 hbel0
  refine wp_loop_rounds 2 ?_
  rw [rounds_succ]
  go_wp2
  refine wp_loop_rounds 2 ?_
  rw [rounds_succ]
  go_wp2
  rw [rounds_succ]
  go_wp2
  have e6 : ((((⟨#[54]⟩ : ByteArray)[0].toNat : Nat) : Int) - 48) % 256 = ((6 : Nat) : Int) := by rfl
  simp only [e6]
  have hS : W.cell? ⟨w.heap.size, 0, none⟩ = some (U 0) := HROW.out.cell (i := 0) (by omega)
  have hZ := HROW.out.frozen 0
  refine wp_loop_rounds 2 ?_
  rw [rounds_succ]
  go_wp2_with fail
  refine (c_mulWords 0 10000000000000000000 6 W (by decide) (by decide) (by decide)).mono ?_
  rintro e w1 ⟨rfl, rfl⟩
  go_wp2
  have HS1 := Lib.hid (set_nat HROW.out 0 6 (.int .u64 (6 % (W64 : Int))) (by unfold W64; rfl))
  have HB1 : Hid (Below w.heap.size w (W.setCell ⟨w.heap.size, 0, none⟩ (.int .u64 (6 % (W64 : Int))))) := HBEL.out.setCell (Nat.le_refl w.heap.size) _
  generalize W.setCell ⟨w.heap.size, 0, none⟩ (.int .u64 (6 % (W64 : Int))) = W2 at *
  clear hS hZ HROW HBEL
  have hlt : w.heap.size < W2.heap.size := HS1.out.lt
  have HW : Hid (Wd W2 W2.heap.size (some ⟨w.heap.size, 0, none⟩) 1 (dig 6)) := Wd.row HS1.out fun j hj => by
    obtain rfl : j = 0 := by omega
    rfl
  have hn : nw 6 = 1 := nw_one 6 (by decide) (by decide)
  rw [rounds_succ]
  go_wp2
  rw [rounds_succ]
  go_wp2_with fail
  refine (c_trimmed W2 W2.heap.size _ 1 1 6 HW.out (by decide) (Nat.le_refl _) (by omega)).mono ?_
  rintro e w' ⟨rfl, rfl⟩
  go_wp2
  go_ret
  exact ⟨_, rfl, ⟨some ⟨w.heap.size, 0, none⟩, 1, by rw [hn]; rfl, Nat.le_of_eq hn, by omega, by rw [hn]; exact HW.out⟩, HB1.out⟩

set_option maxRecDepth 100000 in
theorem is_dec4 (w : World) :
    Calls Tryz.prog 170 #[.string ⟨#[52]⟩] w fun e w' => e = .returned (.bool true) ∧ ∃ n, w' = w.drewN n := by
  go_enter Tryz.func170, Tryz.ntmps170
  go_wp2
  refine wp_loop_rounds 2 ?_
  rw [rounds_succ]
  go_wp2
  rw [rounds_succ]
  go_wp2
  go_ret
  exact ⟨rfl, by first | exact ⟨0, rfl⟩ | exact ⟨_, rfl⟩ | exact ⟨_, World.drewN_drewN _ _ _⟩⟩

set_option maxRecDepth 100000 in
set_option maxHeartbeats 2000000 in
theorem read_dec4 (w : World) :
    Calls Tryz.prog 171 #[.string ⟨#[52]⟩] w fun e w' => NatRet w 4 e w' := by
  have hmk := fun W => run_make_row' (P := Tryz.prog) 76 71 (.int .u64 0) 8 Tryz.underlying76 info_u64 rfl .i64 .i64 1 (by omega) (by omega) W
  simp only [Int.natCast_one] at hmk
  go_enter Tryz.func171, Tryz.ntmps171
  go_wp2
  clear hmk
  have hrow0 : (w.alloc (.cells (madeCells #[.int .u64 0] 1) 71)).rowIs w.heap.size 71 1 (fun j => U ((fun _ => 0) j)) := World.rowIs_made _ _ _ _
  have hbel0 : Below w.heap.size w (w.alloc (.cells (madeCells #[.int .u64 0] 1) 71)) := (Below.refl _ _).alloc (Nat.le_refl _) _
  generalize w.alloc (.cells (madeCells #[.int .u64 0] 1) 71) = W at *
  have HROW := Lib.hid hrow0
  have HBEL := Lib.hid hbel0
  clear hrow0 hbel0
  refine wp_loop_rounds 2 ?_
  rw [rounds_succ]
  go_wp2
  refine wp_loop_rounds 2 ?_
  rw [rounds_succ]
  go_wp2
  rw [rounds_succ]
  go_wp2
  have e6 : ((((⟨#[52]⟩ : ByteArray)[0].toNat : Nat) : Int) - 48) % 256 = ((4 : Nat) : Int) := by rfl
  simp only [e6]
  have hS : W.cell? ⟨w.heap.size, 0, none⟩ = some (U 0) := HROW.out.cell (i := 0) (by omega)
  have hZ := HROW.out.frozen 0
  refine wp_loop_rounds 2 ?_
  rw [rounds_succ]
  go_wp2_with fail
  refine (c_mulWords 0 10000000000000000000 4 W (by decide) (by decide) (by decide)).mono ?_
  rintro e w1 ⟨rfl, rfl⟩
  go_wp2
  have HS1 := Lib.hid (set_nat HROW.out 0 4 (.int .u64 (4 % (W64 : Int))) (by unfold W64; rfl))
  have HB1 : Hid (Below w.heap.size w (W.setCell ⟨w.heap.size, 0, none⟩ (.int .u64 (4 % (W64 : Int))))) := HBEL.out.setCell (Nat.le_refl w.heap.size) _
  generalize W.setCell ⟨w.heap.size, 0, none⟩ (.int .u64 (4 % (W64 : Int))) = W2 at *
  clear hS hZ HROW HBEL
  have hlt : w.heap.size < W2.heap.size := HS1.out.lt
  have HW : Hid (Wd W2 W2.heap.size (some ⟨w.heap.size, 0, none⟩) 1 (dig 4)) := Wd.row HS1.out fun j hj => by
    obtain rfl : j = 0 := by omega
    rfl
  have hn : nw 4 = 1 := nw_one 4 (by decide) (by decide)
  rw [rounds_succ]
  go_wp2
  rw [rounds_succ]
  go_wp2_with fail
  refine (c_trimmed W2 W2.heap.size _ 1 1 4 HW.out (by decide) (Nat.le_refl _) (by omega)).mono ?_
  rintro e w' ⟨rfl, rfl⟩
  go_wp2
  go_ret
  exact ⟨_, rfl, ⟨some ⟨w.heap.size, 0, none⟩, 1, by rw [hn]; rfl, Nat.le_of_eq hn, by omega, by rw [hn]; exact HW.out⟩, HB1.out⟩

theorem nw_6 : nw 6 = 1 := nw_one 6 (by decide) (by decide)
theorem nw_4 : nw 4 = 1 := nw_one 4 (by decide) (by decide)
theorem nw_small6 : nw 6 ≤ 1000000000 := by rw [nw_6]; decide
theorem nw_small4 : nw 4 ≤ 1000000000 := by rw [nw_4]; decide
set_option maxRecDepth 100000 in
set_option maxHeartbeats 2000000 in
theorem parse_64 (w : World) (m : Int) (hm : w.cell? ⟨3, 0, none⟩ = some (.int .i64 m)) :
    Calls Tryz.prog 108 #[.string ⟨#[54, 47, 52]⟩] w fun e w' => e = .returned (.tuple #[.pointer none, .int .i64 7]) ∧ Below w.heap.size w w' := by
  have HP := Lib.hid (fun W => Tryz.strings_CutPrefix ⟨#[54, 47, 52]⟩ ⟨#[45]⟩ W)
  have HC := Lib.hid (Tryz.strings_Cut ⟨#[54, 47, 52]⟩ ⟨#[47]⟩ m w (by decide) hm)
  clear hm
  go_enter Tryz.func108, Tryz.ntmps108
  go_wp2_with fail
  refine (HP.out _).mono ?_
  rintro e w ⟨rfl, rfl⟩
  have e1 : (Lib.trimPrefix (⟨#[54, 47, 52]⟩ : ByteArray).data.toList (⟨#[45]⟩ : ByteArray).data.toList).toArray = #[54, 47, 52] := by kernel_rfl
  have e2 : Lib.hasPrefix (⟨#[54, 47, 52]⟩ : ByteArray).data.toList (⟨#[45]⟩ : ByteArray).data.toList = false := by kernel_rfl
  simp only [e1, e2]
  go_wp2_with fail
  refine HC.out.mono ?_
  rintro e w1 ⟨rfl, n, rfl⟩
  have c1 : (Lib.cut (⟨#[54, 47, 52]⟩ : ByteArray).data.toList (⟨#[47]⟩ : ByteArray).data.toList).1.toArray = #[54] := by kernel_rfl
  have c2 : (Lib.cut (⟨#[54, 47, 52]⟩ : ByteArray).data.toList (⟨#[47]⟩ : ByteArray).data.toList).2.1.toArray = #[52] := by kernel_rfl
  have c3 : (Lib.cut (⟨#[54, 47, 52]⟩ : ByteArray).data.toList (⟨#[47]⟩ : ByteArray).data.toList).2.2 = true := by kernel_rfl
  simp only [c1, c2, c3]
  clear HC HP e1 e2 c1 c2 c3
  have hb1 : Below w.heap.size w (w.drewN n) := Below.drewN_ (Below.refl _ _) n
  generalize w.drewN n = W1 at *
  have s1 : ((⟨#[52]⟩ : ByteArray) == (⟨#[49]⟩ : ByteArray)) = false := by decide
  go_wp2_with fail
  refine (is_dec6 _).mono ?_
  rintro e w2 ⟨rfl, n2, rfl⟩
  have hb2 : Below w.heap.size w (W1.drewN n2) := Below.drewN_ hb1 n2
  generalize W1.drewN n2 = W2 at *
  go_wp2_with fail
  refine (is_dec4 _).mono ?_
  rintro e w3 ⟨rfl, n3, rfl⟩
  have hb3 : Below w.heap.size w (W2.drewN n3) := Below.drewN_ hb2 n3
  generalize W2.drewN n3 = W3 at *
  clear hb1 hb2
  go_wp2_with fail
  refine (read_dec6 _).mono ?_
  rintro e w4 ⟨v6, rfl, h6, hb4⟩
  go_wp2_with fail
  refine (read_dec4 _).mono ?_
  rintro e w5 ⟨v4, rfl, h4, hb5⟩
  have h6' := h6.below hb5
  have B5 : Hid (Below w.heap.size w w5) := btr (btr hb3 hb4) hb5
  have HG := Lib.hid (n_gcd w5 v6 v4 6 4 h6' h4 (nw_small6) (nw_small4) (gcds_small 6 4 (by decide) (by decide) (by decide) (by decide)))
  obtain ⟨A4, c4, rfl, _, _, _⟩ := h4
  obtain ⟨A6, c6, rfl, _, _, _⟩ := h6
  rw [nw_6, nw_4] at *
  clear h6' hb3 hb4 hb5 s1
  go_wp2_with fail
  refine HG.out.mono ?_
  rintro e w6 ⟨vg, rfl, hg, hb6⟩
  have B6 : Hid (Below w.heap.size w w6) := btr B5.out hb6
  have HI := Lib.hid (n_isOne w6 vg (Nat.gcd 6 4) hg)
  have hI : isOneB (Nat.gcd 6 4) = false := by decide
  rw [hI] at HI
  clear hg hb6 HG hI
  go_wp2_with fail
  refine HI.out.mono ?_
  rintro e w7 ⟨rfl, rfl⟩
  go_wp2
  go_ret2
  exact ⟨rfl, B6.out⟩

theorem p_none (w : World) :
    Calls Tryz.prog 21 #[V 0 0 0 noS] w fun e w' => e = .returned (.tuple #[.string noS, .int .i64 2]) ∧ Below w.heap.size w w' := by
  have HV := Lib.hid (fun W => c_valid_none W)
  obtain ⟨W, b, hW, hb, hlt, hbel, K⟩ := box_facts w 0 0 0 noS
  have HW := Lib.hid hW
  clear hW hb
  go_enter Tryz.func21, Tryz.ntmps21
  go_wp2_with fail
  rw [HW.out]
  refine (HV.out _).mono ?_
  rintro e w1 ⟨rfl, hb1⟩
  go_wp2
  go_ret2
  exact ⟨rfl, btr hbel hb1⟩
end Go.Proofs.YtnfncdalneifnaaGreatDoor
end

/- Reading a string that is not one of a value. -/
section
namespace Go.Proofs.YtnfncdalneifnaaGreatDoor
open Go.RowKit Go.Deep

set_option maxRecDepth 100000 in
set_option maxHeartbeats 2000000 in
theorem seem_64 (w : World) (m : Int) (hm : w.cell? ⟨3, 0, none⟩ = some (.int .i64 m)) :
    Calls Tryz.prog 59 #[.string ⟨#[54, 47, 52]⟩] w fun e w' => e = .returned (V 0 0 0 noS) ∧ Below w.heap.size w w' := by
  have HP := Lib.hid (fun W => Tryz.strings_CutPrefix ⟨#[54, 47, 52]⟩ ⟨#[63]⟩ W)
  have h0 : 3 < w.heap.size := by
    by_cases h : 3 < w.heap.size
    · exact h
    · exfalso
      have : w.heap[3]? = none := Array.getElem?_eq_none (by omega)
      simp [World.cell?, this] at hm
  have HA := Lib.hid (fun W (hW : Below w.heap.size w W) => parse_64 W m ((hW.cell (p := ⟨3, 0, none⟩) h0).trans hm))
  clear hm
  have e1 : ((⟨#[54, 47, 52]⟩ : ByteArray) == (⟨#[116, 114, 117, 101]⟩ : ByteArray)) = false := by decide
  have e2 : ((⟨#[54, 47, 52]⟩ : ByteArray) == (⟨#[102, 97, 108, 115, 101]⟩ : ByteArray)) = false := by decide
  go_enter Tryz.func59, Tryz.ntmps59
  go_wp2_with fail
  have HR0 := Lib.hid (heap_alloc_new w (.cells #[.int .i64 0, .int .i64 0, .int .i64 0, .string ⟨#[]⟩] 25))
  generalize HW : w.alloc (.cells #[.int .i64 0, .int .i64 0, .int .i64 0, .string ⟨#[]⟩] 25) = W0 at *
  have B0 : Below w.heap.size w W0 := by rw [← HW]; exact (Below.refl _ _).alloc (Nat.le_refl _) _
  have hz0 : w.heap.size < W0.heap.size := by rw [← HW]; simp
  clear HW
  refine (HP.out _).mono ?_
  rintro e w1 ⟨rfl, hw⟩
  subst w1
  have e3 : Lib.hasPrefix [54, 47, 52] [63] = false := by kernel_rfl
  have e4 : (Lib.trimPrefix [54, 47, 52] [63]).toArray = #[54, 47, 52] := by kernel_rfl
  have e5 : ((((⟨#[54, 47, 52]⟩ : ByteArray)[0].toNat : Nat) : Int) == 39) = false := by decide
  simp only [e3, e4]
  clear HP e3 e4 e1 e2
  go_wp2_with fail
  refine (HA.out _ B0).mono ?_
  rintro e w1 ⟨rfl, hb1⟩
  have B1 : Hid (Below w.heap.size w w1) := btr B0 hb1
  have hh1 := (hb1.block _ hz0).trans HR0.out
  have hz1 : w.heap.size < w1.heap.size := Nat.lt_of_lt_of_le hz0 hb1.size
  clear hb1 HA HR0 e5 B0 hz0
  go_wp2_with fail
  refine (value_nil _).mono ?_
  rintro e w2 ⟨rfl, hb2⟩
  have B2 : Hid (Below w.heap.size w w2) := btr B1.out hb2
  have hh2 := (hb2.block _ hz1).trans hh1
  obtain ⟨r0, r1, r2, r3, f0, f1, f2, f3⟩ := res_at hh2
  have HH2 := Lib.hid hh2
  clear hh1 hh2 hb2
  go_wp2
  exact bodyPost_ret (v := V 0 0 0 noS) (results_cell_row Tryz.results59 _ _ w.heap.size 25 _ (0, 0) _ rfl (put4 HH2.out _ _ _ _) Tryz.underlying25 rfl (by rw [info_v4]; rfl)) rfl ⟨rfl, below4 B2.out _ (Nat.le_refl _) _ _ _ _⟩

set_option maxRecDepth 100000 in
set_option maxHeartbeats 2000000 in
theorem read_64 (w : World) (m : Int) (hm : w.cell? ⟨3, 0, none⟩ = some (.int .i64 m)) :
    Calls Tryz.prog 22 #[.string ⟨#[54, 47, 52]⟩] w fun e w' => e = .returned (.tuple #[V 0 0 0 noS, .int .i64 7]) ∧ Below w.heap.size w w' := by
  have HP := Lib.hid (fun W => p_none W)
  have h0 : 3 < w.heap.size := by
    by_cases h : 3 < w.heap.size
    · exact h
    · exfalso
      have : w.heap[3]? = none := Array.getElem?_eq_none (by omega)
      simp [World.cell?, this] at hm
  have HA := Lib.hid (fun W (hW : Below w.heap.size w W) => seem_64 W m ((hW.cell (p := ⟨3, 0, none⟩) h0).trans hm))
  clear hm
  go_enter Tryz.func22, Tryz.ntmps22
  go_wp2_with fail
  have HR0 := Lib.hid (heap_alloc_new w (.cells #[.int .i64 0, .int .i64 0, .int .i64 0, .string ⟨#[]⟩] 25))
  generalize HW : w.alloc (.cells #[.int .i64 0, .int .i64 0, .int .i64 0, .string ⟨#[]⟩] 25) = W0 at *
  have B0 : Below w.heap.size w W0 := by rw [← HW]; exact (Below.refl _ _).alloc (Nat.le_refl _) _
  have hz0 : w.heap.size < W0.heap.size := by rw [← HW]; simp
  clear HW
  refine (HA.out _ B0).mono ?_
  rintro e w1 ⟨rfl, hb1⟩
  have B1 : Hid (Below w.heap.size w w1) := btr B0 hb1
  have hh1 := (hb1.block _ hz0).trans HR0.out
  have hz1 : w.heap.size < w1.heap.size := Nat.lt_of_lt_of_le hz0 hb1.size
  clear hb1 HA HR0 B0 hz0
  go_wp2_with fail
  refine (HP.out _).mono ?_
  rintro e w2 ⟨rfl, hb2⟩
  have hr2 := (hb2.block _ (by simp; omega)).trans ((Below.heap_alloc w1 _ _ hz1).trans hh1)
  have B2 : Hid (Below w.heap.size w w2) := btr (B1.out.alloc (by omega) _) hb2
  have hz2 : w.heap.size < w2.heap.size := (Array.getElem?_eq_some_iff.1 hr2).1
  clear hb2 hh1 HP
  go_wp2_with (refine wpList_store_row 25 _ _ rfl rfl rfl w.heap.size 25 rfl [.int .i64 0, .int .i64 0, .int .i64 0, .string noS] rfl _ hr2 rfl info_val (val_one _ _ _ _) ?_; intro wz hhz hgz hzz; have HBz : Hid (Below w.heap.size w wz) := B2.out.grown hgz B2.out.size (fun j hj => by injection hj with hj; omega); clear hzz hgz hr2)
  exact bodyPost_ret (v := .tuple #[V 0 0 0 noS, .int .i64 7]) (results_cell_tmp Tryz.results22 _ _ w.heap.size 25 _ (0, 0) _ rfl hhz Tryz.underlying25 rfl (by rw [info_val]; rfl)) rfl ⟨rfl, HBz.out⟩
end Go.Proofs.YtnfncdalneifnaaGreatDoor
end

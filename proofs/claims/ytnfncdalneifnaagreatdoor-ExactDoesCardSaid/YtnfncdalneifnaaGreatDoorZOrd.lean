/- The order of values: of different kinds; the chapter's examples. -/
import Derived.Test.YtnfncdalneifnaaGreatDoorZVal
namespace Go.Proofs.YtnfncdalneifnaaGreatDoor
open Go.RowKit Go.Deep

/-- Two boxes of values: their cells in every later world. -/
theorem two_box (w : World) (k n d : Int) (s : ByteArray) (k' n' d' : Int) (s' : ByteArray) : ∃ W b b', (w.alloc (.cells #[.int .i64 k, .int .i64 n, .int .i64 d, .string s] 25)).alloc (.cells #[.int .i64 k', .int .i64 n', .int .i64 d', .string s'] 25) = W ∧ w.heap.size = b ∧ w.heap.size + 1 = b' ∧ b' < W.heap.size ∧ Below w.heap.size w W ∧
    Hid (∀ W', Below W.heap.size W W' → (W'.cell? ⟨b, 0, none⟩ = some (.int .i64 k) ∧ W'.cell? ⟨b, 1, none⟩ = some (.int .i64 n) ∧ W'.cell? ⟨b, 2, none⟩ = some (.int .i64 d) ∧ W'.cell? ⟨b, 3, none⟩ = some (.string s)) ∧
      (W'.cell? ⟨b', 0, none⟩ = some (.int .i64 k') ∧ W'.cell? ⟨b', 1, none⟩ = some (.int .i64 n') ∧ W'.cell? ⟨b', 2, none⟩ = some (.int .i64 d') ∧ W'.cell? ⟨b', 3, none⟩ = some (.string s'))) := by
  obtain ⟨W1, b1, h1, h2, h3, h4, K1⟩ := box_facts w k n d s
  obtain ⟨W2, b2, g1, g2, g3, g4, K2⟩ := box_facts W1 k' n' d' s'
  have e : W1.heap.size = w.heap.size + 1 := by rw [← h1]; simp
  refine ⟨W2, b1, b2, by rw [h1, g1], h2, by rw [← g2, e], g3, btr h4 g4, fun W' hW => ⟨K1.out W' (btr g4 hW), K2.out W' hW⟩⟩

set_option maxHeartbeats 1000000 in
theorem o_kinds (w : World) (k n d : Int) (s : ByteArray) (k' n' d' : Int) (s' : ByteArray) (h : Good k n d s) (h' : Good k' n' d' s') (hk : k ≠ k') :
    Calls Tryz.prog 14 #[V k n d s, V k' n' d' s'] w fun e w' => e = .returned (.int .i64 (Lib.compareInt k k')) ∧ Below w.heap.size w w' := by
  obtain ⟨W, b, b', hW, hb, hb', hlt, hbel, K⟩ := two_box w k n d s k' n' d' s'
  have HW := Lib.hid hW
  have HB := Lib.hid hb
  have HB' := Lib.hid hb'
  have H1 := Lib.hid (fun X => c_validValue k n d s X h)
  have H2 := Lib.hid (fun X => c_validValue k' n' d' s' X h')
  have HC := Lib.hid (fun X => Tryz.cmp_Compare_int k k' X)
  have hkk : (k != k') = true := by rw [bne_iff_ne]; exact hk
  clear hW hb hb' h h' hk
  go_enter Tryz.func14, Tryz.ntmps14
  go_wp2_with fail
  rw [HW.out, HB'.out, HB.out]
  rw [HB.out] at hbel
  refine (H1.out W).mono ?_
  rintro e w1 ⟨rfl, hb1⟩
  obtain ⟨⟨a0, a1, a2, a3⟩, ⟨a4, a5, a6, a7⟩⟩ := K.out _ hb1
  go_wp2_with fail
  refine (H2.out w1).mono ?_
  rintro e w2 ⟨rfl, hb2⟩
  have hb12 := btr hb1 hb2
  obtain ⟨⟨c0, c1, c2, c3⟩, ⟨c4, c5, c6, c7⟩⟩ := K.out _ hb12
  clear a0 a1 a2 a3 a4 a5 a6 a7
  go_wp2_with fail
  refine (HC.out w2).mono ?_
  rintro e w' ⟨rfl, rfl⟩
  go_wp2
  go_ret
  rw [HB.out]
  exact ⟨rfl, hbel.trans (hb12.mono (by have := hbel.size; have := HB.out; omega))⟩

set_option maxHeartbeats 1000000 in
theorem c_cp1 (w : World) : Calls Tryz.prog 97 #[.int .i64 2, .int .i64 2] w fun e w' => e = .returned (.tuple #[.int .i64 0, .int .u64 4]) ∧ w = w' := by
  have HM := Lib.hid (Tryz.bits_Mul64 2 2 (by omega) (by omega) w)
  go_enter Tryz.func97, Tryz.ntmps97
  go_wp2_with fail
  refine HM.out.mono ?_
  rintro e w' ⟨rfl, rfl⟩
  go_wp2
  go_ret2
  exact ⟨rfl, rfl⟩
set_option maxHeartbeats 1000000 in
theorem c_cp2 (w : World) : Calls Tryz.prog 97 #[.int .i64 1, .int .i64 1] w fun e w' => e = .returned (.tuple #[.int .i64 0, .int .u64 1]) ∧ w = w' := by
  have HM := Lib.hid (Tryz.bits_Mul64 1 1 (by omega) (by omega) w)
  go_enter Tryz.func97, Tryz.ntmps97
  go_wp2_with fail
  refine HM.out.mono ?_
  rintro e w' ⟨rfl, rfl⟩
  go_wp2
  go_ret2
  exact ⟨rfl, rfl⟩
set_option maxHeartbeats 1000000 in
theorem c_cmpu (w : World) : Calls Tryz.prog 98 #[.int .u64 4, .int .u64 1] w fun e w' => e = .returned (.int .i64 1) ∧ w = w' := by
  go_enter Tryz.func98, Tryz.ntmps98
  go_wp2
  go_ret
  exact ⟨rfl, rfl⟩
set_option maxHeartbeats 1000000 in
theorem c_cprod (w : World) : Calls Tryz.prog 50 #[.int .i64 2, .int .i64 2, .int .i64 1, .int .i64 1] w fun e w' => e = .returned (.int .i64 1) ∧ w = w' := by
  have H1 := Lib.hid (c_cp1 w)
  have H2 := Lib.hid (c_cp2 w)
  have H3 := Lib.hid (c_cmpu w)
  go_enter Tryz.func50, Tryz.ntmps50
  go_wp2_with fail
  refine H1.out.mono ?_
  rintro e w' ⟨rfl, rfl⟩
  go_wp2_with fail
  refine H2.out.mono ?_
  rintro e w' ⟨rfl, rfl⟩
  go_wp2_with fail
  refine H3.out.mono ?_
  rintro e w' ⟨rfl, rfl⟩
  go_wp2
  go_ret
  exact ⟨rfl, rfl⟩
theorem low1 (n : Int) (h1 : -1099511627776 ≤ n) (h2 : n ≤ 1099511627776) : Low n 1 := ⟨h1, h2, by omega, by omega, by simp⟩
set_option maxHeartbeats 1000000 in
theorem o_num (w : World) :
    Calls Tryz.prog 14 #[V 2 2 1 noS, V 2 1 2 noS] w fun e w' => e = .returned (.int .i64 1) ∧ Below w.heap.size w w' := by
  obtain ⟨W, b, b', hW, hb, hb', hlt, hbel, K⟩ := two_box w 2 2 1 noS 2 1 2 noS
  have HW := Lib.hid hW
  have HB := Lib.hid hb
  have HB' := Lib.hid hb'
  have H1 := Lib.hid (fun X => c_validValue 2 2 1 noS X (.num 2 1 (low1 2 (by omega) (by omega))))
  have H2 := Lib.hid (fun X => c_validValue 2 1 2 noS X (.num 1 2 ⟨by omega, by omega, by omega, by omega, by decide⟩))
  have HC := Lib.hid (fun X => c_cprod X)
  clear hW hb hb'
  go_enter Tryz.func14, Tryz.ntmps14
  go_wp2_with fail
  rw [HW.out, HB'.out, HB.out]
  rw [HB.out] at hbel
  refine (H1.out W).mono ?_
  rintro e w1 ⟨rfl, hb1⟩
  obtain ⟨⟨a0, a1, a2, a3⟩, ⟨a4, a5, a6, a7⟩⟩ := K.out _ hb1
  go_wp2_with fail
  refine (H2.out w1).mono ?_
  rintro e w2 ⟨rfl, hb2⟩
  have hb12 := btr hb1 hb2
  obtain ⟨⟨c0, c1, c2, c3⟩, ⟨c4, c5, c6, c7⟩⟩ := K.out _ hb12
  clear a0 a1 a2 a3 a4 a5 a6 a7
  go_wp2_with fail
  refine (HC.out w2).mono ?_
  rintro e w' ⟨rfl, rfl⟩
  go_wp2
  go_ret
  rw [HB.out]
  exact ⟨rfl, hbel.trans (hb12.mono (by have := hbel.size; have := HB.out; omega))⟩

abbrev sA : ByteArray := ⟨#[97]⟩
abbrev sAB : ByteArray := ⟨#[97, 98]⟩
theorem txt_of (s : ByteArray) (h : s.size ≤ 16 ∧ s.data.toList.all (fun c => 32 ≤ c && c ≤ 126) = true) : Txt s := by
  refine ⟨h.1, fun i hi => ?_⟩
  have h2 := List.all_eq_true.1 h.2 s[i] (by
    show s.data[i] ∈ _
    exact Array.mem_toList_iff.2 (Array.getElem_mem _))
  simp [UInt8.le_iff_toNat_le] at h2
  omega
set_option maxHeartbeats 1000000 in
theorem c_cmps (w : World) : Calls Tryz.prog 51 #[.string sA, .string sAB] w fun e w' => e = .returned (.int .i64 (-1)) ∧ w = w' := by
  go_enter Tryz.func51, Tryz.ntmps51
  go_wp2
  go_ret
  exact ⟨rfl, rfl⟩
set_option maxHeartbeats 1000000 in
theorem o_text (w : World) :
    Calls Tryz.prog 14 #[V 3 0 0 sA, V 3 0 0 sAB] w fun e w' => e = .returned (.int .i64 (-1)) ∧ Below w.heap.size w w' := by
  obtain ⟨W, b, b', hW, hb, hb', hlt, hbel, K⟩ := two_box w 3 0 0 sA 3 0 0 sAB
  have HW := Lib.hid hW
  have HB := Lib.hid hb
  have HB' := Lib.hid hb'
  have H1 := Lib.hid (fun X => c_validValue 3 0 0 sA X (.text sA (txt_of _ ⟨by decide, by decide⟩)))
  have H2 := Lib.hid (fun X => c_validValue 3 0 0 sAB X (.text sAB (txt_of _ ⟨by decide, by decide⟩)))
  have HC := Lib.hid (fun X => c_cmps X)
  clear hW hb hb'
  go_enter Tryz.func14, Tryz.ntmps14
  go_wp2_with fail
  rw [HW.out, HB'.out, HB.out]
  rw [HB.out] at hbel
  refine (H1.out W).mono ?_
  rintro e w1 ⟨rfl, hb1⟩
  obtain ⟨⟨a0, a1, a2, a3⟩, ⟨a4, a5, a6, a7⟩⟩ := K.out _ hb1
  go_wp2_with fail
  refine (H2.out w1).mono ?_
  rintro e w2 ⟨rfl, hb2⟩
  have hb12 := btr hb1 hb2
  obtain ⟨⟨c0, c1, c2, c3⟩, ⟨c4, c5, c6, c7⟩⟩ := K.out _ hb12
  clear a0 a1 a2 a3 a4 a5 a6 a7
  go_wp2_with fail
  refine (HC.out w2).mono ?_
  rintro e w' ⟨rfl, rfl⟩
  go_wp2
  go_ret
  rw [HB.out]
  exact ⟨rfl, hbel.trans (hb12.mono (by have := hbel.size; have := HB.out; omega))⟩
end Go.Proofs.YtnfncdalneifnaaGreatDoor

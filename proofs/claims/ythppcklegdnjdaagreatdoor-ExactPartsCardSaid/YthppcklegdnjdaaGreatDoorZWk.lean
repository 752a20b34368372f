/- The chapter's examples. -/
import Derived.Test.YthppcklegdnjdaaGreatDoorZEx
namespace Go.Proofs.YthppcklegdnjdaaGreatDoor
open Go.RowKit Go.Deep

set_option maxRecDepth 100000 in
set_option maxHeartbeats 4000000 in
theorem c_works (w : World) (m : Int) (hm : w.cell? ⟨0, 0, none⟩ = some (.int .i64 m)) :
    Calls Tryz.prog 6 #[] w fun e w' => e = .returned (.bool true) ∧ Below w.heap.size w w' := by
  have h0 : 0 < w.heap.size := by
    by_cases h : 0 < w.heap.size
    · exact h
    · exfalso
      have : w.heap[0]? = none := Array.getElem?_eq_none (by omega)
      simp [World.cell?, this] at hm
  have HM : Hid (∀ W', Below w.heap.size w W' → W'.cell? ⟨0, 0, none⟩ = some (.int .i64 m)) := fun W' hw => (hw.cell (p := ⟨0, 0, none⟩) h0).trans hm
  clear hm h0
  have B0 := Lib.hid (Below.refl w.heap.size w)
  go_enter Tryz.func6, Tryz.ntmps6
  go_wp2_with fail
  refine (of_64 _).mono ?_
  rintro e w1 ⟨x, rfl, hx, hb1⟩
  have B1 := Lib.hid (btr B0.out hb1)
  have HX1 := Lib.hid hx
  clear hx hb1 B0
  go_wp2_with fail
  refine (of_07 _).mono ?_
  rintro e w2 ⟨z, rfl, hz, hb2⟩
  have B2 := Lib.hid (btr B1.out hb2)
  have HX2 := Lib.hid (HX1.out.below hb2)
  have HZ2 := Lib.hid hz
  clear hz hb2 B1 HX1
  go_wp2_with fail
  refine (of_10 _ _).mono ?_
  rintro e w3 ⟨rfl, rfl⟩
  go_wp2_with fail
  refine (tx_m32 _ _ HX2.out).mono ?_
  rintro e w3 ⟨rfl, hb⟩
  have B3 := Lib.hid (btr B2.out hb)
  have HX3 := Lib.hid (HX2.out.below hb)
  have HZ3 := Lib.hid (HZ2.out.below hb)
  clear hb B2 HX2 HZ2
  go_wp2_with fail
  refine (tx_0 _ _ HZ3.out).mono ?_
  rintro e w4 ⟨rfl, hb⟩
  have B4 := Lib.hid (btr B3.out hb)
  have HX4 := Lib.hid (HX3.out.below hb)
  have HZ4 := Lib.hid (HZ3.out.below hb)
  clear hb B3 HX3 HZ3
  go_wp2_with fail
  refine (fl_m32 _ _ HX4.out).mono ?_
  rintro e w5 ⟨fl, rfl, hfl, hb⟩
  have B5 := Lib.hid (btr B4.out hb)
  have HX5 := Lib.hid (HX4.out.below hb)
  have HZ5 := Lib.hid (HZ4.out.below hb)
  have Hfl := Lib.hid hfl
  clear hb hfl B4 HX4 HZ4
  go_wp2_with fail
  refine (tx_m2 _ _ Hfl.out).mono ?_
  rintro e w6 ⟨rfl, hb⟩
  have B6 := Lib.hid (btr B5.out hb)
  have HX6 := Lib.hid (HX5.out.below hb)
  have HZ6 := Lib.hid (HZ5.out.below hb)
  clear hb B5 HX5 HZ5
  go_wp2_with fail
  refine (add_three _ _ HX6.out).mono ?_
  rintro e w7 ⟨su, rfl, hsu, hb⟩
  have B7 := Lib.hid (btr B6.out hb)
  have HX7 := Lib.hid (HX6.out.below hb)
  have HZ7 := Lib.hid (HZ6.out.below hb)
  have Hsu := Lib.hid hsu
  clear hb hsu B6 HX6 HZ6
  go_wp2_with fail
  refine (tx_m3 _ _ Hsu.out).mono ?_
  rintro e w8 ⟨rfl, hb⟩
  have B8 := Lib.hid (btr B7.out hb)
  have HX8 := Lib.hid (HX7.out.below hb)
  have HZ8 := Lib.hid (HZ7.out.below hb)
  clear hb B7 HX7 HZ7
  clear Hfl Hsu
  go_wp2_with fail
  refine (bits_m32 _ _ HX8.out).mono ?_
  rintro e w' ⟨rfl, k, rfl⟩
  have B9 := Lib.hid (Below.drewN_ B8.out k)
  have HX9 := Lib.hid (HX8.out.drewN k)
  have HZ9 := Lib.hid (HZ8.out.drewN k)
  generalize w8.drewN k = w9 at *
  clear B8 HX8 HZ8
  go_wp2_with fail
  refine (bits_0 _ _ HZ9.out).mono ?_
  rintro e w' ⟨rfl, k, rfl⟩
  have B10 := Lib.hid (Below.drewN_ B9.out k)
  have HX10 := Lib.hid (HX9.out.drewN k)
  have HZ10 := Lib.hid (HZ9.out.drewN k)
  generalize w9.drewN k = w10 at *
  clear B9 HX9 HZ9
  go_wp2_with fail
  refine (sg_m32 _ _ HX10.out).mono ?_
  rintro e w' ⟨rfl, rfl⟩
  go_wp2_with fail
  refine (wh_m32 _ _ HX10.out).mono ?_
  rintro e w' ⟨rfl, rfl⟩
  go_wp2_with fail
  refine (wh_0 _ _ HZ10.out).mono ?_
  rintro e w' ⟨rfl, rfl⟩
  clear HX10 HZ10
  go_wp2_with fail
  refine (m_none _ _).mono ?_
  rintro e w11 ⟨rfl, hb⟩
  have B11 := Lib.hid (btr B10.out hb)
  clear hb B10
  go_wp2_with fail
  refine (m_truth _ _).mono ?_
  rintro e w12 ⟨rfl, hb⟩
  have B12 := Lib.hid (btr B11.out hb)
  clear hb B11
  go_wp2_with fail
  refine (or_1 _).mono ?_
  rintro e w13 ⟨rfl, hb⟩
  have B13 := Lib.hid (btr B12.out hb)
  clear hb B12
  go_wp2_with fail
  refine (m_num _ _ _).mono ?_
  rintro e w14 ⟨rfl, hb⟩
  have B14 := Lib.hid (btr B13.out hb)
  clear hb B13
  go_wp2_with fail
  refine (m_num _ _ _).mono ?_
  rintro e w15 ⟨rfl, hb⟩
  have B15 := Lib.hid (btr B14.out hb)
  clear hb B14
  go_wp2_with fail
  refine (o_num _).mono ?_
  rintro e w16 ⟨rfl, hb⟩
  have B16 := Lib.hid (btr B15.out hb)
  clear hb B15
  go_wp2_with fail
  refine (m_text _ _).mono ?_
  rintro e w17 ⟨rfl, hb⟩
  have B17 := Lib.hid (btr B16.out hb)
  clear hb B16
  go_wp2_with fail
  refine (m_text _ _).mono ?_
  rintro e w18 ⟨rfl, hb⟩
  have B18 := Lib.hid (btr B17.out hb)
  clear hb B17
  go_wp2_with fail
  refine (o_text _).mono ?_
  rintro e w19 ⟨rfl, hb⟩
  have B19 := Lib.hid (btr B18.out hb)
  clear hb B18
  go_wp2_with fail
  refine (m_none _ _).mono ?_
  rintro e w20 ⟨rfl, hb⟩
  have B20 := Lib.hid (btr B19.out hb)
  clear hb B19
  go_wp2_with fail
  refine (m_num _ _ _).mono ?_
  rintro e w21 ⟨rfl, hb⟩
  have B21 := Lib.hid (btr B20.out hb)
  clear hb B20
  go_wp2_with fail
  refine (m_num _ _ _).mono ?_
  rintro e w22 ⟨rfl, hb⟩
  have B22 := Lib.hid (btr B21.out hb)
  clear hb B21
  go_wp2_with fail
  refine (ea_add w22).mono ?_
  rintro e w23 ⟨rfl, hb⟩
  have B23 := Lib.hid (btr B22.out hb)
  clear hb B22
  go_wp2_with fail
  refine (m_none _ _).mono ?_
  rintro e w24 ⟨rfl, hb⟩
  have B24 := Lib.hid (btr B23.out hb)
  clear hb B23
  go_wp2_with fail
  refine (m_num _ _ _).mono ?_
  rintro e w25 ⟨rfl, hb⟩
  have B25 := Lib.hid (btr B24.out hb)
  clear hb B24
  go_wp2_with fail
  refine (m_num _ _ _).mono ?_
  rintro e w26 ⟨rfl, hb⟩
  have B26 := Lib.hid (btr B25.out hb)
  clear hb B25
  go_wp2_with fail
  refine (ea_div w26).mono ?_
  rintro e w27 ⟨rfl, hb⟩
  have B27 := Lib.hid (btr B26.out hb)
  clear hb B26
  go_wp2_with fail
  refine (m_truth _ _).mono ?_
  rintro e w28 ⟨rfl, hb⟩
  have B28 := Lib.hid (btr B27.out hb)
  clear hb B27
  go_wp2_with fail
  refine (m_none _ _).mono ?_
  rintro e w29 ⟨rfl, hb⟩
  have B29 := Lib.hid (btr B28.out hb)
  clear hb B28
  go_wp2_with fail
  refine (m_truth _ _).mono ?_
  rintro e w30 ⟨rfl, hb⟩
  have B30 := Lib.hid (btr B29.out hb)
  clear hb B29
  go_wp2_with fail
  refine (ea_and w30).mono ?_
  rintro e w31 ⟨rfl, hb⟩
  have B31 := Lib.hid (btr B30.out hb)
  clear hb B30
  go_wp2_with fail
  refine (m_none _ _).mono ?_
  rintro e w32 ⟨rfl, hb⟩
  have B32 := Lib.hid (btr B31.out hb)
  clear hb B31
  go_wp2_with fail
  refine (m_none _ _).mono ?_
  rintro e w33 ⟨rfl, hb⟩
  have B33 := Lib.hid (btr B32.out hb)
  clear hb B32
  go_wp2_with fail
  refine (m_none _ _).mono ?_
  rintro e w34 ⟨rfl, hb⟩
  have B34 := Lib.hid (btr B33.out hb)
  clear hb B33
  go_wp2_with fail
  refine (ea_else w34).mono ?_
  rintro e w35 ⟨rfl, hb⟩
  have B35 := Lib.hid (btr B34.out hb)
  clear hb B34
  go_wp2_with fail
  refine (m_num _ _ _).mono ?_
  rintro e w36 ⟨rfl, hb⟩
  have B36 := Lib.hid (btr B35.out hb)
  clear hb B35
  go_wp2_with fail
  refine (m_truth _ _).mono ?_
  rintro e w37 ⟨rfl, hb⟩
  have B37 := Lib.hid (btr B36.out hb)
  clear hb B36
  go_wp2_with fail
  refine (m_num _ _ _).mono ?_
  rintro e w38 ⟨rfl, hb⟩
  have B38 := Lib.hid (btr B37.out hb)
  clear hb B37
  go_wp2_with fail
  refine (m_none _ _).mono ?_
  rintro e w39 ⟨rfl, hb⟩
  have B39 := Lib.hid (btr B38.out hb)
  clear hb B38
  go_wp2_with fail
  refine (ea_if w39).mono ?_
  rintro e w40 ⟨rfl, hb⟩
  have B40 := Lib.hid (btr B39.out hb)
  clear hb B39
  go_wp2_with fail
  refine (m_none _ _).mono ?_
  rintro e w41 ⟨rfl, hb⟩
  have B41 := Lib.hid (btr B40.out hb)
  clear hb B40
  go_wp2_with fail
  refine (m_text _ _).mono ?_
  rintro e w42 ⟨rfl, hb⟩
  have B42 := Lib.hid (btr B41.out hb)
  clear hb B41
  go_wp2_with fail
  refine (ea_bad w42).mono ?_
  rintro e w43 ⟨rfl, hb⟩
  have B43 := Lib.hid (btr B42.out hb)
  clear hb B42
  go_wp2_with fail
  refine (e_not _).mono ?_
  rintro e w44 ⟨rfl, hb⟩
  have B44 := Lib.hid (btr B43.out hb)
  clear hb B43
  go_wp2_with fail
  refine (ea_type w44).mono ?_
  rintro e w45 ⟨rfl, hb⟩
  have B45 := Lib.hid (btr B44.out hb)
  clear hb B44
  go_wp2_with fail
  refine (m_text _ _).mono ?_
  rintro e w46 ⟨rfl, hb⟩
  have B46 := Lib.hid (btr B45.out hb)
  clear hb B45
  go_wp2_with fail
  refine (p_its _ m (HM.out _ B46.out)).mono ?_
  rintro e w47 ⟨rfl, hb⟩
  have B47 := Lib.hid (btr B46.out hb)
  clear hb B46
  go_wp2_with fail
  refine (read_64 _ m (HM.out _ B47.out)).mono ?_
  rintro e w48 ⟨rfl, hb⟩
  have B48 := Lib.hid (btr B47.out hb)
  clear hb B47
  clear HM
  go_wp2
  go_ret
  exact ⟨rfl, B48.out.alloc (by have := B48.out.size; omega) _⟩
end Go.Proofs.YthppcklegdnjdaaGreatDoor

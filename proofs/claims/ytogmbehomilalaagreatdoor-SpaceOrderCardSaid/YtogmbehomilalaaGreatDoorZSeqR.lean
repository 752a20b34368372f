/- Orders of boxes, and their errors: orderError, whatever the box. -/
import Derived.Test.YtogmbehomilalaaGreatDoorZExtR
import Derived.Test.YtogmbehomilalaaGreatDoorZSeq

/- Orders of boxes, and their errors: orderError, whatever the box. -/
section
namespace Go.Proofs.YtogmbehomilalaaGreatDoor
open Go Go.RowKit Go.Deep

set_option maxRecDepth 100000 in
set_option maxHeartbeats 4000000 in
theorem s_orderX (w : World) (S O L H : Option Addr) (s sc o oc n c d : Nat) (ord tile form codec : Int) (lo hi : Nat → Int) (hl : IntsAt w L n lo) (hh : IntsAt w H n hi) (h1 : 1 ≤ n) (h4 : n ≤ 4) (ho : ordB ord tile = true)
    (hb : ∀ k, k < n → I64 (lo k) ∧ I64 (hi k)) :
    Calls Tryz.prog 46 #[LayV S s sc O o oc ord tile form codec, BoxW L H n c n d, .int .i64 n] w fun e w' => e = .returned (.int .i64 (ordX lo hi n)) ∧ Below w.heap.size w w' := by
  have HLo := Lib.hid hl
  have HHi := Lib.hid hh
  have HB := Lib.hid hb
  have HVO : Hid (∀ W, Calls Tryz.prog 87 #[LayV S s sc O o oc ord tile form codec] W fun e w' => e = .returned (.bool true) ∧ Below W.heap.size W w') := fun W => by rw [← ho]; exact s_validOrder S O s sc o oc ord tile form codec W
  have hwf : (n == n && (decide (1 ≤ n) && decide (n ≤ 4))) = true := by simp [h1, h4]
  have HWF : Hid (∀ W, Calls Tryz.prog 88 #[BoxW L H n c n d] W fun e w' => e = .returned (.bool true) ∧ Below W.heap.size W w') := fun W => (s_wellFormed W L H n c n d).mono fun e w' h => ⟨by rw [h.1, hwf], by rw [h.2]; exact (Below.refl _ _).alloc (Nat.le_refl _) _⟩
  clear hl hh hb ho hwf
  have KB := Lib.hid (lay_box w S O s sc o oc ord tile form codec)
  have HB1 : Hid (Below w.heap.size w (w.alloc (.cells #[.slice S s sc, .slice O o oc, .int .i64 ord, .int .i64 tile, .int .i64 form, .int .i64 codec] 43))) := (Below.refl _ _).alloc (Nat.le_refl _) _
  have hz1 : (w.alloc (.cells #[.slice S s sc, .slice O o oc, .int .i64 ord, .int .i64 tile, .int .i64 form, .int .i64 codec] 43)).heap.size = w.heap.size + 1 := by simp
  go_enter Tryz.func46, Tryz.ntmps46
  go_wp2_with fail
  generalize w.alloc (.cells #[.slice S s sc, .slice O o oc, .int .i64 ord, .int .i64 tile, .int .i64 form, .int .i64 codec] 43) = Wa at *
  have K2 := Lib.hid (box_two Wa (.slice L n c) (.slice H n d) 45)
  have HB2 : Hid (Below Wa.heap.size Wa (Wa.alloc (.cells #[.slice L n c, .slice H n d] 45))) := (Below.refl _ _).alloc (Nat.le_refl _) _
  rw [hz1] at K2 HB2 KB
  have HB3 : Hid (Below w.heap.size w (Wa.alloc (.cells #[.slice L n c, .slice H n d] 45))) := Below.trans HB1.out (HB2.out.mono (by omega))
  generalize hWb : Wa.alloc (.cells #[.slice L n c, .slice H n d] 45) = Wb at *
  have hz2 : Wb.heap.size = w.heap.size + 2 := by rw [← hWb]; simp; omega
  clear hWb
  obtain ⟨l0, l1, l2, l3, l4, l5⟩ := KB.out Wb HB2.out
  go_wp2_with (first
    | (go_at_call 87; refine (HVO.out _).mono ?_; rintro e w1 ⟨rfl, hb1⟩; obtain ⟨m0, m1⟩ := K2.out w1 hb1)
    | (go_at_call 88; refine (HWF.out _).mono ?_; rintro e w2 ⟨rfl, hb2⟩; have hb12 := st hb1 hb2; obtain ⟨n0, n1⟩ := K2.out w2 hb12))
  have HB4 : Hid (Below Wb.heap.size Wb w2) := hb12
  clear hb12 hb1 hb2 m0 m1 n0 n1 l0 l1 l2 l3 l4 l5
  go_loopw [7, 8, 29] (fun _ _ i wr => ∃ k : Nat, k ≤ n ∧ i = .int .i64 k ∧ wr = w2 ∧ Hid (∀ j, j < k → hi j ≤ 1073741824 ∧ lo j ≤ hi j)) (fun _ _ i _ => n - (intOf i).toNat)
  case atStart => exact ⟨0, Nat.zero_le _, rfl, rfl, fun j hj => absurd hj (by omega)⟩
  case round =>
    obtain ⟨k, hk, rfl, rfl, HR⟩ := hrel
    have HBw : Hid (Below w.heap.size w wr) := st HB3.out HB4.out
    obtain ⟨m0, m1⟩ := K2.out wr HB4.out
    by_cases hlt : k < n
    · obtain ⟨b1, o1, rfl, _, hc1⟩ := (HHi.out.below HBw.out) (by omega)
      have x0 := hc1 k hlt
      obtain ⟨b2, o2, rfl, _, hc2⟩ := (HLo.out.below HBw.out) (by omega)
      have y0 := hc2 k hlt
      clear hc1 hc2
      have HN : Hid (¬ (hi k ≤ 1073741824 ∧ lo k ≤ hi k) → ordX lo hi n = 3) := fun h => ordX_rng hlt h
      have HS : Hid (hi k ≤ 1073741824 ∧ lo k ≤ hi k → ∀ j, j < k + 1 → hi j ≤ 1073741824 ∧ lo j ≤ hi j) := fun h j hj => by
        by_cases e : j = k
        · subst e; exact h
        · exact HR.out j (by omega)
      generalize lo k = x at *
      generalize hi k = y at *
      by_cases g1 : y ≥ 1073741825
      · have HE := Lib.hid (HN.out (by omega))
        go_wp2_with fail
        go_ret
        exact ⟨by rw [HE.out]; rfl, HBw.out⟩
      · by_cases g2 : y < x
        · have HE := Lib.hid (HN.out (by omega))
          go_wp2_with fail
          go_ret
          exact ⟨by rw [HE.out]; rfl, HBw.out⟩
        · have HS2 := Lib.hid (HS.out (by omega))
          go_wp2_with fail
          exact ⟨⟨k + 1, by omega, by go_num, trivial, HS2⟩, by simp [intOf]; omega⟩
    · obtain rfl : k = n := by omega
      have HRg : Hid (rngB lo hi k) := HR.out
      obtain ⟨wq, hwq⟩ : ∃ wq, wq = wr := ⟨_, rfl⟩
      rw [← hwq] at m0 m1 HB4 HBw
      rw [← hwq]
      clear hwq
      go_wp2_with fail
      go_loopw [9, 10, 11, 12, 49] (fun v _ _ _ i wr => ∃ j : Nat, j ≤ k ∧ i = .int .i64 j ∧ v = .int .u64 (volO lo hi j : Nat) ∧ wr = wq ∧ Hid (volO lo hi j ≤ 4096 ^ j) ∧ Hid (∀ t, t < j → hi t - lo t < 4096)) (fun _ _ _ _ i _ => k - (intOf i).toNat)
      case atStart => exact ⟨0, Nat.zero_le _, rfl, rfl, rfl, Nat.le_refl _, fun t ht => absurd ht (by omega)⟩
      case round =>
        obtain ⟨j, hj, rfl, rfl, rfl, HVL, HT⟩ := hrel
        by_cases hlt : j < k
        · obtain ⟨b1, o1, rfl, _, hc1⟩ := (HHi.out.below HBw.out) (by omega)
          have x0 := hc1 j hlt
          obtain ⟨b2, o2, rfl, _, hc2⟩ := (HLo.out.below HBw.out) (by omega)
          have y0 := hc2 j hlt
          clear hc1 hc2
          obtain ⟨f3, f2⟩ := HRg.out j hlt
          obtain ⟨⟨f1, _⟩, _⟩ := HB.out j hlt
          obtain ⟨mo, hmo⟩ : ∃ mo : Nat, (mo : Int) = hi j - lo j := ⟨(hi j - lo j).toNat, by omega⟩
          have HR : Hid (volO lo hi (j + 1) = volO lo hi j * (mo + 1)) := by show _ = _; rw [volO, show (hi j - lo j + 1).toNat = mo + 1 by omega]
          have HF1 : Hid (¬ mo < 4096 → ordX lo hi k = 9) := fun h => ordX_fit HRg.out fun h9 => by have := h9.1 j hlt; omega
          have HT2 : Hid (mo < 4096 → ∀ t, t < j + 1 → hi t - lo t < 4096) := fun h t ht => by
            by_cases e : t = j
            · subst e; omega
            · exact HT.out t (by omega)
          have hvl : volO lo hi j ≤ 68719476736 := by
            have h9 : 4096 ^ j ≤ 4096 ^ 3 := Nat.pow_le_pow_right (by decide) (by omega)
            have h8 := HVL.out
            have : (4096 : Nat) ^ 3 = 68719476736 := by decide
            omega
          have HV3 : Hid (mo < 4096 → volO lo hi j * (mo + 1) ≤ 4096 ^ (j + 1)) := fun h => by
            rw [Nat.pow_succ]
            exact Nat.mul_le_mul HVL.out (by omega)
          clear HVL
          generalize volO lo hi j = V at *
          generalize lo j = x at *
          generalize hi j = y at *
          have hus := usub f1 f3 f2 hmo
          by_cases hm2 : mo < 4096
          · have HM : Hid (IntKind.u64.wrap ((V : Int) * ((mo : Int) + 1)) = ((V * (mo + 1) : Nat) : Int)) := by
              show _ = _
              have h9 : V * (mo + 1) ≤ 68719476736 * 4096 := Nat.mul_le_mul hvl (by omega)
              have h8 : ((V * (mo + 1) : Nat) : Int) = (V : Int) * ((mo : Int) + 1) := by rw [Int.natCast_mul]; rfl
              rw [← h8]
              exact wrap_u (by omega) (by omega)
            have hw1 : IntKind.u64.wrap ((mo : Int) + 1) = (mo : Int) + 1 := wrap_u (by omega) (by omega)
            have HT3 := Lib.hid (HT2.out hm2)
            have HV4 := Lib.hid (HV3.out hm2)
            have hm3 : ¬ (mo : Int) ≥ 4096 := by omega
            clear hmo HT2 HV3
            go_wp2_with fail
            exact ⟨⟨j + 1, by omega, by go_num, by rw [HM.out, HR.out], trivial, by rw [HR.out]; exact HV4.out, HT3⟩, by simp [intOf]; omega⟩
          · have HE := Lib.hid (HF1.out hm2)
            have hm3 : (mo : Int) ≥ 4096 := by omega
            clear hmo
            go_wp2_with fail
            go_ret
            exact ⟨by rw [HE.out]; rfl, HBw.out⟩
        · obtain rfl : j = k := by omega
          have HE1 : Hid (volO lo hi j ≤ 4096 → ordX lo hi j = 0) := fun h => ordX_ok HRg.out ⟨HT.out, h⟩
          have HE2 : Hid (¬ volO lo hi j ≤ 4096 → ordX lo hi j = 9) := fun h => ordX_fit HRg.out fun h9 => h h9.2
          clear HVL
          generalize volO lo hi j = V at *
          by_cases hv : V ≤ 4096
          · have hv2 : ¬ (V : Int) > 4096 := by omega
            have HE := Lib.hid (HE1.out hv)
            go_wp2_with fail
            go_ret
            exact ⟨by rw [HE.out]; rfl, HBw.out⟩
          · have hv2 : (V : Int) > 4096 := by omega
            have HE := Lib.hid (HE2.out hv)
            go_wp2_with fail
            go_ret
            exact ⟨by rw [HE.out]; rfl, HBw.out⟩
set_option maxRecDepth 100000 in
set_option maxHeartbeats 4000000 in
theorem s_orderS (w : World) (S O L H : Option Addr) (s sc o oc n c m d : Nat) (ord tile form codec z : Int) (ho : ordB ord tile = true) (hs : (n == m && (decide (1 ≤ n) && decide (n ≤ 4))) = true → (n : Int) ≠ z) :
    Calls Tryz.prog 46 #[LayV S s sc O o oc ord tile form codec, BoxW L H n c m d, .int .i64 z] w fun e w' => e = .returned (.int .i64 13) ∧ Below w.heap.size w w' := by
  have HVO : Hid (∀ W, Calls Tryz.prog 87 #[LayV S s sc O o oc ord tile form codec] W fun e w' => e = .returned (.bool true) ∧ Below W.heap.size W w') := fun W => by rw [← ho]; exact s_validOrder S O s sc o oc ord tile form codec W
  have HWF : Hid (∀ W, Calls Tryz.prog 88 #[BoxW L H n c m d] W fun e w' => e = .returned (.bool (n == m && (decide (1 ≤ n) && decide (n ≤ 4)))) ∧ Below W.heap.size W w') := fun W => (s_wellFormed W L H n c m d).mono fun e w' h => ⟨h.1, by rw [h.2]; exact (Below.refl _ _).alloc (Nat.le_refl _) _⟩
  obtain ⟨fb, hfb⟩ : ∃ fb, (n == m && (decide (1 ≤ n) && decide (n ≤ 4))) = fb := ⟨_, rfl⟩
  rw [hfb] at HWF hs
  have HS := Lib.hid hs
  clear hfb hs ho
  have KB := Lib.hid (lay_box w S O s sc o oc ord tile form codec)
  have HB1 : Hid (Below w.heap.size w (w.alloc (.cells #[.slice S s sc, .slice O o oc, .int .i64 ord, .int .i64 tile, .int .i64 form, .int .i64 codec] 43))) := (Below.refl _ _).alloc (Nat.le_refl _) _
  have hz1 : (w.alloc (.cells #[.slice S s sc, .slice O o oc, .int .i64 ord, .int .i64 tile, .int .i64 form, .int .i64 codec] 43)).heap.size = w.heap.size + 1 := by simp
  go_enter Tryz.func46, Tryz.ntmps46
  go_wp2_with fail
  generalize w.alloc (.cells #[.slice S s sc, .slice O o oc, .int .i64 ord, .int .i64 tile, .int .i64 form, .int .i64 codec] 43) = Wa at *
  have K2 := Lib.hid (box_two Wa (.slice L n c) (.slice H m d) 45)
  have HB2 : Hid (Below Wa.heap.size Wa (Wa.alloc (.cells #[.slice L n c, .slice H m d] 45))) := (Below.refl _ _).alloc (Nat.le_refl _) _
  rw [hz1] at K2 HB2 KB
  have HB3 : Hid (Below w.heap.size w (Wa.alloc (.cells #[.slice L n c, .slice H m d] 45))) := Below.trans HB1.out (HB2.out.mono (by omega))
  generalize hWb : Wa.alloc (.cells #[.slice L n c, .slice H m d] 45) = Wb at *
  clear hWb
  obtain ⟨l0, l1, l2, l3, l4, l5⟩ := KB.out Wb HB2.out
  cases fb
  · go_wp2_with (first
      | (go_at_call 87; refine (HVO.out _).mono ?_; rintro e w1 ⟨rfl, hb1⟩; obtain ⟨m0, m1⟩ := K2.out w1 hb1)
      | (go_at_call 88; refine (HWF.out _).mono ?_; rintro e w2 ⟨rfl, hb2⟩; have hb12 := st hb1 hb2; obtain ⟨n0, n1⟩ := K2.out w2 hb12))
    go_ret
    exact ⟨rfl, st HB3.out hb12⟩
  · have hnz := HS.out rfl
    have hnz2 : ((n : Int) == z) = false := beq_eq_false_iff_ne.2 hnz
    go_wp2_with (first
      | (go_at_call 87; refine (HVO.out _).mono ?_; rintro e w1 ⟨rfl, hb1⟩; obtain ⟨m0, m1⟩ := K2.out w1 hb1)
      | (go_at_call 88; refine (HWF.out _).mono ?_; rintro e w2 ⟨rfl, hb2⟩; have hb12 := st hb1 hb2; obtain ⟨n0, n1⟩ := K2.out w2 hb12))
    go_ret
    exact ⟨rfl, st HB3.out hb12⟩
set_option maxRecDepth 100000 in
set_option maxHeartbeats 4000000 in
theorem s_Seq_err (w : World) (S O L H : Option Addr) (s sc o oc n c m d : Nat) (ord tile form codec : Int) (E : Int) (hE : E ≠ 0) (hoe : ∀ W, Below w.heap.size w W → Calls Tryz.prog 46 #[LayV S s sc O o oc ord tile form codec, BoxW L H n c m d, .int .i64 n] W fun e w' => e = .returned (.int .i64 E) ∧ Below W.heap.size W w') :
    Calls Tryz.prog 14 #[LayV S s sc O o oc ord tile form codec, BoxW L H n c m d] w fun e w' => e = .returned (.tuple #[.slice none 0 0, .int .i64 E]) ∧ Below w.heap.size w w' := by
  have HOE := Lib.hid hoe
  have hE2 : (E != 0) = true := bne_iff_ne.2 hE
  clear hoe
  have KB := Lib.hid (lay_box w S O s sc o oc ord tile form codec)
  have HB1 : Hid (Below w.heap.size w ((w.alloc (.cells #[.slice S s sc, .slice O o oc, .int .i64 ord, .int .i64 tile, .int .i64 form, .int .i64 codec] 43)).alloc (.cells #[.slice L n c, .slice H m d] 45))) := ((Below.refl _ _).alloc (Nat.le_refl _) _).alloc (by simp) _
  have hz1 : (w.alloc (.cells #[.slice S s sc, .slice O o oc, .int .i64 ord, .int .i64 tile, .int .i64 form, .int .i64 codec] 43)).heap.size = w.heap.size + 1 := by simp
  go_enter Tryz.func14, Tryz.ntmps14
  go_wp2_with fail
  generalize w.alloc (.cells #[.slice S s sc, .slice O o oc, .int .i64 ord, .int .i64 tile, .int .i64 form, .int .i64 codec] 43) = Wa at *
  have K2 := Lib.hid (box_two Wa (.slice L n c) (.slice H m d) 45)
  have HB2 : Hid (Below Wa.heap.size Wa (Wa.alloc (.cells #[.slice L n c, .slice H m d] 45))) := (Below.refl _ _).alloc (Nat.le_refl _) _
  rw [hz1] at K2
  generalize Wa.alloc (.cells #[.slice L n c, .slice H m d] 45) = Wb at *
  obtain ⟨l0, l1, l2, l3, l4, l5⟩ := KB.out Wb HB2.out
  obtain ⟨m0, m1⟩ := K2.out Wb (Below.refl _ _)
  go_wp2_with fail
  refine (HOE.out _ HB1.out).mono ?_
  rintro e w1 ⟨rfl, hb1⟩
  go_wp2
  go_ret2
  exact ⟨rfl, st HB1.out hb1⟩
set_option maxRecDepth 100000 in
set_option maxHeartbeats 4000000 in
theorem s_Rank_err (w : World) (S O L H : Option Addr) (s sc o oc n c m d r xc : Nat) (X : Option Addr) (ord tile form codec : Int) (E : Int) (hE : E ≠ 0) (hoe : ∀ W, Below w.heap.size w W → Calls Tryz.prog 46 #[LayV S s sc O o oc ord tile form codec, BoxW L H n c m d, .int .i64 r] W fun e w' => e = .returned (.int .i64 E) ∧ Below W.heap.size W w') :
    Calls Tryz.prog 16 #[LayV S s sc O o oc ord tile form codec, BoxW L H n c m d, .slice X r xc] w fun e w' => e = .returned (.tuple #[.int .i64 0, .int .i64 E]) ∧ Below w.heap.size w w' := by
  have HOE := Lib.hid hoe
  have hE2 : (E != 0) = true := bne_iff_ne.2 hE
  clear hoe
  have KB := Lib.hid (lay_box w S O s sc o oc ord tile form codec)
  have HB1 : Hid (Below w.heap.size w ((w.alloc (.cells #[.slice S s sc, .slice O o oc, .int .i64 ord, .int .i64 tile, .int .i64 form, .int .i64 codec] 43)).alloc (.cells #[.slice L n c, .slice H m d] 45))) := ((Below.refl _ _).alloc (Nat.le_refl _) _).alloc (by simp) _
  have hz1 : (w.alloc (.cells #[.slice S s sc, .slice O o oc, .int .i64 ord, .int .i64 tile, .int .i64 form, .int .i64 codec] 43)).heap.size = w.heap.size + 1 := by simp
  go_enter Tryz.func16, Tryz.ntmps16
  go_wp2_with fail
  generalize w.alloc (.cells #[.slice S s sc, .slice O o oc, .int .i64 ord, .int .i64 tile, .int .i64 form, .int .i64 codec] 43) = Wa at *
  have K2 := Lib.hid (box_two Wa (.slice L n c) (.slice H m d) 45)
  have HB2 : Hid (Below Wa.heap.size Wa (Wa.alloc (.cells #[.slice L n c, .slice H m d] 45))) := (Below.refl _ _).alloc (Nat.le_refl _) _
  rw [hz1] at K2
  generalize Wa.alloc (.cells #[.slice L n c, .slice H m d] 45) = Wb at *
  obtain ⟨l0, l1, l2, l3, l4, l5⟩ := KB.out Wb HB2.out
  obtain ⟨m0, m1⟩ := K2.out Wb (Below.refl _ _)
  go_wp2_with fail
  refine (HOE.out _ HB1.out).mono ?_
  rintro e w1 ⟨rfl, hb1⟩
  go_wp2
  go_ret2
  exact ⟨rfl, st HB1.out hb1⟩
end Go.Proofs.YtogmbehomilalaaGreatDoor
end

/- The program's Rank of coordinates that are not in the box. -/
section
namespace Go.Proofs.YtogmbehomilalaaGreatDoor
open Go Go.RowKit Go.Deep

set_option maxRecDepth 100000 in
set_option maxHeartbeats 4000000 in
theorem s_Rank_off (w : World) (S O L H : Option Addr) (s sc o oc n c m d r xc : Nat) (X : Option Addr) (ord tile form codec : Int) (hno : ∀ W, Below w.heap.size w W → Calls Tryz.prog 57 #[BoxW L H n c m d, .slice X r xc] W fun e w' => e = .returned (.bool false) ∧ Below W.heap.size W w') (hoe : ∀ W, Below w.heap.size w W → Calls Tryz.prog 46 #[LayV S s sc O o oc ord tile form codec, BoxW L H n c m d, .int .i64 r] W fun e w' => e = .returned (.int .i64 0) ∧ Below W.heap.size W w') :
    Calls Tryz.prog 16 #[LayV S s sc O o oc ord tile form codec, BoxW L H n c m d, .slice X r xc] w fun e w' => e = .returned (.tuple #[.int .i64 0, .int .i64 3]) ∧ Below w.heap.size w w' := by
  have HOE := Lib.hid hoe
  have HNo := Lib.hid hno
  clear hoe hno
  have KB := Lib.hid (lay_box w S O s sc o oc ord tile form codec)
  have HB1 : Hid (Below w.heap.size w ((w.alloc (.cells #[.slice S s sc, .slice O o oc, .int .i64 ord, .int .i64 tile, .int .i64 form, .int .i64 codec] 43)).alloc (.cells #[.slice L n c, .slice H m d] 45))) := ((Below.refl _ _).alloc (Nat.le_refl _) _).alloc (by simp) _
  have hz1 : (w.alloc (.cells #[.slice S s sc, .slice O o oc, .int .i64 ord, .int .i64 tile, .int .i64 form, .int .i64 codec] 43)).heap.size = w.heap.size + 1 := by simp
  go_enter Tryz.func16, Tryz.ntmps16
  go_wp2_with fail
  generalize w.alloc (.cells #[.slice S s sc, .slice O o oc, .int .i64 ord, .int .i64 tile, .int .i64 form, .int .i64 codec] 43) = Wa at *
  have K2 := Lib.hid (box_two Wa (.slice L n c) (.slice H m d) 45)
  have HB2 : Hid (Below Wa.heap.size Wa (Wa.alloc (.cells #[.slice L n c, .slice H m d] 45))) := (Below.refl _ _).alloc (Nat.le_refl _) _
  rw [hz1] at K2
  generalize Wa.alloc (.cells #[.slice L n c, .slice H m d] 45) = Wb at *
  obtain ⟨l0, l1, l2, l3, l4, l5⟩ := KB.out Wb HB2.out
  obtain ⟨m0, m1⟩ := K2.out Wb (Below.refl _ _)
  go_wp2_with fail
  refine (HOE.out _ HB1.out).mono ?_
  rintro e w1 ⟨rfl, hb1⟩
  obtain ⟨m0, m1⟩ := K2.out w1 hb1
  go_wp2_with fail
  refine (HNo.out _ (st HB1.out hb1)).mono ?_
  rintro e w2 ⟨rfl, hb2⟩
  go_wp2
  go_ret2
  exact ⟨rfl, st HB1.out (st hb1 hb2)⟩
end Go.Proofs.YtogmbehomilalaaGreatDoor
end

/- The keys of an order: those of the row-major order. -/
section
namespace Go.Proofs.YtogmbehomilalaaGreatDoor
open Go Go.RowKit Go.Deep

set_option maxRecDepth 100000 in
set_option maxHeartbeats 4000000 in
theorem s_keysR (w : World) (S O L H : Option Addr) (s sc o oc n c d : Nat) (tile form codec : Int) (lo hi : Nat → Int) (hl : IntsAt w L n lo) (hh : IntsAt w H n hi) (hn : n ≤ 1000)
    (hb : ∀ k, k < n → -9223372036854775808 ≤ lo k ∧ lo k ≤ hi k ∧ hi k ≤ 1073741824 ∧ hi k - lo k < 4096) :
    Calls Tryz.prog 49 #[LayV S s sc O o oc 1 tile form codec, BoxW L H n c n d] w fun e w' => e = .returned (.func (.func 95) #[FrmV L n c H n d tile (wdTo lo hi n : Nat)] #[]) ∧ Below w.heap.size w w' := by
  have HLo := Lib.hid hl
  have HHi := Lib.hid hh
  have HB := Lib.hid hb
  clear hl hh hb
  have HBL := Lib.hid Tryz.bits_Len
  have KB := Lib.hid (lay_box w S O s sc o oc 1 tile form codec)
  have HB1 : Hid (Below w.heap.size w (w.alloc (.cells #[.slice S s sc, .slice O o oc, .int .i64 1, .int .i64 tile, .int .i64 form, .int .i64 codec] 43))) := (Below.refl _ _).alloc (Nat.le_refl _) _
  have hz1 : (w.alloc (.cells #[.slice S s sc, .slice O o oc, .int .i64 1, .int .i64 tile, .int .i64 form, .int .i64 codec] 43)).heap.size = w.heap.size + 1 := by simp
  go_enter Tryz.func49, Tryz.ntmps49
  go_wp2_with fail
  generalize w.alloc (.cells #[.slice S s sc, .slice O o oc, .int .i64 1, .int .i64 tile, .int .i64 form, .int .i64 codec] 43) = Wa at *
  have K2 := Lib.hid (box_two Wa (.slice L n c) (.slice H n d) 45)
  have HB2 : Hid (Below Wa.heap.size Wa (Wa.alloc (.cells #[.slice L n c, .slice H n d] 45))) := (Below.refl _ _).alloc (Nat.le_refl _) _
  rw [hz1] at K2 HB2 KB
  have HB3 : Hid (Below w.heap.size w (Wa.alloc (.cells #[.slice L n c, .slice H n d] 45))) := Below.trans HB1.out (HB2.out.mono (by omega))
  generalize hWb : Wa.alloc (.cells #[.slice L n c, .slice H n d] 45) = Wb at *
  have hz2 : Wb.heap.size = w.heap.size + 2 := by rw [← hWb]; simp; omega
  clear hWb
  obtain ⟨l0, l1, l2, l3, l4, l5⟩ := KB.out Wb HB2.out
  obtain ⟨m0, m1⟩ := K2.out Wb (Below.refl _ _)
  go_wp2_with fail
  have hr0 : (Wb.alloc (.cells #[.slice L n c, .slice H n d, .int .i64 tile, .int .i64 0] 148)).heap[w.heap.size + 1 + 1]? = some (.cells #[.slice L n c, .slice H n d, .int .i64 tile, .int .i64 ((0 : Nat) : Int)] 148 (0, 0)) := by
    have h := heap_alloc_new Wb (.cells #[.slice L n c, .slice H n d, .int .i64 tile, .int .i64 0] 148)
    rw [hz2] at h
    exact h
  have HB5 : Hid (Below Wb.heap.size Wb (Wb.alloc (.cells #[.slice L n c, .slice H n d, .int .i64 tile, .int .i64 0] 148))) := (Below.refl _ _).alloc (Nat.le_refl _) _
  generalize Wb.alloc (.cells #[.slice L n c, .slice H n d, .int .i64 tile, .int .i64 0] 148) = Wc at *
  clear m0 m1 l0 l1 l2 l3 l4 l5
  go_loopw [6, 7, 15] (fun _ _ i wr => ∃ k u : Nat, k ≤ n ∧ i = .int .i64 k ∧ wr.heap[w.heap.size + 1 + 1]? = some (.cells #[.slice L n c, .slice H n d, .int .i64 tile, .int .i64 (u : Int)] 148 (0, 0)) ∧ Hid (u = wdTo lo hi k) ∧ Hid (Below Wb.heap.size Wb wr)) (fun _ _ i _ => n - (intOf i).toNat)
  case atStart => exact ⟨0, 0, Nat.zero_le _, rfl, hr0, rfl, HB5.out⟩
  case round =>
    obtain ⟨k, u, hk, rfl, hrow, HU, HBr⟩ := hrel
    obtain ⟨m0, m1⟩ := K2.out wr HBr.out
    obtain ⟨l0, -, l2, -⟩ := KB.out wr (Below.trans HB2.out (HBr.out.mono (by omega)))
    have HBw : Hid (Below w.heap.size w wr) := Below.trans HB3.out (HBr.out.mono (by omega))
    obtain ⟨g0, g1, g2, g3, gz⟩ := frm_row _ _ _ _ _ _ hrow
    by_cases hlt : k < n
    · obtain ⟨b1, o1, rfl, _, hc1⟩ := (HHi.out.below HBw.out) (by omega)
      have x0 := hc1 k hlt
      obtain ⟨b2, o2, rfl, _, hc2⟩ := (HLo.out.below HBw.out) (by omega)
      have y0 := hc2 k hlt
      clear hc1 hc2
      obtain ⟨f1, f2, f3⟩ := HB.out k hlt
      obtain ⟨mo, hmo⟩ : ∃ mo : Nat, (mo : Int) = hi k - lo k := ⟨(hi k - lo k).toNat, by omega⟩
      have HR : Hid (wdTo lo hi (k + 1) = max (wdTo lo hi k) (Lib.bitLen mo)) := by show _ = _; rw [wdTo, show (hi k - lo k).toNat = mo by omega]
      rw [← HU.out] at HR
      generalize lo k = x at *
      generalize hi k = y at *
      have hsu : IntKind.i64.wrap (y - x) = y - x := w64 (by omega) (by omega)
      have HL9 : Hid (∀ W, Calls Tryz.prog 92 #[.int .u64 (IntKind.u64.wrap (y - x))] W fun e w' => e = .returned (.int .i64 (Lib.bitLen mo)) ∧ w' = W) := fun W => by
        rw [wrap_u (n := y - x) (by omega) (by omega)]
        have h := HBL.out (y - x) W (by omega) (by omega)
        rwa [← hmo, Int.toNat_natCast, hmo] at h
      clear l0 l2 g0 g1 g2
      go_wp2_with fail
      refine wp_region_still_tail 13 (by kernel_rfl) (by kernel_rfl) ?_
      simp only [List.take_succ_cons, List.take_zero, List.drop_succ_cons, List.drop_zero]
      iterate 10 still_step
      still_call (HL9.out _)
      iterate 2 still_step
      refine wpStill_nil ?_
      change wpList _ _ _ _ _ wr.drew
      have hrow2 : wr.drew.heap[w.heap.size + 1 + 1]? = some (.cells #[.slice (some ⟨b2, o2, none⟩) n c, .slice (some ⟨b1, o1, none⟩) n d, .int .i64 tile, .int .i64 (u : Int)] 148 (0, 0)) := hrow
      have HBr2 : Hid (Below Wb.heap.size Wb wr.drew) := Below.drew HBr.out
      clear g3 gz hrow HBr x0 y0 m0 m1 hsu
      generalize wr.drew = w5 at *
      obtain ⟨-, -, -, g3, gz⟩ := frm_row _ _ _ _ _ _ hrow2
      go_wp2
      have hmx : max (u : Int) (Lib.bitLen mo : Nat) = ((max u (Lib.bitLen mo) : Nat) : Int) := by omega
      exact ⟨⟨k + 1, max u (Lib.bitLen mo), by omega, by go_num, by rw [frm_set hrow2, hmx], HR.out.symm, HBr2.out.setCell (by show Wb.heap.size ≤ w.heap.size + 1 + 1; omega) _⟩, by simp [intOf]; omega⟩
    · obtain rfl : k = n := by omega
      go_wp2
      go_ret
      exact ⟨by rw [← HU.out]; rfl, HBw.out⟩
end Go.Proofs.YtogmbehomilalaaGreatDoor
end

/- The coordinates of a box in the row-major order. -/
section
namespace Go.Proofs.YtogmbehomilalaaGreatDoor
open Go Go.RowKit Go.Deep Go.Shelf

set_option maxRecDepth 100000 in
set_option maxHeartbeats 4000000 in
theorem s_SeqR (w : World) (S O L H : Option Addr) (s sc o oc n c d : Nat) (tile form codec : Int) (lo hi : Nat → Int) (e : Nat → Nat) (hl : IntsAt w L n lo) (hh : IntsAt w H n hi) (h1 : 1 ≤ n) (h4 : n ≤ 4) (ho : ordB 1 tile = true)
    (hb : ∀ k, k < n → -9223372036854775808 ≤ lo k ∧ lo k ≤ hi k ∧ hi k ≤ 1073741824 ∧ hi k - lo k < 4096) (he : ∀ k, k < n → 1 ≤ e k ∧ hi k = lo k + e k - 1) (hv : volO lo hi n ≤ 4096) (hv2 : volC e n 0 ≤ 4096) :
    Calls Tryz.prog 14 #[LayV S s sc O o oc 1 tile form codec, BoxW L H n c n d] w fun e' w' => ∃ b, e' = .returned (.tuple #[.slice (some ⟨b, 0, none⟩) (volC e n 0) (volC e n 0), .int .i64 0]) ∧ ListsAt w' (some ⟨b, 0, none⟩) (volC e n 0) (fun _ => n) (fun t k => crdZ lo e n ((pairR (rmK n lo hi e) (volC e n 0))[t]!).2 k) ∧ Below w.heap.size w w' := by
  have hN1 : 1 ≤ volC e n 0 := volC_pos' (fun k hk => (he k hk).1) (Nat.zero_le _)
  have HOE : Hid (∀ W, Below w.heap.size w W → Calls Tryz.prog 46 #[LayV S s sc O o oc 1 tile form codec, BoxW L H n c n d, .int .i64 n] W fun e w' => e = .returned (.int .i64 0) ∧ Below W.heap.size W w') := fun W hW => s_orderError W S O L H s sc o oc n c d 1 tile form codec lo hi (hl.below hW) (hh.below hW) h1 h4 ho hb hv
  have HCO : Hid (∀ W, Calls Tryz.prog 48 #[BoxW L H n c n d] W fun e w' => ∃ Bb, e = .returned (.func (.func 91) #[] #[.pointer (some ⟨Bb, 0, none⟩)]) ∧ Below W.heap.size W w' ∧ Bb < w'.heap.size ∧ w'.heap[Bb]? = some (.cells #[.slice L n c, .slice H n d] 45 (0, 0))) := fun W => (c_coordinates W (.slice L n c) (.slice H n d)).mono fun e' w' h => by
    obtain ⟨rfl, rfl⟩ := h
    exact ⟨_, rfl, (Below.refl _ _).alloc (Nat.le_refl _) _, by simp, heap_alloc_new W _⟩
  have HKE : Hid (∀ W, Below w.heap.size w W → Calls Tryz.prog 49 #[LayV S s sc O o oc 1 tile form codec, BoxW L H n c n d] W fun e w' => e = .returned (.func (.func 95) #[FrmV L n c H n d tile (wdTo lo hi n : Nat)] #[]) ∧ Below W.heap.size W w') := fun W hW => s_keysR W S O L H s sc o oc n c d tile form codec lo hi (hl.below hW) (hh.below hW) (by omega) hb
  have HSO : Hid (∀ W Bb W1, Below w.heap.size w W1 → Below W1.heap.size W1 W → Bb < W1.heap.size → W1.heap[Bb]? = some (.cells #[.slice L n c, .slice H n d] 45 (0, 0)) → Calls Tryz.prog 47 #[.func (.func 91) #[] #[.pointer (some ⟨Bb, 0, none⟩)], .func (.func 95) #[FrmV L n c H n d tile (wdTo lo hi n : Nat)] #[], .func (.func 50) #[] #[]] W fun e' w' => ∃ b, e' = .returned (.slice (some ⟨b, 0, none⟩) (volC e n 0) (volC e n 0)) ∧ ListsAt w' (some ⟨b, 0, none⟩) (volC e n 0) (fun _ => n) (fun t k => crdZ lo e n ((pairR (rmK n lo hi e) (volC e n 0))[t]!).2 k) ∧ Below W.heap.size W w') := fun W Bb W1 hW1 hW hB hBb => by
    have hWw : Below w.heap.size w W := hW1.trans (hW.mono hW1.size)
    obtain ⟨bl, ol, rfl, hbl, hcl⟩ := (hl.below hWw) (by omega)
    obtain ⟨bh, oh, rfl, hbh, hch⟩ := (hh.below hWw) (by omega)
    have hb2 : W.heap[Bb]? = _ := (hW.block Bb hB).trans hBb
    have hB2 : Bb < W.heap.size := Nat.lt_of_lt_of_le hB hW.size
    refine (c_sorted W _ _ (enters_of Tryz.func91 (by kernel_rfl) rfl) (N := volC e n 0) (by omega) hN1
      (fun m hm => crd_iter m hm Bb bl ol c bh oh d n lo hi e h1 (by omega) (fun k hk => ⟨(he k hk).1, (he k hk).2, (hb k hk).1, by have := (hb k hk).2.2.1; omega⟩)) (crd_elem n lo e) (fun A t v W h => by obtain ⟨b, c, g, h, _⟩ := h; exact ⟨_, _, _, h⟩)
      (fun U hU => ?_) 95 _ (enters_of Tryz.func95 (by kernel_rfl) rfl) (rmK n lo hi e) ?_).mono ?_
    · have hU2 := (hU.block Bb hB2).trans hb2
      exact ⟨by rw [cell_of_row _ _ _ _ _ _ hU2]; rfl, by rw [cell_of_row _ _ _ _ _ _ hU2]; rfl, fun k hk => ⟨(hU.cell (p := ⟨bl, ol + k, none⟩) hbl).trans (hcl k hk), (hU.cell (p := ⟨bh, oh + k, none⟩) hbh).trans (hch k hk)⟩⟩
    · intro A t v U ht hv hU
      obtain ⟨P, cc, rfl, hP⟩ := crd_ints hv
      have hUw : Below w.heap.size w U := hWw.trans (hU.mono hWw.size)
      exact (s_rowMajor U (some ⟨bl, ol, none⟩) (some ⟨bh, oh, none⟩) P n c d cc tile _ lo hi _ (hl.below hUw) (hh.below hUw) hP h4 hb (fun k hk => by
        have hd := digC_lt (t := t) (fun k hk => (he k hk).1) hk
        have hk1 := he k hk
        unfold crdZ
        omega)).mono fun e9 w9 h9 => h9
    · rintro e' w' ⟨b, A, xs, rfl, q1, q2, q3, q4⟩
      refine ⟨b, rfl, fun _ => ⟨b, 0, rfl, q2.lt, fun k hk => ?_⟩, q4⟩
      obtain ⟨P, cc, hx, hP⟩ := crd_ints (q3 _ (pairR_lt (rmK n lo hi e) (volC e n 0) k hk))
      exact ⟨P, cc, by rw [Nat.zero_add, q2.cell hk, hx], hP, by show n ≤ 1000000; omega⟩
  have KB := Lib.hid (lay_box w S O s sc o oc 1 tile form codec)
  have HB1 : Hid (Below w.heap.size w (w.alloc (.cells #[.slice S s sc, .slice O o oc, .int .i64 1, .int .i64 tile, .int .i64 form, .int .i64 codec] 43))) := (Below.refl _ _).alloc (Nat.le_refl _) _
  have hz1 : (w.alloc (.cells #[.slice S s sc, .slice O o oc, .int .i64 1, .int .i64 tile, .int .i64 form, .int .i64 codec] 43)).heap.size = w.heap.size + 1 := by simp
  generalize rmK n lo hi e = ky at *
  generalize wdTo lo hi n = wd at *
  generalize volC e n 0 = N at *
  clear hl hh h1 h4 ho hb he hv hv2 hN1
  go_enter Tryz.func14, Tryz.ntmps14
  go_wp2_with fail
  generalize w.alloc (.cells #[.slice S s sc, .slice O o oc, .int .i64 1, .int .i64 tile, .int .i64 form, .int .i64 codec] 43) = Wa at *
  have K2 := Lib.hid (box_two Wa (.slice L n c) (.slice H n d) 45)
  have HB2 : Hid (Below Wa.heap.size Wa (Wa.alloc (.cells #[.slice L n c, .slice H n d] 45))) := (Below.refl _ _).alloc (Nat.le_refl _) _
  rw [hz1] at K2 HB2 KB
  have HB3 : Hid (Below w.heap.size w (Wa.alloc (.cells #[.slice L n c, .slice H n d] 45))) := Below.trans HB1.out (HB2.out.mono (by omega))
  generalize hWb : Wa.alloc (.cells #[.slice L n c, .slice H n d] 45) = Wb at *
  have hz2 : Wb.heap.size = w.heap.size + 2 := by rw [← hWb]; simp; omega
  clear hWb
  have KK : Hid (∀ W, Below Wb.heap.size Wb W → (W.cell? ⟨w.heap.size, 0, none⟩ = some (.slice S s sc) ∧ W.cell? ⟨w.heap.size, 1, none⟩ = some (.slice O o oc) ∧ W.cell? ⟨w.heap.size, 2, none⟩ = some (.int .i64 1) ∧ W.cell? ⟨w.heap.size, 3, none⟩ = some (.int .i64 tile) ∧ W.cell? ⟨w.heap.size, 4, none⟩ = some (.int .i64 form) ∧ W.cell? ⟨w.heap.size, 5, none⟩ = some (.int .i64 codec)) ∧ W.cell? ⟨w.heap.size + 1, 0, none⟩ = some (.slice L n c) ∧ W.cell? ⟨w.heap.size + 1, 1, none⟩ = some (.slice H n d)) := fun W hW => ⟨KB.out W (Below.trans HB2.out (hW.mono (by omega))), K2.out W hW⟩
  clear KB K2 HB1 HB2
  obtain ⟨⟨l0, l1, l2, l3, l4, l5⟩, m0, m1⟩ := KK.out Wb (Below.refl _ _)
  go_wp2_with (first
    | (go_at_call 46; refine (HOE.out _ HB3.out).mono ?_; rintro e w1 ⟨rfl, hb1⟩; obtain ⟨⟨l0, l1, l2, l3, l4, l5⟩, m0, m1⟩ := KK.out w1 hb1))
  clear l0 l1 l2 l3 l4 l5 m0 m1
  have B0 : Below w.heap.size w w1 := st HB3.out hb1
  have KC : Hid (∀ W, Below w1.heap.size w1 W → (W.cell? ⟨w.heap.size, 0, none⟩ = some (.slice S s sc) ∧ W.cell? ⟨w.heap.size, 1, none⟩ = some (.slice O o oc) ∧ W.cell? ⟨w.heap.size, 2, none⟩ = some (.int .i64 1) ∧ W.cell? ⟨w.heap.size, 3, none⟩ = some (.int .i64 tile) ∧ W.cell? ⟨w.heap.size, 4, none⟩ = some (.int .i64 form) ∧ W.cell? ⟨w.heap.size, 5, none⟩ = some (.int .i64 codec)) ∧ W.cell? ⟨w.heap.size + 1, 0, none⟩ = some (.slice L n c) ∧ W.cell? ⟨w.heap.size + 1, 1, none⟩ = some (.slice H n d)) := fun W hW => KK.out W (hb1.trans (hW.mono hb1.size))
  have B0d : Below w1.heap.size w1 w1.drew := Below.drew (Below.refl _ _)
  clear KK HB3
  go_region_held3 (fun W => (W.cell? ⟨w.heap.size, 0, none⟩ = some (.slice S s sc) ∧ W.cell? ⟨w.heap.size, 1, none⟩ = some (.slice O o oc) ∧ W.cell? ⟨w.heap.size, 2, none⟩ = some (.int .i64 1) ∧ W.cell? ⟨w.heap.size, 3, none⟩ = some (.int .i64 tile) ∧ W.cell? ⟨w.heap.size, 4, none⟩ = some (.int .i64 form) ∧ W.cell? ⟨w.heap.size, 5, none⟩ = some (.int .i64 codec)) ∧ W.cell? ⟨w.heap.size + 1, 0, none⟩ = some (.slice L n c) ∧ W.cell? ⟨w.heap.size + 1, 1, none⟩ = some (.slice H n d))
    (first | exact KC.out _ (st (st hb2 hb3) hb4) | exact KC.out _ (st hb2 hb3) | exact KC.out _ hb2 | exact KC.out _ B0d | exact KC.out _ (Below.refl _ _))
    (first
      | (go_at_call 48; refine (HCO.out _).mono ?_; rintro e w2 ⟨Bb, rfl, hb2', hk2, hk3⟩; have hb2 : Below w1.heap.size w1 w2 := st B0d hb2')
      | (go_at_call 49; refine (HKE.out _ (st B0 hb2)).mono ?_; rintro e w3 ⟨rfl, hb3⟩)
      | (go_at_call 47; refine (HSO.out _ Bb w2 (st B0 hb2) hb3 hk2 hk3).mono ?_; rintro e w4 ⟨b, rfl, hL, hb4⟩))
  all_goals
    go_wp2
    go_ret2
    exact ⟨b, rfl, hL, st B0 (st (st hb2 hb3) hb4)⟩
end Go.Proofs.YtogmbehomilalaaGreatDoor
end

/- The reference's rational numbers: made of integers. -/
import Derived.Test.YtmejbkfamapnkaaGreatDoorZCom9
import Derived.Test.YtmejbkfamapnkaaGreatDoorZRatV
import Derived.Test.YtmejbkfamapnkaaGreatDoorZFind
import Derived.Test.YtmejbkfamapnkaaGreatDoorZFmt
import Derived.Deep.RegionHeld3

/- The reference's rational numbers: made of integers. -/
section
namespace Go.Proofs.YtmejbkfamapnkaaGreatDoor
open Go.RowKit Go.Deep

/-- The struct r is the reference's number with the sign s and the quotient n by d. -/
def Ref (w : World) (r : Value) (s : Bool) (n d : Nat) : Prop := ∃ u v, r = .agg #[.bool s, u, v] ∧ N9At w u n ∧ N9At w v d
theorem Ref.below {w w' : World} {r : Value} {s : Bool} {n d : Nat} (h : Ref w r s n d) (hb : Below w.heap.size w w') : Ref w' r s n d := by
  obtain ⟨u, v, e, h1, h2⟩ := h
  exact ⟨u, v, e, h1.below hb, h2.below hb⟩
def RefRet (s : Bool) (n d : Nat) (w : World) (e : Ending) (w' : World) : Prop := ∃ r, e = .returned r ∧ Ref w' r s n d ∧ Below w.heap.size w w'
theorem N9At.sl {w : World} {v : Value} {x : Nat} (h : N9At w v x) : ∃ A c, v = .slice A (nw9 x) c := by
  obtain ⟨A, c, e, _⟩ := h
  exact ⟨A, c, e⟩

theorem info_ref : (Tryz.prog.info? 65).map (·.size) = some 3 := by kernel_rfl
theorem ref_one (b : Bool) (A A' : Option Addr) (n n' c c' : Nat) : ∀ v ∈ ([.bool b, .slice A n c, .slice A' n' c'] : List Value), v.oneCell' = true := by
  intro v hv
  simp only [List.mem_cons, List.not_mem_nil, or_false] at hv
  rcases hv with rfl | rfl | rfl <;> rfl
/-- The result's variable, as the call begins. -/
theorem zero_box (w : World) : ∃ W, w.alloc (.cells #[.bool false, .slice none 0 0, .slice none 0 0] 65) = W ∧ Below w.heap.size w W ∧ W.heap.size = w.heap.size + 1 ∧
    Hid (∀ W', Below W.heap.size W W' → W'.heap[w.heap.size]? = some (.cells #[.bool false, .slice none 0 0, .slice none 0 0] 65 (0, 0))) := by
  refine ⟨_, rfl, (Below.refl _ _).alloc (Nat.le_refl _) _, by simp, fun W' hW => ?_⟩
  exact (hW.block _ (by simp)).trans (heap_alloc_new w _)

theorem ref_noint {w : World} {r t : Nat} {b : Bool} {A A' : Option Addr} {n n' c c' : Nat} (h : w.heap[r]? = some (.cells #[.bool b, .slice A n c, .slice A' n' c'] t (0, 0))) (o : Nat) (x : Nat) : w.cell? ⟨r, o, none⟩ ≠ some (U9 x) := by
  intro h1
  rw [cell_of_row w r o _ t (0, 0) h] at h1
  rcases o with _ | _ | _ | o
  · simp at h1
  · simp at h1
  · simp at h1
  · simp at h1
theorem N9At.apart {w w' : World} {v : Value} {x r : Nat} (h : N9At w v x) (hr : ∀ o y, w.cell? ⟨r, o, none⟩ ≠ some (U9 y)) (hg : w.grownBy w' (some r)) : N9At w' v x := by
  obtain ⟨A, c, e, h1, h2, h3⟩ := h
  refine ⟨A, c, e, h1, h2, fun hn => ?_⟩
  obtain ⟨b, o, e1, hb, hc⟩ := h3 hn
  refine ⟨b, o, e1, Nat.lt_of_lt_of_le hb hg.size, fun k hk => hg.cell (hc k hk) ?_⟩
  intro e2
  have e3 : b = r := by simpa using e2
  subst e3
  exact hr _ _ (hc k hk)

set_option maxHeartbeats 1000000 in
theorem r_reduced (w : World) (s : Bool) (u v : Value) (x y : Nat) (hu : N9At w u x) (hv : N9At w v y) (hn : nw9 x ≤ 100000000) (hn' : nw9 y ≤ 100000000) (hy : 0 < y) :
    Calls Tryz.prog 126 #[.bool s, u, v] w (RefRet (sgn s (x / Nat.gcd x y)) (x / Nat.gcd x y) (y / Nat.gcd x y) w) := by
  have hg : 0 < Nat.gcd x y := Nat.gcd_pos_of_pos_right _ hy
  have hgn : nw9 (Nat.gcd x y) ≤ 100000000 := Nat.le_trans (nw_mono9 (Nat.le_of_dvd hy (Nat.gcd_dvd_right x y))) hn'
  have HG := Lib.hid (fun W (hW : Below w.heap.size w W) => r_common W u v x y (hu.below hW) (hv.below hW) hn hn')
  have HU := Lib.hid hu
  have HV := Lib.hid hv
  obtain ⟨A, c, rfl⟩ := hu.sl
  obtain ⟨A', c', rfl⟩ := hv.sl
  generalize Nat.gcd x y = g at *
  clear hu hv
  obtain ⟨W0, hW0, hB0, hz0, HK⟩ := zero_box w
  have HB0 := Lib.hid hB0
  go_enter Tryz.func126, Tryz.ntmps126
  go_wp2_with fail
  clear hW0 hB0
  refine (HG.out _ HB0.out).mono ?_
  rintro e w1 ⟨gv, rfl, hgv, hb1⟩
  have HGV := Lib.hid hgv
  have HB1 := Lib.hid hb1
  obtain ⟨A1, c1, rfl⟩ := hgv.sl
  clear hgv hb1 HG
  go_wp2_with fail
  refine (r_over w1 _ _ x g (HU.out.below (btr HB0.out HB1.out)) HGV.out hn hgn hg).mono ?_
  rintro e w2 ⟨n, r1, rfl, hn2, hr1, hb2⟩
  have HN2 := Lib.hid hn2
  have HB2 := Lib.hid (btr HB1.out hb2)
  have HGV2 := Lib.hid (HGV.out.below hb2)
  obtain ⟨A2, c2, rfl⟩ := hn2.sl
  obtain ⟨A3, c3, rfl⟩ := hr1.sl
  clear hn2 hr1 hb2
  go_wp2_with fail
  refine (r_over w2 _ _ y g (HV.out.below (btr HB0.out HB2.out)) HGV2.out hn' hgn hg).mono ?_
  rintro e w3 ⟨d, r2, rfl, hd2, hr2, hb3⟩
  have HD2 := Lib.hid hd2
  have HB3 := Lib.hid (btr HB2.out hb3)
  have HN3 := Lib.hid (HN2.out.below hb3)
  obtain ⟨A4, c4, rfl⟩ := hd2.sl
  obtain ⟨A5, c5, rfl⟩ := hr2.sl
  clear hd2 hr2 hb3
  have hz := nw_pos9 (x / g)
  have hdc : decide (0 < nw9 (x / g)) = decide (0 < x / g) := by rw [decide_eq_decide]; exact hz
  have HDC := Lib.hid hdc
  have hcell := HK.out w3 HB3.out
  clear hz hdc
  have HNF : Hid (∀ W', Below W0.heap.size W0 W' → Below w.heap.size w W') := fun W' h => btr HB0.out h
  have HCell := Lib.hid hcell
  have HSg : Hid (sgn false (x / g) = false) := rfl
  cases s
  · go_wp2_with (refine wpList_store_row 65 _ _ rfl rfl rfl w.heap.size 65 rfl [.bool false, .slice A2 (nw9 (x / g)) c2, .slice A4 (nw9 (y / g)) c4] rfl _ hcell rfl info_ref (ref_one _ _ _ _ _ _ _) ?_; intro wz hhz hgz hzz; have HGz := Lib.hid hgz; have HZz := Lib.hid hzz; clear hzz hgz hcell)
    have hno := ref_noint HCell.out
    exact bodyPost_ret (v := .agg #[.bool false, .slice A2 (nw9 (x / g)) c2, .slice A4 (nw9 (y / g)) c4]) (results_cell_row Tryz.results126 _ _ w.heap.size 65 _ (0, 0) _ rfl hhz Tryz.underlying65 rfl (by rw [info_ref]; rfl)) rfl
      ⟨_, rfl, ⟨_, _, rfl, HN3.out.apart hno HGz.out, HD2.out.apart hno HGz.out⟩, (HNF.out _ HB3.out).grown HGz.out (HNF.out _ HB3.out).size (fun j hj => by injection hj with hj; omega)⟩
  · have HSt : Hid (decide (0 < nw9 (x / g)) = sgn true (x / g)) := by show _ = (true && _); rw [Bool.true_and]; exact HDC.out
    go_wp2_with (refine wpList_store_row 65 _ _ rfl rfl rfl w.heap.size 65 rfl [.bool (decide (0 < nw9 (x / g))), .slice A2 (nw9 (x / g)) c2, .slice A4 (nw9 (y / g)) c4] rfl _ hcell rfl info_ref (ref_one _ _ _ _ _ _ _) ?_; intro wz hhz hgz hzz; have HGz := Lib.hid hgz; have HZz := Lib.hid hzz; clear hzz hgz hcell)
    have hno := ref_noint HCell.out
    exact bodyPost_ret (v := .agg #[.bool (decide (0 < nw9 (x / g))), .slice A2 (nw9 (x / g)) c2, .slice A4 (nw9 (y / g)) c4]) (results_cell_row Tryz.results126 _ _ w.heap.size 65 _ (0, 0) _ rfl hhz Tryz.underlying65 rfl (by rw [info_ref]; rfl)) rfl
      ⟨_, rfl, ⟨_, _, by rw [HSt.out], HN3.out.apart hno HGz.out, HD2.out.apart hno HGz.out⟩, (HNF.out _ HB3.out).grown HGz.out (HNF.out _ HB3.out).size (fun j hj => by injection hj with hj; omega)⟩

end Go.Proofs.YtmejbkfamapnkaaGreatDoor
end

/- The reference's rational numbers: the string, the lengths, the sign, whether it is an integer. -/
section
namespace Go.Proofs.YtmejbkfamapnkaaGreatDoor
open Go.RowKit Go.Deep

theorem dec_len9 (x : Nat) (h : nw9 x ≤ 100000) : (Lib.decDigits x).length ≤ 900009 := by
  have h1 : x < 10 ^ (9 * nw9 x) := by
    have := lt_nw9 x
    rw [Nat.pow_mul]; exact this
  obtain ⟨K, hK⟩ : ∃ K, K = 900008 := ⟨_, rfl⟩
  have h2 : x < 10 ^ (K + 1) := Nat.lt_of_lt_of_le h1 (Nat.pow_le_pow_right (by decide) (by omega))
  have h3 := dec_len_le K x h2
  omega

set_option maxHeartbeats 1000000 in
theorem r_one (w : World) : Calls Tryz.prog 82 #[.int .u64 1] w (Nat9 1 w) := r_natural w 1 (by decide)

/-- A number's box, as a call begins. -/
theorem ref_box (w : World) (s : Bool) (u v : Value) : ∃ W, w.alloc (.cells #[.bool s, u, v] 65) = W ∧ Below w.heap.size w W ∧ W.heap.size = w.heap.size + 1 ∧
    Hid (∀ W', Below W.heap.size W W' → W'.cell? ⟨w.heap.size, 0, none⟩ = some (.bool s) ∧ W'.cell? ⟨w.heap.size, 1, none⟩ = some u ∧ W'.cell? ⟨w.heap.size, 2, none⟩ = some v) := by
  refine ⟨_, rfl, (Below.refl _ _).alloc (Nat.le_refl _) _, by simp, fun W' hW => ?_⟩
  have hh := heap_alloc_new w (.cells #[.bool s, u, v] 65)
  have hl : w.heap.size < (w.alloc (.cells #[.bool s, u, v] 65)).heap.size := by simp
  refine ⟨(hW.cell (p := ⟨w.heap.size, 0, none⟩) hl).trans ?_, (hW.cell (p := ⟨w.heap.size, 1, none⟩) hl).trans ?_, (hW.cell (p := ⟨w.heap.size, 2, none⟩) hl).trans ?_⟩ <;> (rw [cell_of_row _ _ _ _ _ _ hh]; rfl)
theorem cmp_one (d : Nat) : (cmpN d 1 == 0) = isOneB d := by
  unfold isOneB
  by_cases h : d = 1
  · subst h; rw [cmpN_eq]; rfl
  · have e1 : (d == 1) = false := by simp [h]
    rw [e1, beq_eq_false_iff_ne]
    rcases Nat.lt_or_ge d 1 with h1 | h1
    · rw [cmpN_lt h1]; decide
    · rw [cmpN_gt (by omega)]; decide

set_option maxHeartbeats 2000000 in
theorem r_Sign (w : World) (r : Value) (s : Bool) (n d : Nat) (h : Ref w r s n d) :
    Calls Tryz.prog 154 #[r] w fun e w' => e = .returned (.int .i64 (signN s n)) ∧ Below w.heap.size w w' := by
  obtain ⟨u, v, rfl, hu, hv⟩ := h
  obtain ⟨A, c, rfl⟩ := hu.sl
  obtain ⟨A', c', rfl⟩ := hv.sl
  by_cases hz : n = 0
  · have HS : Hid (signN s n = 0) := by show _ = _; unfold signN; rw [if_pos hz]
    have hm : ((nw9 n : Int) == 0) = true := by rw [hz, nw_zero9]; rfl
    clear hz hu hv
    generalize nw9 n = m at *
    go_enter Tryz.func154, Tryz.ntmps154
    go_wp2
    go_ret
    exact ⟨by rw [HS.out]; rfl, (Below.refl _ _).alloc (Nat.le_refl _) _⟩
  · have hm : ((nw9 n : Int) == 0) = false := by rw [beq_eq_false_iff_ne]; have := nw_eq_zero9 n; omega
    have HS : Hid (signN s n = if s = true then -1 else 1) := by show _ = _; unfold signN; rw [if_neg hz]
    clear hz hu hv
    generalize nw9 n = m at *
    cases s
    · go_enter Tryz.func154, Tryz.ntmps154
      go_wp2
      go_ret
      exact ⟨by rw [HS.out]; rfl, (Below.refl _ _).alloc (Nat.le_refl _) _⟩
    · go_enter Tryz.func154, Tryz.ntmps154
      go_wp2
      go_ret
      exact ⟨by rw [HS.out]; rfl, (Below.refl _ _).alloc (Nat.le_refl _) _⟩

set_option maxHeartbeats 4000000 in
theorem r_Text (w : World) (r : Value) (s : Bool) (n d : Nat) (h : Ref w r s n d) (hn : nw9 n ≤ 100000) (hd : nw9 d ≤ 100000) :
    Calls Tryz.prog 76 #[r] w fun e w' => e = .returned (.string ⟨(ratText s n d).toArray⟩) ∧ Below w.heap.size w w' := by
  obtain ⟨u, v, rfl, hu, hv⟩ := h
  have hn2 := dec_len9 n hn
  have hd2 := dec_len9 d hd
  have HDn := Lib.hid (fun W (hW : Below w.heap.size w W) => r_decimal W u n (hu.below hW) (by omega))
  have HDd := Lib.hid (fun W (hW : Below w.heap.size w W) => r_decimal W v d (hv.below hW) (by omega))
  obtain ⟨A, c, rfl⟩ := hu.sl
  obtain ⟨A', c', rfl⟩ := hv.sl
  have HV := Lib.hid hv
  have HC1 := Lib.hid (cmp_one d)
  have HO : Hid (isOneB d = true ↔ d = 1) := by show _ ↔ _; unfold isOneB; simp
  obtain ⟨W0, hW0, hB0, hz0, K⟩ := ref_box w s (.slice A (nw9 n) c) (.slice A' (nw9 d) c')
  have HB0 := Lib.hid hB0
  have k1 := (K.out W0 (Below.refl _ _)).2.1
  clear hB0 hu hv
  have HT : Hid (ratText s n d = (if s then [45] else []) ++ Lib.decDigits n ++ (if d = 1 then [] else 47 :: Lib.decDigits d)) := rfl
  generalize ratText s n d = T at *
  generalize hdn : Lib.decDigits n = Dn at *
  generalize hdd : Lib.decDigits d = Dd at *
  have Hdn := Lib.hid hdn; have Hdd := Lib.hid hdd
  clear hdn hdd
  go_enter Tryz.func76, Tryz.ntmps76
  go_wp2_with fail
  refine (HDn.out W0 HB0.out).mono ?_
  rintro e w1 ⟨rfl, hb1⟩
  have HB1 := Lib.hid hb1
  have q0 := (K.out w1 hb1).1
  clear k1 hb1
  cases s
  all_goals
    go_wp2_with fail
    have B1d : Below w1.heap.size w1 w1.drew := Below.drew (Below.refl _ _)
    go_region_held3 (fun w' => w'.cell? ⟨w.heap.size, 2, none⟩ = some (.slice A' (nw9 d) c'))
      (first | exact (K.out _ (btr HB1.out B3)).2.2 | exact (K.out _ (btr HB1.out B2)).2.2 | exact (K.out _ (btr HB1.out B1d)).2.2 | exact (K.out _ HB1.out).2.2)
      (first
        | (go_at_call 82; refine (r_one _).mono ?_; rintro e w2 ⟨o1, rfl, ho1, hb2⟩; have B2 : Below w1.heap.size w1 w2 := btr B1d hb2)
        | (go_at_call 80; refine (r_cmpN _ _ o1 d 1 (HV.out.below (btr HB0.out (btr HB1.out B2))) ho1).mono ?_; rintro e w3 ⟨rfl, nd, rfl⟩; have B3 : Below w1.heap.size w1 (w2.drewN nd) := below_drewN B2 nd))
  all_goals
    have hCn : (cmpN d 1 != 0) = !isOneB d := by rw [← HC1.out]; rfl
    rw [hCn]
    clear hCn
    have HB3 := Lib.hid (btr HB1.out B3)
    have q2 := (K.out _ HB3.out).2.2
    generalize w2.drewN nd = w3 at *
    by_cases h1 : d = 1
    · have hi : isOneB d = true := HO.out.2 h1
      rw [if_pos h1] at HT
      rw [hi]
      clear h1 hi
      go_wp2
      go_ret
      exact ⟨by rw [HT.out]; first | rfl | (simp [ba_cons]), btr HB0.out HB3.out⟩
    · have hi : isOneB d = false := by
        rcases hb : isOneB d with _ | _
        · rfl
        · exact absurd (HO.out.1 hb) h1
      rw [if_neg h1] at HT
      rw [hi]
      clear h1 hi
      go_wp2_with fail
      refine (HDd.out w3 (btr HB0.out HB3.out)).mono ?_
      rintro e w4 ⟨rfl, hb4⟩
      have HB4 := Lib.hid (btr HB3.out hb4)
      clear hb4 q2
      go_wp2
      go_ret
      exact ⟨by rw [HT.out]; exact congrArg Ending.returned (congrArg Value.string (by apply ByteArray.ext; simp [ByteArray.data_append])), btr HB0.out HB4.out⟩

end Go.Proofs.YtmejbkfamapnkaaGreatDoor
end

/- The reference's natural numbers: the greatest common divisor, and how many binary digits a number has. -/
import Derived.Test.YtnfncdalneifnaaGreatDoorZOver9
import Derived.Test.YtnfncdalneifnaaGreatDoorZM9
import Derived.Laws.IdiomStrings
import Derived.Test.YtnfncdalneifnaaGreatDoorZRatV
import Derived.Test.YtnfncdalneifnaaGreatDoorZFind
import Derived.Test.YtnfncdalneifnaaGreatDoorZFmt
import Derived.Deep.RegionHeld3

/- The reference's natural numbers: the greatest common divisor, and how many binary digits a number has. -/
section
namespace Go.Proofs.YtnfncdalneifnaaGreatDoor
open Go.RowKit Go.Deep

theorem r_over (w : World) (u v : Value) (x y : Nat) (hu : N9At w u x) (hv : N9At w v y) (hn : nw9 x ≤ 100000000) (hn' : nw9 y ≤ 100000000) (hy : 0 < y) :
    Calls Tryz.prog 73 #[u, v] w (Over9 x y w) := by
  rcases Nat.lt_or_ge 2 (nw9 x) with h1 | h1
  · exact r_over_big w u v x y hu hv hn hn' (.inl h1) hy
  · rcases Nat.lt_or_ge 2 (nw9 y) with h2 | h2
    · exact r_over_big w u v x y hu hv hn hn' (.inr ⟨h1, h2⟩) hy
    · exact r_over_small w u v x y hu hv h1 h2 hy

set_option maxHeartbeats 1000000 in
theorem r_common (w : World) (u v : Value) (x y : Nat) (hu : N9At w u x) (hv : N9At w v y) (hn : nw9 x ≤ 100000000) (hn' : nw9 y ≤ 100000000) :
    Calls Tryz.prog 66 #[u, v] w (Nat9 (Nat.gcd x y) w) := by
  have HU := Lib.hid hu
  have HV := Lib.hid hv
  obtain ⟨A, c, rfl, -, -, -⟩ := hu
  obtain ⟨A', c', rfl, -, -, -⟩ := hv
  go_enter Tryz.func66, Tryz.ntmps66
  go_wp2
  go_loopg [0, 1] y (fun g s t wr => ∃ a b, g = 0 + b ∧ Hid (N9At wr s a ∧ N9At wr t b ∧ Nat.gcd a b = Nat.gcd x y ∧ nw9 a ≤ 100000000 ∧ nw9 b ≤ 100000000 ∧ Below w.heap.size w wr))
  case atStart => exact ⟨x, y, (Nat.zero_add _).symm, HU.out, HV.out, rfl, hn, hn', Below.refl _ _⟩
  case round =>
    obtain ⟨a, b, rfl, H⟩ := hrel
    obtain ⟨h1, h2, h3, h4, h5, h6⟩ := H.out
    obtain ⟨A1, c1, rfl, -, -, -⟩ := h1
    obtain ⟨A2, c2, rfl, -, -, -⟩ := h2
    clear h3 h4 h5 h6
    by_cases hb : b = 0
    · subst hb
      have e : nw9 0 = 0 := nw_zero9
      rw [e] at H ⊢
      clear e
      go_wp2
      go_ret
      obtain ⟨h1, h2, h3, h4, h5, h6⟩ := H.out
      rw [Nat.gcd_zero_right] at h3
      subst h3
      exact ⟨_, rfl, h1, h6⟩
    · have hb0 : 0 < nw9 b := (nw_pos9 b).2 (by omega)
      have hlt : a % b < b := Nat.mod_lt _ (by omega)
      go_wp2_with fail
      refine (r_over wr _ _ a b H.out.1 H.out.2.1 H.out.2.2.2.1 H.out.2.2.2.2.1 (by omega)).mono ?_
      rintro e w1 ⟨q, r, rfl, hq, hr, hb1⟩
      have H' : Hid (N9At w1 (.slice A2 (nw9 b) c2) b ∧ N9At w1 r (a % b) ∧ Nat.gcd b (a % b) = Nat.gcd x y ∧ nw9 b ≤ 100000000 ∧ nw9 (a % b) ≤ 100000000 ∧ Below w.heap.size w w1) :=
        ⟨H.out.2.1.below hb1, hr, by rw [← H.out.2.2.1, Nat.gcd_comm a b, Nat.gcd_rec b a, Nat.gcd_comm], H.out.2.2.2.2.1, Nat.le_trans (nw_mono9 (Nat.le_of_lt hlt)) H.out.2.2.2.2.1, H.out.2.2.2.2.2.trans (hb1.mono H.out.2.2.2.2.2.size)⟩
      obtain ⟨A3, c3, rfl, -, -, -⟩ := hr
      obtain ⟨A4, c4, rfl, -, -, -⟩ := hq
      clear hb1
      generalize a % b = m at *
      go_wp2
      go_roundg (0 + m)
      case measure => omega
      case rel => exact ⟨b, m, rfl, H'⟩

end Go.Proofs.YtnfncdalneifnaaGreatDoor
end

/- The reference's decimal strings. -/
section
namespace Go.Proofs.YtnfncdalneifnaaGreatDoor
open Go.RowKit Go.Deep

end Go.Proofs.YtnfncdalneifnaaGreatDoor
end

/- The reference's rational numbers: made of integers. -/
section
namespace Go.Proofs.YtnfncdalneifnaaGreatDoor
open Go.RowKit Go.Deep

/-- The struct r is the reference's number with the sign s and the quotient n by d. -/
def Ref (w : World) (r : Value) (s : Bool) (n d : Nat) : Prop := ∃ u v, r = .agg #[.bool s, u, v] ∧ N9At w u n ∧ N9At w v d
theorem Ref.below {w w' : World} {r : Value} {s : Bool} {n d : Nat} (h : Ref w r s n d) (hb : Below w.heap.size w w') : Ref w' r s n d := by
  obtain ⟨u, v, e, h1, h2⟩ := h
  exact ⟨u, v, e, h1.below hb, h2.below hb⟩
def RefRet (s : Bool) (n d : Nat) (w : World) (e : Ending) (w' : World) : Prop := ∃ r, e = .returned r ∧ Ref w' r s n d ∧ Below w.heap.size w w'
theorem N9At.sl {w : World} {v : Value} {x : Nat} (h : N9At w v x) : ∃ A c, v = .slice A (nw9 x) c := by
  obtain ⟨A, c, e, _⟩ := h
  exact ⟨A, c, e⟩

theorem info_ref : (Tryz.prog.info? 64).map (·.size) = some 3 := by kernel_rfl
theorem ref_one (b : Bool) (A A' : Option Addr) (n n' c c' : Nat) : ∀ v ∈ ([.bool b, .slice A n c, .slice A' n' c'] : List Value), v.oneCell' = true := by
  intro v hv
  simp only [List.mem_cons, List.not_mem_nil, or_false] at hv
  rcases hv with rfl | rfl | rfl <;> rfl
/-- The result's variable, as the call begins. -/
theorem zero_box (w : World) : ∃ W, w.alloc (.cells #[.bool false, .slice none 0 0, .slice none 0 0] 64) = W ∧ Below w.heap.size w W ∧ W.heap.size = w.heap.size + 1 ∧
    Hid (∀ W', Below W.heap.size W W' → W'.heap[w.heap.size]? = some (.cells #[.bool false, .slice none 0 0, .slice none 0 0] 64 (0, 0))) := by
  refine ⟨_, rfl, (Below.refl _ _).alloc (Nat.le_refl _) _, by simp, fun W' hW => ?_⟩
  exact (hW.block _ (by simp)).trans (heap_alloc_new w _)

theorem ref_noint {w : World} {r t : Nat} {b : Bool} {A A' : Option Addr} {n n' c c' : Nat} (h : w.heap[r]? = some (.cells #[.bool b, .slice A n c, .slice A' n' c'] t (0, 0))) (o : Nat) (x : Nat) : w.cell? ⟨r, o, none⟩ ≠ some (U9 x) := by
  intro h1
  rw [cell_of_row w r o _ t (0, 0) h] at h1
  rcases o with _ | _ | _ | o
  · simp at h1
  · simp at h1
  · simp at h1
  · simp at h1
theorem N9At.apart {w w' : World} {v : Value} {x r : Nat} (h : N9At w v x) (hr : ∀ o y, w.cell? ⟨r, o, none⟩ ≠ some (U9 y)) (hg : w.grownBy w' (some r)) : N9At w' v x := by
  obtain ⟨A, c, e, h1, h2, h3⟩ := h
  refine ⟨A, c, e, h1, h2, fun hn => ?_⟩
  obtain ⟨b, o, e1, hb, hc⟩ := h3 hn
  refine ⟨b, o, e1, Nat.lt_of_lt_of_le hb hg.size, fun k hk => hg.cell (hc k hk) ?_⟩
  intro e2
  have e3 : b = r := by simpa using e2
  subst e3
  exact hr _ _ (hc k hk)

set_option maxHeartbeats 1000000 in
theorem r_reduced (w : World) (s : Bool) (u v : Value) (x y : Nat) (hu : N9At w u x) (hv : N9At w v y) (hn : nw9 x ≤ 100000000) (hn' : nw9 y ≤ 100000000) (hy : 0 < y) :
    Calls Tryz.prog 140 #[.bool s, u, v] w (RefRet (sgn s (x / Nat.gcd x y)) (x / Nat.gcd x y) (y / Nat.gcd x y) w) := by
  have hg : 0 < Nat.gcd x y := Nat.gcd_pos_of_pos_right _ hy
  have hgn : nw9 (Nat.gcd x y) ≤ 100000000 := Nat.le_trans (nw_mono9 (Nat.le_of_dvd hy (Nat.gcd_dvd_right x y))) hn'
  have HG := Lib.hid (fun W (hW : Below w.heap.size w W) => r_common W u v x y (hu.below hW) (hv.below hW) hn hn')
  have HU := Lib.hid hu
  have HV := Lib.hid hv
  obtain ⟨A, c, rfl⟩ := hu.sl
  obtain ⟨A', c', rfl⟩ := hv.sl
  generalize Nat.gcd x y = g at *
  clear hu hv
  obtain ⟨W0, hW0, hB0, hz0, HK⟩ := zero_box w
  have HB0 := Lib.hid hB0
  go_enter Tryz.func140, Tryz.ntmps140
  go_wp2_with fail
  clear hW0 hB0
  refine (HG.out _ HB0.out).mono ?_
  rintro e w1 ⟨gv, rfl, hgv, hb1⟩
  have HGV := Lib.hid hgv
  have HB1 := Lib.hid hb1
  obtain ⟨A1, c1, rfl⟩ := hgv.sl
  clear hgv hb1 HG
  go_wp2_with fail
  refine (r_over w1 _ _ x g (HU.out.below (btr HB0.out HB1.out)) HGV.out hn hgn hg).mono ?_
  rintro e w2 ⟨n, r1, rfl, hn2, hr1, hb2⟩
  have HN2 := Lib.hid hn2
  have HB2 := Lib.hid (btr HB1.out hb2)
  have HGV2 := Lib.hid (HGV.out.below hb2)
  obtain ⟨A2, c2, rfl⟩ := hn2.sl
  obtain ⟨A3, c3, rfl⟩ := hr1.sl
  clear hn2 hr1 hb2
  go_wp2_with fail
  refine (r_over w2 _ _ y g (HV.out.below (btr HB0.out HB2.out)) HGV2.out hn' hgn hg).mono ?_
  rintro e w3 ⟨d, r2, rfl, hd2, hr2, hb3⟩
  have HD2 := Lib.hid hd2
  have HB3 := Lib.hid (btr HB2.out hb3)
  have HN3 := Lib.hid (HN2.out.below hb3)
  obtain ⟨A4, c4, rfl⟩ := hd2.sl
  obtain ⟨A5, c5, rfl⟩ := hr2.sl
  clear hd2 hr2 hb3
  have hz := nw_pos9 (x / g)
  have hdc : decide (0 < nw9 (x / g)) = decide (0 < x / g) := by rw [decide_eq_decide]; exact hz
  have HDC := Lib.hid hdc
  have hcell := HK.out w3 HB3.out
  clear hz hdc
  have HNF : Hid (∀ W', Below W0.heap.size W0 W' → Below w.heap.size w W') := fun W' h => btr HB0.out h
  have HCell := Lib.hid hcell
  have HSg : Hid (sgn false (x / g) = false) := rfl
  cases s
  · go_wp2_with (refine wpList_store_row 64 _ _ rfl rfl rfl w.heap.size 64 rfl [.bool false, .slice A2 (nw9 (x / g)) c2, .slice A4 (nw9 (y / g)) c4] rfl _ hcell rfl info_ref (ref_one _ _ _ _ _ _ _) ?_; intro wz hhz hgz hzz; have HGz := Lib.hid hgz; have HZz := Lib.hid hzz; clear hzz hgz hcell)
    have hno := ref_noint HCell.out
    exact bodyPost_ret (v := .agg #[.bool false, .slice A2 (nw9 (x / g)) c2, .slice A4 (nw9 (y / g)) c4]) (results_cell_row Tryz.results140 _ _ w.heap.size 64 _ (0, 0) _ rfl hhz Tryz.underlying64 rfl (by rw [info_ref]; rfl)) rfl
      ⟨_, rfl, ⟨_, _, rfl, HN3.out.apart hno HGz.out, HD2.out.apart hno HGz.out⟩, (HNF.out _ HB3.out).grown HGz.out (HNF.out _ HB3.out).size (fun j hj => by injection hj with hj; omega)⟩
  · have HSt : Hid (decide (0 < nw9 (x / g)) = sgn true (x / g)) := by show _ = (true && _); rw [Bool.true_and]; exact HDC.out
    go_wp2_with (refine wpList_store_row 64 _ _ rfl rfl rfl w.heap.size 64 rfl [.bool (decide (0 < nw9 (x / g))), .slice A2 (nw9 (x / g)) c2, .slice A4 (nw9 (y / g)) c4] rfl _ hcell rfl info_ref (ref_one _ _ _ _ _ _ _) ?_; intro wz hhz hgz hzz; have HGz := Lib.hid hgz; have HZz := Lib.hid hzz; clear hzz hgz hcell)
    have hno := ref_noint HCell.out
    exact bodyPost_ret (v := .agg #[.bool (decide (0 < nw9 (x / g))), .slice A2 (nw9 (x / g)) c2, .slice A4 (nw9 (y / g)) c4]) (results_cell_row Tryz.results140 _ _ w.heap.size 64 _ (0, 0) _ rfl hhz Tryz.underlying64 rfl (by rw [info_ref]; rfl)) rfl
      ⟨_, rfl, ⟨_, _, by rw [HSt.out], HN3.out.apart hno HGz.out, HD2.out.apart hno HGz.out⟩, (HNF.out _ HB3.out).grown HGz.out (HNF.out _ HB3.out).size (fun j hj => by injection hj with hj; omega)⟩

end Go.Proofs.YtnfncdalneifnaaGreatDoor
end

/- The reference's rational numbers: the string, the lengths, the sign, whether it is an integer. -/
section
namespace Go.Proofs.YtnfncdalneifnaaGreatDoor
open Go.RowKit Go.Deep

set_option maxHeartbeats 1000000 in
theorem r_one (w : World) : Calls Tryz.prog 68 #[.int .u64 1] w (Nat9 1 w) := r_natural w 1 (by decide)

/-- A number's box, as a call begins. -/
theorem ref_box (w : World) (s : Bool) (u v : Value) : ∃ W, w.alloc (.cells #[.bool s, u, v] 64) = W ∧ Below w.heap.size w W ∧ W.heap.size = w.heap.size + 1 ∧
    Hid (∀ W', Below W.heap.size W W' → W'.cell? ⟨w.heap.size, 0, none⟩ = some (.bool s) ∧ W'.cell? ⟨w.heap.size, 1, none⟩ = some u ∧ W'.cell? ⟨w.heap.size, 2, none⟩ = some v) := by
  refine ⟨_, rfl, (Below.refl _ _).alloc (Nat.le_refl _) _, by simp, fun W' hW => ?_⟩
  have hh := heap_alloc_new w (.cells #[.bool s, u, v] 64)
  have hl : w.heap.size < (w.alloc (.cells #[.bool s, u, v] 64)).heap.size := by simp
  refine ⟨(hW.cell (p := ⟨w.heap.size, 0, none⟩) hl).trans ?_, (hW.cell (p := ⟨w.heap.size, 1, none⟩) hl).trans ?_, (hW.cell (p := ⟨w.heap.size, 2, none⟩) hl).trans ?_⟩ <;> (rw [cell_of_row _ _ _ _ _ _ hh]; rfl)
theorem cmp_one (d : Nat) : (cmpN d 1 == 0) = isOneB d := by
  unfold isOneB
  by_cases h : d = 1
  · subst h; rw [cmpN_eq]; rfl
  · have e1 : (d == 1) = false := by simp [h]
    rw [e1, beq_eq_false_iff_ne]
    rcases Nat.lt_or_ge d 1 with h1 | h1
    · rw [cmpN_lt h1]; decide
    · rw [cmpN_gt (by omega)]; decide

set_option maxHeartbeats 2000000 in
theorem r_Sign (w : World) (r : Value) (s : Bool) (n d : Nat) (h : Ref w r s n d) :
    Calls Tryz.prog 139 #[r] w fun e w' => e = .returned (.int .i64 (signN s n)) ∧ Below w.heap.size w w' := by
  obtain ⟨u, v, rfl, hu, hv⟩ := h
  obtain ⟨A, c, rfl⟩ := hu.sl
  obtain ⟨A', c', rfl⟩ := hv.sl
  by_cases hz : n = 0
  · have HS : Hid (signN s n = 0) := by show _ = _; unfold signN; rw [if_pos hz]
    have hm : ((nw9 n : Int) == 0) = true := by rw [hz, nw_zero9]; rfl
    clear hz hu hv
    generalize nw9 n = m at *
    go_enter Tryz.func139, Tryz.ntmps139
    go_wp2
    go_ret
    exact ⟨by rw [HS.out]; rfl, (Below.refl _ _).alloc (Nat.le_refl _) _⟩
  · have hm : ((nw9 n : Int) == 0) = false := by rw [beq_eq_false_iff_ne]; have := nw_eq_zero9 n; omega
    have HS : Hid (signN s n = if s = true then -1 else 1) := by show _ = _; unfold signN; rw [if_neg hz]
    clear hz hu hv
    generalize nw9 n = m at *
    cases s
    · go_enter Tryz.func139, Tryz.ntmps139
      go_wp2
      go_ret
      exact ⟨by rw [HS.out]; rfl, (Below.refl _ _).alloc (Nat.le_refl _) _⟩
    · go_enter Tryz.func139, Tryz.ntmps139
      go_wp2
      go_ret
      exact ⟨by rw [HS.out]; rfl, (Below.refl _ _).alloc (Nat.le_refl _) _⟩

end Go.Proofs.YtnfncdalneifnaaGreatDoor
end

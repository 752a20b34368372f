/- Products of rational numbers of any size: what the call returns. -/
import Derived.Test.YtnfncdalneifnaaGreatDoorZAddG
namespace Go.Proofs.YtnfncdalneifnaaGreatDoor
open Go.RowKit Go.Deep

theorem three_below {w w' : World} {bx : Nat} {sx : Bool} {xn xd : Value} (hb : Below w.heap.size w w') (h1 : bx < w.heap.size)
    (h : w.cell? ⟨bx, 1, none⟩ = some (.bool sx) ∧ w.cell? ⟨bx, 2, none⟩ = some xn ∧ w.cell? ⟨bx, 3, none⟩ = some xd) :
    w'.cell? ⟨bx, 1, none⟩ = some (.bool sx) ∧ w'.cell? ⟨bx, 2, none⟩ = some xn ∧ w'.cell? ⟨bx, 3, none⟩ = some xd :=
  ⟨(hb.cell (p := ⟨bx, 1, none⟩) h1).trans h.1, (hb.cell (p := ⟨bx, 2, none⟩) h1).trans h.2.1, (hb.cell (p := ⟨bx, 3, none⟩) h1).trans h.2.2⟩

set_option maxRecDepth 100000 in
set_option maxHeartbeats 8000000 in
theorem g_multiplied (w : World) (x nv dv : Value) (s1 s2 : Bool) (n1 d1 n2 d2 : Nat) (hx : RatAt w x s1 n1 d1) (hnv : NatAt w nv n2) (hdv : NatAt w dv d2) (hd1 : 0 < d1) (hd2 : 0 < d2)
    (k1 : nw n1 ≤ 100000) (k2 : nw d1 ≤ 100000) (k3 : nw n2 ≤ 100000) (k4 : nw d2 ≤ 100000) :
    Calls Tryz.prog 172 #[x, .bool s2, nv, dv] w (RatRet w (sgn (s1 != s2) (n1 / Nat.gcd n1 d2 * (n2 / Nat.gcd n2 d1)))
      (n1 / Nat.gcd n1 d2 * (n2 / Nat.gcd n2 d1)) (d1 / Nat.gcd n2 d1 * (d2 / Nat.gcd n1 d2))) := by
  obtain ⟨bx, xn, xd, rfl, hbx, _, x1, x2, x3, hxn, hxd⟩ := hx
  have HXN := Lib.hid hxn
  have HXD := Lib.hid hxd
  have HNV := Lib.hid hnv
  have HDV := Lib.hid hdv
  have K0 := Lib.hid (And.intro x1 (And.intro x2 x3))
  have HG1 := Lib.hid (g_gcd w xn dv n1 d2 hxn hdv (by omega) (by omega))
  clear hxn hxd hnv hdv
  go_enter Tryz.func172, Tryz.ntmps172
  go_wp2_with fail
  refine HG1.out.mono ?_
  rintro e w1 ⟨ga, rfl, hga, hb1⟩
  obtain ⟨y1, y2, y3⟩ := three_below hb1 hbx K0.out
  have HG2 := Lib.hid (g_gcd w1 nv xd n2 d1 (HNV.out.below hb1) (HXD.out.below hb1) (by omega) (by omega))
  clear HG1 x1 x2 x3
  go_wp2_with fail
  refine HG2.out.mono ?_
  rintro e w2 ⟨gb, rfl, hgb, hb2⟩
  have BW : Below w.heap.size w w2 := btr hb1 hb2
  have ha0 : 0 < Nat.gcd n1 d2 := Nat.gcd_pos_of_pos_right _ hd2
  have hb0 : 0 < Nat.gcd n2 d1 := Nat.gcd_pos_of_pos_right _ hd1
  have q1 : nw (n1 / Nat.gcd n1 d2) ≤ 100000 := Nat.le_trans (nw_mono (Nat.div_le_self _ _)) k1
  have q2 : nw (n2 / Nat.gcd n2 d1) ≤ 100000 := Nat.le_trans (nw_mono (Nat.div_le_self _ _)) k3
  have q3 : nw (d1 / Nat.gcd n2 d1) ≤ 100000 := Nat.le_trans (nw_mono (Nat.div_le_self _ _)) k2
  have q4 : nw (d2 / Nat.gcd n1 d2) ≤ 100000 := Nat.le_trans (nw_mono (Nat.div_le_self _ _)) k4
  have KK : Hid (∀ W, Below w2.heap.size w2 W → W.cell? ⟨bx, 1, none⟩ = some (.bool s1) ∧ W.cell? ⟨bx, 2, none⟩ = some xn ∧ W.cell? ⟨bx, 3, none⟩ = some xd) := fun W hW => three_below (btr BW hW) hbx K0.out
  have HB1 : Hid (∀ W, Below w2.heap.size w2 W → Calls Tryz.prog 92 #[xn, ga] W (NatRet W (n1 / Nat.gcd n1 d2))) := fun W hW => g_by W xn ga n1 _ (HXN.out.below (btr BW hW)) ((hga.below hb2).below hW) (by omega) ha0
  have HB2 : Hid (∀ W, Below w2.heap.size w2 W → Calls Tryz.prog 92 #[nv, gb] W (NatRet W (n2 / Nat.gcd n2 d1))) := fun W hW => g_by W nv gb n2 _ (HNV.out.below (btr BW hW)) (hgb.below hW) (by omega) hb0
  have HB3 : Hid (∀ W, Below w2.heap.size w2 W → Calls Tryz.prog 92 #[xd, gb] W (NatRet W (d1 / Nat.gcd n2 d1))) := fun W hW => g_by W xd gb d1 _ (HXD.out.below (btr BW hW)) (hgb.below hW) (by omega) hb0
  have HB4 : Hid (∀ W, Below w2.heap.size w2 W → Calls Tryz.prog 92 #[dv, ga] W (NatRet W (d2 / Nat.gcd n1 d2))) := fun W hW => g_by W dv ga d2 _ (HDV.out.below (btr BW hW)) ((hga.below hb2).below hW) (by omega) ha0
  have BC : Below w2.heap.size w2 w2.drew := Below.drew (Below.refl _ _)
  have HT1 : Hid (∀ W u v, NatAt W u (n1 / Nat.gcd n1 d2) → NatAt W v (n2 / Nat.gcd n2 d1) → Calls Tryz.prog 94 #[u, v] W (NatRet W (n1 / Nat.gcd n1 d2 * (n2 / Nat.gcd n2 d1)))) := fun W u v hu hv => n_times W u v _ _ hu hv (by omega) (by omega)
  have HT2 : Hid (∀ W u v, NatAt W u (d1 / Nat.gcd n2 d1) → NatAt W v (d2 / Nat.gcd n1 d2) → Calls Tryz.prog 94 #[u, v] W (NatRet W (d1 / Nat.gcd n2 d1 * (d2 / Nat.gcd n1 d2)))) := fun W u v hu hv => n_times W u v _ _ hu hv (by omega) (by omega)
  generalize n1 / Nat.gcd n1 d2 = N1 at *
  generalize n2 / Nat.gcd n2 d1 = N2 at *
  generalize d1 / Nat.gcd n2 d1 = D1 at *
  generalize d2 / Nat.gcd n1 d2 = D2 at *
  clear hga hgb HG2 HXN HXD HNV HDV y1 y2 y3 hb1 hb2 k1 k2 k3 k4 q1 q2 q3 q4 K0 ha0 hb0 hd1 hd2 hbx
  have hbr : (s1 != s2) = (s1 != s2) := rfl
  go_wp2_with fail
  go_region_held3 (fun w' => w'.cell? ⟨bx, 1, none⟩ = some (.bool s1) ∧ w'.cell? ⟨bx, 2, none⟩ = some xn ∧ w'.cell? ⟨bx, 3, none⟩ = some xd)
    (first | exact KK.out _ BC | exact KK.out _ (Below.refl _ _)) (first
      | (go_at_call_of 92 xn; refine (HB1.out _ BC).mono ?_; rintro e wA ⟨qa, rfl, hqa, hbb⟩; replace BC := btr BC hbb; (try replace hqb := hqb.below hbb); (try replace hqc := hqc.below hbb); (try replace hqd := hqd.below hbb); (try replace ht2 := ht2.below hbb))
      | (go_at_call_of 92 nv; refine (HB2.out _ BC).mono ?_; rintro e wA ⟨qb, rfl, hqb, hbb⟩; replace BC := btr BC hbb; (try replace hqa := hqa.below hbb); (try replace hqc := hqc.below hbb); (try replace hqd := hqd.below hbb); (try replace ht2 := ht2.below hbb))
      | (go_at_call_of 92 xd; refine (HB3.out _ BC).mono ?_; rintro e wA ⟨qc, rfl, hqc, hbb⟩; replace BC := btr BC hbb; (try replace hqa := hqa.below hbb); (try replace hqb := hqb.below hbb); (try replace hqd := hqd.below hbb); (try replace ht1 := ht1.below hbb))
      | (go_at_call_of 92 dv; refine (HB4.out _ BC).mono ?_; rintro e wA ⟨qd, rfl, hqd, hbb⟩; replace BC := btr BC hbb; (try replace hqa := hqa.below hbb); (try replace hqb := hqb.below hbb); (try replace hqc := hqc.below hbb); (try replace ht1 := ht1.below hbb))
      | (go_at_call_of 94 qa; refine (HT1.out _ qa qb hqa hqb).mono ?_; rintro e wA ⟨t1, rfl, ht1, hbb⟩; replace BC := btr BC hbb; (try replace hqc := hqc.below hbb); (try replace hqd := hqd.below hbb); (try replace ht2 := ht2.below hbb))
      | (go_at_call_of 94 qc; refine (HT2.out _ qc qd hqc hqd).mono ?_; rintro e wA ⟨t2, rfl, ht2, hbb⟩; replace BC := btr BC hbb; (try replace hqa := hqa.below hbb); (try replace hqb := hqb.below hbb); (try replace ht1 := ht1.below hbb))
      | (go_at_call 40; refine (c_made _ t1 t2 (s1 != s2) _ _ ht1 ht2).mono ?_; rintro e wA ⟨r, rfl, hr, hbb⟩; replace BC := btr BC hbb))
  all_goals
    go_wp2
    go_ret
    exact ⟨r, rfl, hr, btr BW BC⟩
end Go.Proofs.YtnfncdalneifnaaGreatDoor

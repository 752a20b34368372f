/- Sums of rational numbers of any size: what the call returns. -/
import Derived.Test.YtnfncdalneifnaaGreatDoorZAdd
import Derived.Test.YtnfncdalneifnaaGreatDoorZGcd3
namespace Go.Proofs.YtnfncdalneifnaaGreatDoor
open Go.RowKit Go.Deep

set_option maxHeartbeats 4000000 in
theorem g_added (w : World) (x y : Value) (s1 s2 s3 : Bool) (n1 d1 n2 d2 : Nat) (hx : RatAt w x s1 n1 d1) (hy : RatAt w y s3 n2 d2) (hd1 : 0 < d1)
    (k1 : nw n1 ≤ 100000) (k2 : nw d1 ≤ 100000) (k3 : nw n2 ≤ 100000) (k4 : nw d2 ≤ 100000) :
    Calls Tryz.prog 47 #[x, y, .bool s2] w (RatRet w (sgn (addSgn s1 n1 d1 s2 n2 d2) (addNum s1 n1 d1 s2 n2 d2 / Nat.gcd (addNum s1 n1 d1 s2 n2 d2) (Nat.gcd d1 d2)))
      (addNum s1 n1 d1 s2 n2 d2 / Nat.gcd (addNum s1 n1 d1 s2 n2 d2) (Nat.gcd d1 d2)) (d1 / Nat.gcd d1 d2 * (d2 / Nat.gcd (addNum s1 n1 d1 s2 n2 d2) (Nat.gcd d1 d2)))) := by
  obtain ⟨bx, xn, xd, rfl, hbx, _, x1, x2, x3, hxn, hxd⟩ := hx
  obtain ⟨b2, yn, yd, rfl, hby, _, y1, y2, y3, hyn, hyd⟩ := hy
  have K0 := Lib.hid (And.intro x1 (And.intro x2 (And.intro x3 (And.intro y1 (And.intro y2 y3)))))
  have HXN := Lib.hid hxn
  have HXD := Lib.hid hxd
  have HYN := Lib.hid hyn
  have HYD := Lib.hid hyd
  clear hxn hxd hyn hyd
  go_enter Tryz.func47, Tryz.ntmps47
  go_wp2_with fail
  go_region_held3 (fun w' => w'.cell? ⟨bx, 1, none⟩ = some (.bool s1) ∧ w'.cell? ⟨bx, 2, none⟩ = some xn ∧ w'.cell? ⟨bx, 3, none⟩ = some xd ∧ w'.cell? ⟨b2, 1, none⟩ = some (.bool s3) ∧ w'.cell? ⟨b2, 2, none⟩ = some yn ∧ w'.cell? ⟨b2, 3, none⟩ = some yd)
    (first | exact K0.out | exact K1.out) (first | (go_at_call 91; refine (g_gcd _ xd yd d1 d2 (by exact HXD.out) (by exact HYD.out) (by omega) (by omega)).mono ?_; rintro e w1 ⟨sh, rfl, hsh, hb1⟩; have K1 := Lib.hid (six_below hb1 hbx hby K0.out)))
  have HB1 : Below w.heap.size w w1 := btr (Below.drew (Below.refl _ _)) hb1
  have hgp : 0 < Nat.gcd d1 d2 := Nat.gcd_pos_of_pos_left _ hd1
  have K : Hid (∀ W, Below w1.heap.size w1 W → W.cell? ⟨bx, 1, none⟩ = some (.bool s1) ∧ W.cell? ⟨bx, 2, none⟩ = some xn ∧ W.cell? ⟨bx, 3, none⟩ = some xd ∧ W.cell? ⟨b2, 1, none⟩ = some (.bool s3) ∧ W.cell? ⟨b2, 2, none⟩ = some yn ∧ W.cell? ⟨b2, 3, none⟩ = some yd) := fun W hW => six_below (btr HB1 hW) hbx hby K0.out
  have HX : Hid (∀ W, Below w1.heap.size w1 W → Calls Tryz.prog 92 #[xd, sh] W (NatRet W (d1 / Nat.gcd d1 d2))) := fun W hW => g_by W xd sh d1 (Nat.gcd d1 d2) ((HXD.out.below HB1).below hW) (hsh.below hW) (by omega) hgp
  have HY : Hid (∀ W, Below w1.heap.size w1 W → Calls Tryz.prog 92 #[yd, sh] W (NatRet W (d2 / Nat.gcd d1 d2))) := fun W hW => g_by W yd sh d2 (Nat.gcd d1 d2) ((HYD.out.below HB1).below hW) (hsh.below hW) (by omega) hgp
  have B0 : Below w1.heap.size w1 w1.drew := Below.drew (Below.refl _ _)
  have HG := Lib.hid hsh
  clear hsh hb1 x1 x2 x3 y1 y2 y3 K1
  go_upto_region 2 with fail
  go_cut [8, 9] (fun s8 s9 wx => ∃ xr yr, xr = s8 ∧ yr = s9 ∧ NatAt wx xr (d1 / Nat.gcd d1 d2) ∧ NatAt wx yr (d2 / Nat.gcd d1 d2) ∧ Below w1.heap.size w1 wx)
  case first =>
    go_region_held3 (fun w' => w'.cell? ⟨bx, 1, none⟩ = some (.bool s1) ∧ w'.cell? ⟨bx, 2, none⟩ = some xn ∧ w'.cell? ⟨bx, 3, none⟩ = some xd ∧ w'.cell? ⟨b2, 1, none⟩ = some (.bool s3) ∧ w'.cell? ⟨b2, 2, none⟩ = some yn ∧ w'.cell? ⟨b2, 3, none⟩ = some yd)
      (first | exact K.out _ BY | exact K.out _ BX | exact K.out _ B0 | exact K.out _ (Below.refl _ _)) (first
        | (go_at_call_of 92 xd; refine (HX.out _ (by first | exact BY | exact B0)).mono ?_; rintro e w2 ⟨xr, rfl, hxr, hbX⟩; have BX : Below w1.heap.size w1 w2 := (by first | exact btr BY hbX | exact btr B0 hbX))
        | (go_at_call_of 92 yd; refine (HY.out _ (by first | exact BX | exact B0)).mono ?_; rintro e w3 ⟨yr, rfl, hyr, hbY⟩; have BY : Below w1.heap.size w1 w3 := (by first | exact btr BX hbY | exact btr B0 hbY)))
    all_goals
      go_wp2_with fail
      go_meet
      first
        | exact ⟨_, _, rfl, rfl, hxr.below hbY, hyr, BY⟩
        | exact ⟨_, _, rfl, rfl, hxr, hyr.below hbX, BX⟩
  case rest =>
    obtain ⟨xr, yr, rfl, rfl, hxr, hyr, hbc⟩ := hcut
    obtain ⟨wb, rfl⟩ : ∃ wb : World, wb = wc := ⟨_, rfl⟩
    have HBC : Below w.heap.size w wb := btr HB1 hbc
    have q1 : nw (d1 / Nat.gcd d1 d2) ≤ 100000 := Nat.le_trans (nw_mono (Nat.div_le_self _ _)) k2
    have q2 : nw (d2 / Nat.gcd d1 d2) ≤ 100000 := Nat.le_trans (nw_mono (Nat.div_le_self _ _)) k4
    have q3 := nw_mul n1 (d2 / Nat.gcd d1 d2)
    have q4 := nw_mul n2 (d1 / Nat.gcd d1 d2)
    have KC : Hid (∀ W, Below wb.heap.size wb W → W.cell? ⟨bx, 1, none⟩ = some (.bool s1) ∧ W.cell? ⟨bx, 2, none⟩ = some xn ∧ W.cell? ⟨bx, 3, none⟩ = some xd ∧ W.cell? ⟨b2, 1, none⟩ = some (.bool s3) ∧ W.cell? ⟨b2, 2, none⟩ = some yn ∧ W.cell? ⟨b2, 3, none⟩ = some yd) := fun W hW => K.out W (btr hbc hW)
    have HT1 : Hid (∀ W, Below wb.heap.size wb W → Calls Tryz.prog 94 #[xn, yr] W (NatRet W (n1 * (d2 / Nat.gcd d1 d2)))) := fun W hW => n_times W xn yr n1 _ ((HXN.out.below HBC).below hW) (hyr.below hW) (by omega) (by omega)
    have HT2 : Hid (∀ W, Below wb.heap.size wb W → Calls Tryz.prog 94 #[yn, xr] W (NatRet W (n2 * (d1 / Nat.gcd d1 d2)))) := fun W hW => n_times W yn xr n2 _ ((HYN.out.below HBC).below hW) (hxr.below hW) (by omega) (by omega)
    have HS : Hid (∀ W a b, NatAt W a (n1 * (d2 / Nat.gcd d1 d2)) → NatAt W b (n2 * (d1 / Nat.gcd d1 d2)) → Calls Tryz.prog 93 #[.bool s1, a, .bool s2, b] W fun e w' => ∃ u, e = .returned (.tuple #[.bool (addSgn s1 n1 d1 s2 n2 d2), u]) ∧ NatAt w' u (addNum s1 n1 d1 s2 n2 d2) ∧ Below W.heap.size W w') := fun W a b ha hb => n_signedSum W s1 s2 a b _ _ ha hb (by omega) (by omega)
    have B0c : Below wb.heap.size wb wb.drew := Below.drew (Below.refl _ _)
    have HXR := Lib.hid hxr
    have HYR := Lib.hid hyr
    clear hxr hyr q3 q4 B0 HX HY
    go_upto_region 3 with fail
    go_cut [2, 10] (fun s2' s10 wx => ∃ nu, s2' = .bool (addSgn s1 n1 d1 s2 n2 d2) ∧ nu = s10 ∧ NatAt wx nu (addNum s1 n1 d1 s2 n2 d2) ∧ Below wb.heap.size wb wx)
    case first =>
      go_region_held3 (fun w' => w'.cell? ⟨bx, 1, none⟩ = some (.bool s1) ∧ w'.cell? ⟨bx, 2, none⟩ = some xn ∧ w'.cell? ⟨bx, 3, none⟩ = some xd ∧ w'.cell? ⟨b2, 1, none⟩ = some (.bool s3) ∧ w'.cell? ⟨b2, 2, none⟩ = some yn ∧ w'.cell? ⟨b2, 3, none⟩ = some yd)
        (first | exact KC.out _ BZ | exact KC.out _ BY | exact KC.out _ BX | exact KC.out _ B0c | exact KC.out _ (Below.refl _ _)) (first
          | (go_at_call_of 94 xn; refine (HT1.out _ (by first | exact BY | exact B0c)).mono ?_; rintro e w2 ⟨ta, rfl, hta, hbX⟩; have BX : Below wb.heap.size wb w2 := (by first | exact btr BY hbX | exact btr B0c hbX))
          | (go_at_call_of 94 yn; refine (HT2.out _ (by first | exact BX | exact B0c)).mono ?_; rintro e w3 ⟨tb, rfl, htb, hbY⟩; have BY : Below wb.heap.size wb w3 := (by first | exact btr BX hbY | exact btr B0c hbY))
          | (go_at_call 93; refine (HS.out _ ta tb (by first | exact hta.below hbY | exact hta) (by first | exact htb.below hbX | exact htb)).mono ?_; rintro e w4 ⟨u, rfl, hu, hbZ⟩; have BZ : Below wb.heap.size wb w4 := (by first | exact btr BY hbZ | exact btr BX hbZ)))
      all_goals
        go_wp2_with fail
        go_meet
        exact ⟨_, rfl, rfl, hu, BZ⟩
    case rest =>
      obtain ⟨nu, rfl, rfl, hnum, hbd⟩ := hcut
      have HBD : Below w.heap.size w wc := btr HBC hbd
      have hN : nw (addNum s1 n1 d1 s2 n2 d2) ≤ 1000000 := by
        have a1 := nw_mul n1 (d2 / Nat.gcd d1 d2)
        have a2 := nw_mul n2 (d1 / Nat.gcd d1 d2)
        have a3 := nw_mono (sumN_le s1 s2 (n1 * (d2 / Nat.gcd d1 d2)) (n2 * (d1 / Nat.gcd d1 d2)))
        have a4 := nw_add (n1 * (d2 / Nat.gcd d1 d2)) (n2 * (d1 / Nat.gcd d1 d2))
        unfold addNum
        omega
      have hgd : nw (Nat.gcd d1 d2) ≤ 100000 := Nat.le_trans (nw_mono (Nat.gcd_le_left _ hd1)) k2
      have HGC := Lib.hid (g_gcd wc nu sh (addNum s1 n1 d1 s2 n2 d2) (Nat.gcd d1 d2) hnum ((HG.out.below hbc).below hbd) (by omega) (by omega))
      have hcp : 0 < Nat.gcd (addNum s1 n1 d1 s2 n2 d2) (Nat.gcd d1 d2) := Nat.gcd_pos_of_pos_right _ hgp
      have HNU := Lib.hid hnum
      clear hnum HT1 HT2 HS B0c
      generalize addNum s1 n1 d1 s2 n2 d2 = N at *
      generalize addSgn s1 n1 d1 s2 n2 d2 = sg at *
      go_wp2_with fail
      refine HGC.out.mono ?_
      rintro e we ⟨cm, rfl, hcm, hbe⟩
      have HBE : Below w.heap.size w we := btr HBD hbe
      have hqd : nw (d2 / Nat.gcd N (Nat.gcd d1 d2)) ≤ 100000 := Nat.le_trans (nw_mono (Nat.div_le_self _ _)) k4
      have KE : Hid (∀ W, Below we.heap.size we W → W.cell? ⟨bx, 1, none⟩ = some (.bool s1) ∧ W.cell? ⟨bx, 2, none⟩ = some xn ∧ W.cell? ⟨bx, 3, none⟩ = some xd ∧ W.cell? ⟨b2, 1, none⟩ = some (.bool s3) ∧ W.cell? ⟨b2, 2, none⟩ = some yn ∧ W.cell? ⟨b2, 3, none⟩ = some yd) := fun W hW => KC.out W (btr (btr hbd hbe) hW)
      have HQ1 : Hid (∀ W, Below we.heap.size we W → Calls Tryz.prog 92 #[nu, cm] W (NatRet W (N / Nat.gcd N (Nat.gcd d1 d2)))) := fun W hW => g_by W nu cm N _ ((HNU.out.below hbe).below hW) (hcm.below hW) (by omega) hcp
      have HQ2 : Hid (∀ W, Below we.heap.size we W → Calls Tryz.prog 92 #[yd, cm] W (NatRet W (d2 / Nat.gcd N (Nat.gcd d1 d2)))) := fun W hW => g_by W yd cm d2 _ ((HYD.out.below HBE).below hW) (hcm.below hW) (by omega) hcp
      have HTT : Hid (∀ W z, Below we.heap.size we W → NatAt W z (d2 / Nat.gcd N (Nat.gcd d1 d2)) → Calls Tryz.prog 94 #[xr, z] W (NatRet W (d1 / Nat.gcd d1 d2 * (d2 / Nat.gcd N (Nat.gcd d1 d2))))) := fun W z hW hz => n_times W xr z _ _ (((HXR.out.below hbd).below hbe).below hW) hz (by omega) (by omega)
      have B0e : Below we.heap.size we we.drew := Below.drew (Below.refl _ _)
      clear HGC hcm HXN HXD HYN HYD HXR HYR HNU KC K
      go_wp2_with fail
      go_region_held3 (fun w' => w'.cell? ⟨bx, 1, none⟩ = some (.bool s1) ∧ w'.cell? ⟨bx, 2, none⟩ = some xn ∧ w'.cell? ⟨bx, 3, none⟩ = some xd ∧ w'.cell? ⟨b2, 1, none⟩ = some (.bool s3) ∧ w'.cell? ⟨b2, 2, none⟩ = some yn ∧ w'.cell? ⟨b2, 3, none⟩ = some yd)
        (first | exact KE.out _ BM | exact KE.out _ BT | exact KE.out _ BA | exact KE.out _ BB | exact KE.out _ B0e | exact KE.out _ (Below.refl _ _)) (first
          | (go_at_call_of 92 nu; refine (HQ1.out _ (by first | exact BT | exact BB | exact B0e)).mono ?_; rintro e wA ⟨qa, rfl, hqa, hbA⟩; have BA : Below we.heap.size we wA := (by first | exact btr BT hbA | exact btr BB hbA | exact btr B0e hbA))
          | (go_at_call_of 92 yd; refine (HQ2.out _ (by first | exact BA | exact B0e)).mono ?_; rintro e wB ⟨qb, rfl, hqb, hbB⟩; have BB : Below we.heap.size we wB := (by first | exact btr BA hbB | exact btr B0e hbB))
          | (go_at_call_of 94 xr; refine (HTT.out _ qb (by first | exact BA | exact BB) (by first | exact hqb.below hbA | exact hqb)).mono ?_; rintro e wT ⟨pr, rfl, hpr, hbT⟩; have BT : Below we.heap.size we wT := (by first | exact btr BA hbT | exact btr BB hbT))
          | (go_at_call 40; refine (c_made _ qa pr sg _ _ (by first | exact (hqa.below hbB).below hbT | exact hqa.below hbT | exact hqa) (by first | exact hpr.below hbA | exact hpr)).mono ?_; rintro e wM ⟨r, rfl, hr, hbM⟩; have BM : Below we.heap.size we wM := (by first | exact btr BT hbM | exact btr BA hbM)))
      all_goals
        go_wp2
        go_ret
        exact ⟨r, rfl, hr, btr HBE BM⟩
end Go.Proofs.YtnfncdalneifnaaGreatDoor

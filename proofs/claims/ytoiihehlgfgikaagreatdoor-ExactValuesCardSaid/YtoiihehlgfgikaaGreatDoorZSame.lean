/- The driver's comparison of a number with the document's own: what the call returns where both are the same number. -/
import Derived.Test.YtoiihehlgfgikaaGreatDoorZRefC9
import Derived.Test.YtoiihehlgfgikaaGreatDoorZFlGA
import Derived.Test.YtoiihehlgfgikaaGreatDoorZRatV
namespace Go.Proofs.YtoiihehlgfgikaaGreatDoor
open Go.RowKit Go.Deep

/-- How many digits of the reference a number has at most. -/
def RefW (q : Rat) (k : Nat) : Prop := nw9 q.num.natAbs ≤ k ∧ nw9 q.den ≤ k
theorem floor_natAbs_le (q : Rat) : floorN (decide (q.num < 0)) q.num.natAbs q.den ≤ q.num.natAbs + 1 := by
  unfold floorN
  have := Nat.div_le_self q.num.natAbs q.den
  split <;> omega

set_option maxRecDepth 100000 in
set_option maxHeartbeats 4000000 in
theorem l_same (w : World) (x r : Value) (q : Rat) (hx : RatV w x q) (hr : RefV w r q) (k : RatW q 90000) (k9 : RefW q 90000) (htab : Tab w)
    (HB : ∀ W, Below w.heap.size w W → Calls Tryz.prog 31 #[x] W fun e w' => e = .returned (.tuple #[.int .i64 (halves q.num.natAbs : Int), .int .i64 (halves q.den : Int)]) ∧ Below W.heap.size W w') :
    Calls Tryz.prog 9 #[x, r] w fun e w' => e = .returned (.bool true) ∧ Below w.heap.size w w' := by
  have hq0 : 0 < q.den := q.den_pos
  have HTx : Hid (∀ W, Below w.heap.size w W → Calls Tryz.prog 28 #[x] W fun e w' => e = .returned (.string ⟨(txt q).toArray⟩) ∧ Below W.heap.size W w') :=
    fun W hW => v_Text W x q (hx.below hW) (k.mono (by omega)) (htab.below hW)
  have HTr : Hid (∀ W, Below w.heap.size w W → Calls Tryz.prog 41 #[r] W fun e w' => e = .returned (.string ⟨(txt q).toArray⟩) ∧ Below W.heap.size W w') :=
    fun W hW => r_Text W r _ _ _ (hr.below hW) (Nat.le_trans k9.1 (by omega)) (Nat.le_trans k9.2 (by omega))
  have HBx := Lib.hid HB
  have HBr : Hid (∀ W, Below w.heap.size w W → Calls Tryz.prog 42 #[r] W fun e w' => e = .returned (.tuple #[.int .i64 (halves q.num.natAbs : Int), .int .i64 (halves q.den : Int)]) ∧ Below W.heap.size W w') :=
    fun W hW => r_Bits W r _ _ _ (hr.below hW) (Nat.le_trans k9.1 (by omega)) (Nat.le_trans k9.2 (by omega))
  have HSx : Hid (∀ W, Below w.heap.size w W → Calls Tryz.prog 32 #[x] W fun e w' => e = .returned (.int .i64 (signN (decide (q.num < 0)) q.num.natAbs)) ∧ W = w') :=
    fun W hW => c_Sign W x _ _ _ (hx.below hW)
  have HSr : Hid (∀ W, Below w.heap.size w W → Calls Tryz.prog 43 #[r] W fun e w' => e = .returned (.int .i64 (signN (decide (q.num < 0)) q.num.natAbs)) ∧ Below W.heap.size W w') :=
    fun W hW => r_Sign W r _ _ _ (hr.below hW)
  have HWx : Hid (∀ W, Below w.heap.size w W → Calls Tryz.prog 33 #[x] W fun e w' => e = .returned (.bool (isOneB q.den)) ∧ W = w') :=
    fun W hW => c_Whole W x _ _ _ (hx.below hW)
  have HWr : Hid (∀ W, Below w.heap.size w W → Calls Tryz.prog 44 #[r] W fun e w' => e = .returned (.bool (isOneB q.den)) ∧ Below W.heap.size W w') :=
    fun W hW => r_Whole W r _ _ _ (hr.below hW)
  have HFx : Hid (∀ W, Below w.heap.size w W → Calls Tryz.prog 29 #[x] W (RatVRet W ((q.floor : Int) : Rat))) :=
    fun W hW => v_Floor W x q (hx.below hW) (k.mono (by omega))
  obtain ⟨e1, e2, e3⟩ := floor_parts q
  have HFr : Hid (∀ W, Below w.heap.size w W → Calls Tryz.prog 45 #[r] W fun e w' => ∃ u, e = .returned u ∧ RefV w' u ((q.floor : Int) : Rat) ∧ Below W.heap.size W w') := fun W hW => by
    refine (r_Floor W r _ _ _ (hr.below hW) (Nat.le_trans k9.1 (by omega)) (Nat.le_trans k9.2 (by omega)) hq0).mono ?_
    rintro e w' ⟨u, rfl, hu, hb⟩
    refine ⟨u, rfl, ?_, hb⟩
    unfold RefV
    rw [e1, e2] at hu
    rw [← e3]
    exact hu
  have kf := ratW_floor k
  have kf9 : RefW ((q.floor : Int) : Rat) 90001 := by
    constructor
    · rw [← e2]
      have h1 := nw_mono9 (floor_natAbs_le q)
      have h2 := nw_add9 q.num.natAbs 1 90000 k9.1 (by rw [nw_one9 1 (by omega) (by decide)]; omega)
      exact Nat.le_trans h1 h2
    · rw [← e3, nw_one9 1 (by omega) (by decide)]; omega
  have HFt : Hid (∀ W u, Below w.heap.size w W → RatV W u ((q.floor : Int) : Rat) → Calls Tryz.prog 28 #[u] W fun e w' => e = .returned (.string ⟨(txt ((q.floor : Int) : Rat)).toArray⟩) ∧ Below W.heap.size W w') :=
    fun W u hW hu => v_Text W u _ hu (kf.mono (by omega)) (htab.below hW)
  have HFu : Hid (∀ W u, Below w.heap.size w W → RefV W u ((q.floor : Int) : Rat) → Calls Tryz.prog 41 #[u] W fun e w' => e = .returned (.string ⟨(txt ((q.floor : Int) : Rat)).toArray⟩) ∧ Below W.heap.size W w') :=
    fun W u _ hu => r_Text W u _ _ _ hu (Nat.le_trans kf9.1 (by omega)) (Nat.le_trans kf9.2 (by omega))
  have HVx : Hid (∀ W, Below w.heap.size w W → Calls Tryz.prog 46 #[x] W fun e w' => e = .returned (V (valK q) (valN q) (valD q) noS) ∧ Below W.heap.size W w') :=
    fun W hW => v_Value W x q (hx.below hW)
  have HVr : Hid (∀ W, Below w.heap.size w W → Calls Tryz.prog 47 #[r] W fun e w' => e = .returned (V (valK q) (valN q) (valD q) noS) ∧ Below W.heap.size W w') :=
    fun W hW => r_Value W r q (hr.below hW)
  obtain ⟨px, rfl⟩ : ∃ b, x = .pointer (some ⟨b, 0, none⟩) := by
    obtain ⟨b, nv, dv, e, _⟩ := hx
    exact ⟨b, e⟩
  obtain ⟨ru, rv, rfl, hru, hrv⟩ := hr
  obtain ⟨A, c, rfl⟩ := hru.sl
  obtain ⟨A', c', rfl⟩ := hrv.sl
  clear hru hrv hx kf kf9 e1 e2 e3 k k9 htab HB hq0
  generalize decide (q.num < 0) = s at *
  generalize (⟨(txt q).toArray⟩ : ByteArray) = T at *
  generalize (⟨(txt ((q.floor : Int) : Rat)).toArray⟩ : ByteArray) = TF at *
  generalize signN s q.num.natAbs = sg at *
  generalize halves q.num.natAbs = ln at *
  generalize halves q.den = ld at *
  generalize isOneB q.den = wh at *
  generalize valK q = vk at *
  generalize valN q = vn at *
  generalize valD q = vd at *
  generalize q.num.natAbs = n at *
  generalize q.den = d at *
  generalize nw9 n = m at *
  generalize nw9 d = m' at *
  obtain ⟨W0, hW0, hB0, hz0, K⟩ := ref_box w s (.slice A m c) (.slice A' m' c')
  have HB0 := Lib.hid hB0
  clear hB0
  go_enter Tryz.func9, Tryz.ntmps9
  go_wp2_with fail
  have B0d : Below W0.heap.size W0 W0.drew := Below.drew (Below.refl _ _)
  go_region_held3 (fun w' => w'.cell? ⟨w.heap.size, 0, none⟩ = some (.bool s) ∧ w'.cell? ⟨w.heap.size, 1, none⟩ = some (.slice A m c) ∧ w'.cell? ⟨w.heap.size, 2, none⟩ = some (.slice A' m' c'))
    (first | exact K.out _ B2 | exact K.out _ B1 | exact K.out _ B0d | exact K.out _ (Below.refl _ _))
    (first
      | (go_at_call 28; refine (HTx.out _ (btr HB0.out B0d)).mono ?_; rintro e w1 ⟨rfl, hb1⟩; have B1 : Below W0.heap.size W0 w1 := btr B0d hb1)
      | (go_at_call 41; refine (HTr.out _ (btr HB0.out B1)).mono ?_; rintro e w2 ⟨rfl, hb2⟩; have B2 : Below W0.heap.size W0 w2 := btr B1 hb2))
  all_goals
    have HB2 := Lib.hid B2
    clear hb1 B1 hb2 B2
    go_wp2_with fail
    refine (HBx.out _ (btr HB0.out HB2.out)).mono ?_
    rintro e w3 ⟨rfl, hb3⟩
    have HB3 := Lib.hid (btr HB2.out hb3)
    obtain ⟨k30, k31, k32⟩ := K.out _ HB3.out
    clear hb3
    go_wp2_with fail
    refine (HBr.out _ (btr HB0.out HB3.out)).mono ?_
    rintro e w4 ⟨rfl, hb4⟩
    have HB4 := Lib.hid (btr HB3.out hb4)
    clear hb4 k30 k31 k32
    go_wp2_with fail
    have B4d : Below w4.heap.size w4 w4.drew := Below.drew (Below.refl _ _)
    have HM : Hid (∀ W, Below w4.heap.size w4 W → Below w.heap.size w W) := fun W h => btr HB0.out (btr HB4.out h)
    have HKM : Hid (∀ W, Below w4.heap.size w4 W → W.cell? ⟨w.heap.size, 0, none⟩ = some (.bool s) ∧ W.cell? ⟨w.heap.size, 1, none⟩ = some (.slice A m c) ∧ W.cell? ⟨w.heap.size, 2, none⟩ = some (.slice A' m' c')) := fun W h => K.out W (btr HB4.out h)
    go_region_held3 (fun w' => w'.cell? ⟨w.heap.size, 0, none⟩ = some (.bool s) ∧ w'.cell? ⟨w.heap.size, 1, none⟩ = some (.slice A m c) ∧ w'.cell? ⟨w.heap.size, 2, none⟩ = some (.slice A' m' c'))
      (first | exact HKM.out _ C8 | exact HKM.out _ C7 | exact HKM.out _ C6 | exact HKM.out _ C5 | exact HKM.out _ C4 | exact HKM.out _ C3 | exact HKM.out _ C2 | exact HKM.out _ C1 | exact HKM.out _ B4d | exact HKM.out _ (Below.refl _ _))
      (first
        | (go_at_call 32; refine (HSx.out _ (HM.out _ B4d)).mono ?_; rintro e w5 ⟨rfl, rfl⟩)
        | (go_at_call 43; refine (HSr.out _ (HM.out _ B4d)).mono ?_; rintro e w6 ⟨rfl, hb6⟩; have C1 : Below w4.heap.size w4 w6 := btr B4d hb6)
        | (go_at_call 33; refine (HWx.out _ (HM.out _ C1)).mono ?_; rintro e w7 ⟨rfl, rfl⟩)
        | (go_at_call 44; refine (HWr.out _ (HM.out _ C1)).mono ?_; rintro e w8 ⟨rfl, hb8⟩; have C2 : Below w4.heap.size w4 w8 := btr C1 hb8)
        | (go_at_call 29; refine (HFx.out _ (HM.out _ C2)).mono ?_; rintro e w9 ⟨fx, rfl, hfx, hb9⟩; have C3 : Below w4.heap.size w4 w9 := btr C2 hb9)
        | (go_at_call 28; refine (HFt.out _ fx (HM.out _ C3) hfx).mono ?_; rintro e w10 ⟨rfl, hb10⟩; have C4 : Below w4.heap.size w4 w10 := btr C3 hb10)
        | (go_at_call 45; refine (HFr.out _ (HM.out _ C4)).mono ?_; rintro e w11 ⟨fr, rfl, hfr, hb11⟩; have C5 : Below w4.heap.size w4 w11 := btr C4 hb11)
        | (go_at_call 41; refine (HFu.out _ fr (HM.out _ C5) hfr).mono ?_; rintro e w12 ⟨rfl, hb12⟩; have C6 : Below w4.heap.size w4 w12 := btr C5 hb12)
        | (go_at_call 46; refine (HVx.out _ (HM.out _ C6)).mono ?_; rintro e w13 ⟨rfl, hb13⟩; have C7 : Below w4.heap.size w4 w13 := btr C6 hb13)
        | (go_at_call 47; refine (HVr.out _ (HM.out _ C7)).mono ?_; rintro e w14 ⟨rfl, hb14⟩; have C8 : Below w4.heap.size w4 w14 := btr C7 hb14))
    all_goals
      have hF := HM.out _ C8
      go_wp2
      go_ret
      exact ⟨rfl, hF⟩
end Go.Proofs.YtoiihehlgfgikaaGreatDoor

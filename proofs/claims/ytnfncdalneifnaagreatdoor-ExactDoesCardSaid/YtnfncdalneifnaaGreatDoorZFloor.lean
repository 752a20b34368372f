/- Adding, the integer below a number, lengths: what each call returns. -/
import Derived.Test.YtnfncdalneifnaaGreatDoorZDec
namespace Go.Proofs.YtnfncdalneifnaaGreatDoor
open Go.RowKit Go.Deep

set_option maxHeartbeats 1000000 in
theorem c_Add (w : World) (x y : Value) (s1 s2 : Bool) (n1 d1 n2 d2 : Nat) (hx : RatAt w x s1 n1 d1) (hy : RatAt w y s2 n2 d2) (hd1 : 0 < d1)
    (k1 : nw n1 ≤ 100000) (k2 : nw d1 ≤ 100000) (k3 : nw n2 ≤ 100000) (k4 : nw d2 ≤ 100000) (HOK : AddOk (addNum s1 n1 d1 s2 n2 d2) d1 d2) :
    Calls Tryz.prog 10 #[x, y] w (RatRet w (sgn (addSgn s1 n1 d1 s2 n2 d2) (addNum s1 n1 d1 s2 n2 d2 / Nat.gcd (addNum s1 n1 d1 s2 n2 d2) (Nat.gcd d1 d2)))
      (addNum s1 n1 d1 s2 n2 d2 / Nat.gcd (addNum s1 n1 d1 s2 n2 d2) (Nat.gcd d1 d2)) (d1 / Nat.gcd d1 d2 * (d2 / Nat.gcd (addNum s1 n1 d1 s2 n2 d2) (Nat.gcd d1 d2)))) := by
  have HV1 := Lib.hid (c_valid w x s1 n1 d1 hx)
  have HV2 := Lib.hid (c_valid w y s2 n2 d2 hy)
  have HA := Lib.hid (n_added w x y s1 s2 s2 n1 d1 n2 d2 hx hy hd1 k1 k2 k3 k4 HOK)
  clear HOK hx
  obtain ⟨b, nv, dv, rfl, hlt, _, h1, h2, h3, hn, hd⟩ := hy
  clear hn hd h2 h3
  generalize addNum s1 n1 d1 s2 n2 d2 = N at *
  generalize addSgn s1 n1 d1 s2 n2 d2 = sg at *
  go_enter Tryz.func10, Tryz.ntmps10
  go_wp2_with fail
  refine HV1.out.mono ?_
  rintro e w' ⟨rfl, rfl⟩
  go_wp2_with fail
  refine HV2.out.mono ?_
  rintro e w' ⟨rfl, rfl⟩
  go_wp2_with fail
  refine HA.out.mono ?_
  rintro e w1 ⟨u, rfl, hu, hb⟩
  go_wp2
  go_ret
  exact ⟨u, rfl, hu, hb⟩

theorem quiet_left {P : Program} {f : FuncId} {args : Array Value} {w : World} {n : Nat} {v : Value}
    (h : Calls P f args (w.drewN n) fun e w' => e = .returned v ∧ w.drewN n = w') : Calls P f args (w.drewN n) fun e w'' => e = .returned v ∧ ∃ m, w'' = w.drewN m :=
  h.mono fun _ _ ⟨he, hm⟩ => ⟨he, n, hm.symm⟩
/-- The size of the integer below a number. -/
def floorN (neg : Bool) (n d : Nat) : Nat := if neg = true ∧ n % d ≠ 0 then n / d + 1 else n / d

set_option maxHeartbeats 2000000 in
theorem c_Floor (w : World) (v : Value) (neg : Bool) (n d : Nat) (h : RatAt w v neg n d) (hd0 : 0 < d) (hnn : nw n ≤ 100000) (HD : Divs n d) :
    Calls Tryz.prog 9 #[v] w (RatRet w (sgn neg (floorN neg n d)) (floorN neg n d) 1) := by
  have HV := Lib.hid (c_valid w v neg n d h)
  obtain ⟨b, nv, dv, rfl, hlt, _, h1, h2, h3, hn, hd⟩ := h
  have HDv := Lib.hid (fun k => n_divided (w.drewN k) nv dv n d (hn.drewN k) (hd.drewN k) (by omega) hd0 HD)
  have K : Hid (∀ W, Below w.heap.size w W → W.cell? ⟨b, 1, none⟩ = some (.bool neg) ∧ W.cell? ⟨b, 2, none⟩ = some nv ∧ W.cell? ⟨b, 3, none⟩ = some dv) := fun W hW =>
    ⟨(hW.cell (p := ⟨b, 1, none⟩) hlt).trans h1, (hW.cell (p := ⟨b, 2, none⟩) hlt).trans h2, (hW.cell (p := ⟨b, 3, none⟩) hlt).trans h3⟩
  have hq : nw (n / d) ≤ 100000 := Nat.le_trans (nw_mono (Nat.div_le_self _ _)) hnn
  clear hn hd HD h1 h2 h3
  go_enter Tryz.func9, Tryz.ntmps9
  go_wp2_with fail
  refine HV.out.mono ?_
  rintro e w' ⟨rfl, rfl⟩
  have B0 : Below w.heap.size w w.drew := Below.drew (Below.refl _ _)
  go_wp2_with fail
  go_region_held3 (fun w' => w'.cell? ⟨b, 1, none⟩ = some (.bool neg) ∧ w'.cell? ⟨b, 2, none⟩ = some nv ∧ w'.cell? ⟨b, 3, none⟩ = some dv)
    (first | exact K.out _ B1 | exact K.out _ B0 | exact K.out _ (Below.refl _ _)) (first
      | (go_at_call 45; refine (HDv.out 1).mono ?_; rintro e w1 ⟨q, r, rfl, hqa, hra, hb1⟩; have B1 : Below w.heap.size w w1 := btr B0 hb1))
  obtain ⟨c1, c2, c3⟩ := K.out _ B1
  have HRA := Lib.hid hra
  obtain ⟨A, c, rfl, _, _, _⟩ := hra
  have HQA := Lib.hid hqa
  have B1d : Below w1.heap.size w1 w1.drew := Below.drew (Below.refl _ _)
  have K1 : Hid (∀ W, Below w1.heap.size w1 W → W.cell? ⟨b, 1, none⟩ = some (.bool neg)) := fun W hW => (K.out W (btr B1 hW)).1
  have HW1 := Lib.hid (fun W => n_word W 1 (by decide))
  clear hqa HDv B0 HV
  by_cases hc : neg = true ∧ n % d ≠ 0
  · have HF : Hid (floorN neg n d = n / d + 1) := if_pos hc
    have hr0 : 0 < nw (n % d) := by rw [nw_pos]; omega
    have hng : neg = true := hc.1
    subst hng
    clear hc
    generalize nw (n % d) = m at *
    have hdm : decide (0 < m) = true := by simp [hr0]
    go_wp2_with fail
    refine (HW1.out _).mono ?_
    rintro e w2 ⟨o, rfl, ho, hb2⟩
    have HPl := Lib.hid (n_plus w2 q o (n / d) 1 (HQA.out.below hb2) ho (by omega) (by rw [nw_one 1 (by omega) (by decide)]; omega))
    go_wp2_with fail
    refine HPl.out.mono ?_
    rintro e w3 ⟨wh, rfl, hwh, hb3⟩
    have B3 : Below w1.heap.size w1 w3 := btr hb2 hb3
    have B3d : Below w3.heap.size w3 w3.drew := Below.drew (Below.refl _ _)
    have HWH := Lib.hid hwh
    clear ho hwh HPl
    go_wp2_with fail
    go_region_held3 (fun w' => w'.cell? ⟨b, 1, none⟩ = some (.bool true))
      (first | exact K1.out _ (btr B3 B5) | exact K1.out _ (btr B3 B4) | exact K1.out _ (btr B3 B3d) | exact K1.out _ B3) (first
        | (go_at_call 41; refine (HW1.out _).mono ?_; rintro e w4 ⟨o2, rfl, ho2, hb4⟩; have B4 : Below w3.heap.size w3 w4 := btr B3d hb4)
        | (go_at_call 40; refine (c_made _ wh o2 true (n / d + 1) 1 (HWH.out.below B4) ho2).mono ?_; rintro e w5 ⟨u, rfl, hu, hb5⟩; have B5 : Below w3.heap.size w3 w5 := btr B4 hb5))
    all_goals
      go_wp2
      go_ret
      exact ⟨u, rfl, by rw [HF.out]; exact hu, btr B1 (btr B3 B5)⟩
  · have HF : Hid (floorN neg n d = n / d) := if_neg hc
    have hdm : neg = false ∨ (neg = true ∧ nw (n % d) = 0) := by
      cases neg
      · exact .inl rfl
      · refine .inr ⟨rfl, ?_⟩
        rw [nw_eq_zero]
        rcases Nat.eq_zero_or_pos (n % d) with h9 | h9
        · exact h9
        · exact absurd ⟨rfl, by omega⟩ hc
    clear hc
    generalize nw (n % d) = m at *
    rcases hdm with rfl | ⟨rfl, rfl⟩
    · go_wp2_with fail
      go_region_held3 (fun w' => w'.cell? ⟨b, 1, none⟩ = some (.bool false))
        (first | exact K1.out _ B5 | exact K1.out _ B4 | exact K1.out _ B1d | exact K1.out _ (Below.refl _ _)) (first
          | (go_at_call 41; refine (HW1.out _).mono ?_; rintro e w4 ⟨o2, rfl, ho2, hb4⟩; have B4 : Below w1.heap.size w1 w4 := btr B1d hb4)
          | (go_at_call 40; refine (c_made _ q o2 false (n / d) 1 (HQA.out.below B4) ho2).mono ?_; rintro e w5 ⟨u, rfl, hu, hb5⟩; have B5 : Below w1.heap.size w1 w5 := btr B4 hb5))
      all_goals
        go_wp2
        go_ret
        exact ⟨u, rfl, by rw [HF.out]; exact hu, btr B1 B5⟩
    · go_wp2_with fail
      go_region_held3 (fun w' => w'.cell? ⟨b, 1, none⟩ = some (.bool true))
        (first | exact K1.out _ B5 | exact K1.out _ B4 | exact K1.out _ B1d | exact K1.out _ (Below.refl _ _)) (first
          | (go_at_call 41; refine (HW1.out _).mono ?_; rintro e w4 ⟨o2, rfl, ho2, hb4⟩; have B4 : Below w1.heap.size w1 w4 := btr B1d hb4)
          | (go_at_call 40; refine (c_made _ q o2 true (n / d) 1 (HQA.out.below B4) ho2).mono ?_; rintro e w5 ⟨u, rfl, hu, hb5⟩; have B5 : Below w1.heap.size w1 w5 := btr B4 hb5))
      all_goals
        go_wp2
        go_ret
        exact ⟨u, rfl, by rw [HF.out]; exact hu, btr B1 B5⟩

theorem bitLenAux_le (f x : Nat) : Lib.bitLenAux f x ≤ f := by
  induction f generalizing x with
  | zero => simp [Lib.bitLenAux]
  | succ f ih =>
    unfold Lib.bitLenAux
    split
    · omega
    · have := ih (x / 2); omega
/-- How many binary digits a number has. -/
def lenN (x : Nat) : Nat := Lib.bitLen x
set_option maxHeartbeats 400000 in
theorem n_length_small (w : World) (v : Value) (x : Nat) (h : NatAt w v x) (hx : x < W64) :
    Calls Tryz.prog 48 #[v] w fun e w' => e = .returned (.int .i64 (lenN x : Int)) ∧ w = w' := by
  obtain ⟨A, c, rfl, h1, h2, h3⟩ := h
  by_cases h0 : x = 0
  · have HL : Hid ((lenN x : Int) = 0) := by show _ = _; rw [h0]; rfl
    rw [show nw x = 0 by rw [h0, nw_zero]]
    clear h0 h3 h1 hx
    go_enter Tryz.func48, Tryz.ntmps48
    go_wp2
    go_ret
    exact ⟨by rw [HL.out]; rfl, rfl⟩
  · have hnw := nw_one x (by omega) hx
    obtain ⟨b, o, rfl, hc⟩ := h3.at_ (k := 0) (by omega)
    rw [dig_small x hx, Nat.add_zero] at hc
    have HLn := Lib.hid (Tryz.bits_Len64 x w (by omega) (by unfold W64 at hx; omega))
    rw [hnw]
    have HLe : Hid ((lenN x : Int) = (Lib.bitLen (x : Int).toNat : Int)) := rfl
    have hle : Lib.bitLen (x : Int).toNat ≤ 64 := bitLenAux_le 64 _
    generalize Lib.bitLen (x : Int).toNat = bl at *
    clear h3 h1 h0 hnw hx
    go_enter Tryz.func48, Tryz.ntmps48
    go_wp2_with fail
    refine HLn.out.mono ?_
    rintro e w' ⟨rfl, rfl⟩
    clear HLn
    go_wp2
    go_ret
    exact ⟨by rw [HLe.out]; rfl, rfl⟩
set_option maxHeartbeats 1000000 in
theorem c_Bits_small (w : World) (v : Value) (neg : Bool) (n d : Nat) (h : RatAt w v neg n d) (hn1 : n < W64) (hd1 : d < W64) :
    Calls Tryz.prog 11 #[v] w fun e w' => e = .returned (.tuple #[.int .i64 (lenN n : Int), .int .i64 (lenN d : Int)]) ∧ ∃ k, w' = w.drewN k := by
  have HV := Lib.hid (c_valid w v neg n d h)
  obtain ⟨b, nv, dv, rfl, hlt, _, h1, h2, h3, hn, hd⟩ := h
  have HN := Lib.hid (fun k => n_length_small (w.drewN k) nv n (hn.drewN k) hn1)
  have HD := Lib.hid (fun k => n_length_small (w.drewN k) dv d (hd.drewN k) hd1)
  clear hn hd
  go_enter Tryz.func11, Tryz.ntmps11
  go_wp2_with fail
  refine HV.out.mono ?_
  rintro e w' ⟨rfl, rfl⟩
  go_wp2_with fail
  go_quiet ((first | (go_at_call_of 48 nv; exact quiet_left (HN.out _)) | (go_at_call_of 48 dv; exact quiet_left (HD.out _))))
  go_wp2
  go_ret2
  exact ⟨rfl, by first | exact ⟨_, rfl⟩ | exact dr2 _ _ _⟩
end Go.Proofs.YtnfncdalneifnaaGreatDoor

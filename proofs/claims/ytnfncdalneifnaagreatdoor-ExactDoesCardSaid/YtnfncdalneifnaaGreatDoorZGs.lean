/- Guessing a word of a quotient: the arithmetic, and what the call returns. -/
import Derived.Test.YtnfncdalneifnaaGreatDoorZDivG
namespace Go.Proofs.YtnfncdalneifnaaGreatDoor
open Go.RowKit Go.Deep

/-- q is a guess of (a W + d) / (p W + l), or of the greatest word, not too small; r is what a leaves. -/
structure GuessW (a d p l q r : Nat) : Prop where
  eq : a = q * p + r
  ge : min ((a * W64 + d) / (p * W64 + l)) (W64 - 1) ≤ q
  le : q ≤ W64 - 1
theorem GuessW.done {a d p l q r : Nat} (hp : 0 < p) (g : GuessW a d p l q r) (hc : q * l ≤ W64 * r + d) : q = min ((a * W64 + d) / (p * W64 + l)) (W64 - 1) := by
  refine Nat.le_antisymm ?_ g.ge
  have hY : 0 < p * W64 + l := by have := Nat.mul_pos hp W64_pos; omega
  refine Nat.le_min.2 ⟨?_, g.le⟩
  rw [Nat.le_div_iff_mul_le hY]
  have e1 : a * W64 = q * (p * W64) + W64 * r := by rw [g.eq, Nat.add_mul, Nat.mul_assoc, Nat.mul_comm r]
  have e2 : q * (p * W64 + l) = q * (p * W64) + q * l := Nat.mul_add ..
  omega
theorem GuessW.more {a d p l q r : Nat} (hp : 0 < p) (g : GuessW a d p l q r) (hc : W64 * r + d < q * l) : 0 < q ∧ GuessW a d p l (q - 1) (r + p) := by
  have hq : 0 < q := Nat.pos_of_ne_zero fun e => by subst e; simp at hc
  have hY : 0 < p * W64 + l := by have := Nat.mul_pos hp W64_pos; omega
  refine ⟨hq, ?_, ?_, by have := g.le; omega⟩
  · obtain ⟨k, rfl⟩ : ∃ k, q = k + 1 := ⟨q - 1, by omega⟩
    have := g.eq
    rw [Nat.succ_mul] at this
    simp only [Nat.add_sub_cancel]
    omega
  · have key : (a * W64 + d) / (p * W64 + l) < q := by
      rw [Nat.div_lt_iff_lt_mul hY]
      have e1 : a * W64 = q * (p * W64) + W64 * r := by rw [g.eq, Nat.add_mul, Nat.mul_assoc, Nat.mul_comm r]
      have e2 : q * (p * W64 + l) = q * (p * W64) + q * l := Nat.mul_add ..
      omega
    have := Nat.min_le_left ((a * W64 + d) / (p * W64 + l)) (W64 - 1)
    omega
theorem GuessW.out {a d p l q r : Nat} (hp : 0 < p) (hl : l < W64) (g : GuessW a d p l q r) (hr : W64 ≤ r) : q = min ((a * W64 + d) / (p * W64 + l)) (W64 - 1) := by
  refine g.done hp ?_
  have h1 : q * l ≤ W64 * l := Nat.mul_le_mul_right _ (by have := g.le; omega)
  have h2 : W64 * l ≤ W64 * r := Nat.mul_le_mul_left _ (by omega)
  omega
theorem GuessW.first (a2 a1 d p l : Nat) (hp : 0 < p) (h1 : a1 < W64) (hd : d < W64) (h2 : a2 < p) : GuessW (a2 * W64 + a1) d p l ((a2 * W64 + a1) / p) ((a2 * W64 + a1) % p) := by
  refine ⟨div_eqn _ _, ?_, ?_⟩
  · generalize a2 * W64 + a1 = a
    have h3 : (a * W64 + d) / (p * W64 + l) ≤ (a * W64 + d) / (p * W64) := Nat.div_le_div_left (by omega) (Nat.mul_pos hp W64_pos)
    have h4 : (a * W64 + d) / (p * W64) = a / p := by
      rw [Nat.mul_comm p, ← Nat.div_div_eq_div_mul, Nat.mul_comm a, Nat.mul_add_div W64_pos, Nat.div_eq_of_lt hd, Nat.add_zero]
    have := Nat.min_le_left ((a * W64 + d) / (p * W64 + l)) (W64 - 1)
    omega
  · have : (a2 * W64 + a1) / p < W64 := by
      rw [Nat.div_lt_iff_lt_mul hp]
      have h5 : (a2 + 1) * W64 ≤ p * W64 := Nat.mul_le_mul_right _ h2
      rw [Nat.succ_mul] at h5
      rw [Nat.mul_comm W64]; omega
    omega
theorem GuessW.top (a1 d p l : Nat) : GuessW (p * W64 + a1) d p l (W64 - 1) (a1 + p) := by
  refine ⟨?_, Nat.min_le_right _ _, Nat.le_refl _⟩
  have : p * W64 = (W64 - 1) * p + p := by rw [Nat.mul_comm p, ← Nat.succ_mul]; rfl
  omega
theorem low_iff {x r d : Nat} (hd : d < W64) : x ≤ W64 * r + d ↔ x / W64 < r ∨ x / W64 = r ∧ x % W64 ≤ d := by
  have e := Nat.div_add_mod x W64
  have hm := Nat.mod_lt x W64_pos
  generalize x / W64 = h at *
  generalize x % W64 = m at *
  unfold W64 at *
  omega

set_option maxRecDepth 100000 in
set_option maxHeartbeats 4000000 in
theorem c_guess (w : World) (a2 a1 a0 b1 b0 : Nat) (h2 : a2 ≤ b1) (h1 : a1 < W64) (h0 : a0 < W64) (hp : 9223372036854775808 ≤ b1) (hpW : b1 < W64) (hl : b0 < W64) :
    Calls Tryz.prog 150 #[U a2, U a1, U a0, U b1, U b0] w fun e w' => e = .returned (U (min (((a2 * W64 + a1) * W64 + a0) / (b1 * W64 + b0)) (W64 - 1))) ∧ ∃ n, w' = w.drewN n := by
  have hpp : 0 < b1 := by omega
  have H0 := Lib.hid h0
  have HL := Lib.hid hl
  have HPP := Lib.hid hpp
  have HPW := Lib.hid hpW
  have HM := Lib.hid fun (u : Nat) (hu : u < W64) (W : World) => Tryz.bits_Mul64 u b0 hu hl W
  rcases Nat.lt_or_ge a2 b1 with hlt | hge
  · have HD := Lib.hid (div_all a2 a1 b1 h1 hpW hlt)
    have HG0 := Lib.hid (GuessW.first a2 a1 a0 b1 b0 hpp h1 h0 hlt)
    have hr0 : (a2 * W64 + a1) % b1 < W64 := Nat.lt_trans (Nat.mod_lt _ hpp) hpW
    have HR0 := Lib.hid hr0
    have c0 : decide ((a2 : Int) < (b1 : Int)) = true := by simp; omega
    clear hr0 h0 hl hpp hp hpW h2 h1
    go_enter Tryz.func150, Tryz.ntmps150
    go_wp2_with fail
    refine (HD.out _).mono ?_
    rintro e w1 ⟨rfl, n1, hw1⟩
    have HW1 := Lib.hid hw1
    clear hw1
    go_wp2_with fail
    go_loopw [11, 12] (fun q r wr => ∃ u v n : Nat, q = U u ∧ r = U v ∧ wr = w.drewN n ∧ Hid (v < W64) ∧ Hid (GuessW (a2 * W64 + a1) a0 b1 b0 u v)) (fun q _ _ => (intOf q).toNat)
    case atStart => exact ⟨(a2 * W64 + a1) / b1, (a2 * W64 + a1) % b1, n1, rfl, rfl, HW1.out, HR0.out, HG0.out⟩
    case round =>
      obtain ⟨u, v, n, rfl, rfl, rfl, HV, HG⟩ := hrel
      clear HG0
      have hu : u < W64 := by have h9 := HG.out.le; have h8 := W64_pos; omega
      have HM9 := Lib.hid (HM.out u hu (w.drewN n))
      have HUW := Lib.hid hu
      clear hu
      go_wp2_with fail
      refine HM9.out.mono ?_
      rintro e w9 ⟨rfl, rfl⟩
      have hI := low_iff (x := u * b0) (r := v) H0.out
      have hI2 : u * b0 / 18446744073709551616 = u * b0 / W64 := rfl
      have hI3 : u * b0 % 18446744073709551616 = u * b0 % W64 := rfl
      rw [hI2, hI3]
      clear hI2 hI3
      have HI := Lib.hid hI
      clear hI
      generalize u * b0 / W64 = hg at *
      generalize u * b0 % W64 = lw at *
      rcases Nat.lt_trichotomy hg v with ht | ht | ht
      · have c3 : decide ((hg : Int) < (v : Int)) = true := by simp; omega
        have HO := Lib.hid (GuessW.done HPP.out HG.out (HI.out.2 (.inl ht)))
        go_wp2
        go_ret
        exact ⟨by rw [← HO.out]; rfl, by first | exact ⟨_, rfl⟩ | exact dr2 _ _ _⟩
      · subst ht
        have c3 : decide ((hg : Int) < (hg : Int)) = false := by simp
        have c4 : ((hg : Int) == (hg : Int)) = true := by simp
        rcases Nat.lt_or_ge a0 lw with hlo | hlo
        · have c5 : decide ((lw : Int) ≤ (a0 : Int)) = false := by simp; omega
          have HN := Lib.hid (GuessW.more HPP.out HG.out (Nat.lt_of_not_le fun h => by rcases HI.out.1 h with h9 | h9 <;> omega))
          have hlo2 : ¬ lw ≤ a0 := by omega
          clear hlo
          have hp9 : IntKind.u64.wrap ((u : Int) - 1) = ((u - 1 : Nat) : Int) := wrapN _ _ (by have := HN.out.1; omega) (by have := HUW.out; omega)
          have HP9 := Lib.hid hp9
          clear hp9
          rcases Nat.lt_or_ge (hg + b1) W64 with hs | hs
          · have hw : IntKind.u64.wrap ((hg : Int) + (b1 : Int)) = ((hg + b1 : Nat) : Int) := wrapN _ _ (by push_cast; rfl) hs
            have c6 : decide (IntKind.u64.wrap ((hg : Int) + (b1 : Int)) < (b1 : Int)) = false := by rw [hw, decide_eq_false_iff_not]; omega
            have HW9 := Lib.hid hw
            have HS9 := Lib.hid hs
            clear hw hs
            go_wp2_with fail
            rw [HP9.out, HW9.out]
            exact ⟨⟨u - 1, hg + b1, n, rfl, rfl, rfl, HS9.out, HN.out.2⟩, by have := HN.out.1; simp [intOf]; omega⟩
          · have hw : IntKind.u64.wrap ((hg : Int) + (b1 : Int)) = ((hg + b1 - W64 : Nat) : Int) := by
              have := HV.out
              have := HPW.out
              rw [IntKind.wrap_u64]; unfold W64 at *; omega
            have c6 : decide (IntKind.u64.wrap ((hg : Int) + (b1 : Int)) < (b1 : Int)) = true := by
              have := HV.out
              rw [hw, decide_eq_true_iff]; omega
            have HO := Lib.hid (GuessW.out HPP.out HL.out HN.out.2 hs)
            clear hw hs
            go_wp2
            go_ret
            exact ⟨by rw [← HO.out, HP9.out]; rfl, by first | exact ⟨_, rfl⟩ | exact dr2 _ _ _⟩
        · have c5 : decide ((lw : Int) ≤ (a0 : Int)) = true := by simp; omega
          have HO := Lib.hid (GuessW.done HPP.out HG.out (HI.out.2 (.inr ⟨rfl, hlo⟩)))
          go_wp2
          go_ret
          exact ⟨by rw [← HO.out]; rfl, by first | exact ⟨_, rfl⟩ | exact dr2 _ _ _⟩
      · have c3 : decide ((hg : Int) < (v : Int)) = false := by simp; omega
        have c4 : ((hg : Int) == (v : Int)) = false := by rw [beq_eq_false_iff_ne]; omega
        have HN := Lib.hid (GuessW.more HPP.out HG.out (Nat.lt_of_not_le fun h => by rcases HI.out.1 h with h9 | h9 <;> omega))
        have ht1 : ¬ hg < v := by omega
        have ht2 : ¬ hg = v := by omega
        clear ht
        have hp9 : IntKind.u64.wrap ((u : Int) - 1) = ((u - 1 : Nat) : Int) := wrapN _ _ (by have := HN.out.1; omega) (by have := HUW.out; omega)
        have HP9 := Lib.hid hp9
        clear hp9
        rcases Nat.lt_or_ge (v + b1) W64 with hs | hs
        · have hw : IntKind.u64.wrap ((v : Int) + (b1 : Int)) = ((v + b1 : Nat) : Int) := wrapN _ _ (by push_cast; rfl) hs
          have c6 : decide (IntKind.u64.wrap ((v : Int) + (b1 : Int)) < (b1 : Int)) = false := by rw [hw, decide_eq_false_iff_not]; omega
          have HW9 := Lib.hid hw
          have HS9 := Lib.hid hs
          clear hw hs
          go_wp2_with fail
          rw [HP9.out, HW9.out]
          exact ⟨⟨u - 1, v + b1, n, rfl, rfl, rfl, HS9.out, HN.out.2⟩, by have := HN.out.1; simp [intOf]; omega⟩
        · have hw : IntKind.u64.wrap ((v : Int) + (b1 : Int)) = ((v + b1 - W64 : Nat) : Int) := by
            have := HV.out
            have := HPW.out
            rw [IntKind.wrap_u64]; unfold W64 at *; omega
          have c6 : decide (IntKind.u64.wrap ((v : Int) + (b1 : Int)) < (b1 : Int)) = true := by
            have := HV.out
            rw [hw, decide_eq_true_iff]; omega
          have HO := Lib.hid (GuessW.out HPP.out HL.out HN.out.2 hs)
          clear hw hs
          go_wp2
          go_ret
          exact ⟨by rw [← HO.out, HP9.out]; rfl, by first | exact ⟨_, rfl⟩ | exact dr2 _ _ _⟩
  · obtain rfl : a2 = b1 := by omega
    have c0 : decide ((a2 : Int) < (a2 : Int)) = false := by simp
    have HG0 := Lib.hid (GuessW.top a1 a0 a2 b0)
    rcases Nat.lt_or_ge (a1 + a2) W64 with hs | hs
    · have hw : IntKind.u64.wrap ((a1 : Int) + (a2 : Int)) = ((a1 + a2 : Nat) : Int) := wrapN _ _ (by push_cast; rfl) hs
      have c1 : decide (IntKind.u64.wrap ((a1 : Int) + (a2 : Int)) < (a2 : Int)) = false := by rw [hw, decide_eq_false_iff_not]; omega
      have HW := Lib.hid hw
      have HR0 := Lib.hid hs
      clear hw h0 hl hpp hp hpW h2 h1 hs hge
      go_enter Tryz.func150, Tryz.ntmps150
      go_wp2_with fail
      rw [HW.out]
      have HQ0 : Hid ((18446744073709551615 : Int) = ((W64 - 1 : Nat) : Int)) := rfl
      rw [HQ0.out]
      generalize W64 - 1 = q0 at *
      generalize a1 + a2 = r0 at *
      go_loopw [11, 12] (fun q r wr => ∃ u v n : Nat, q = U u ∧ r = U v ∧ wr = w.drewN n ∧ Hid (v < W64) ∧ Hid (GuessW (a2 * W64 + a1) a0 a2 b0 u v)) (fun q _ _ => (intOf q).toNat)
      case atStart => exact ⟨q0, r0, 0, rfl, rfl, rfl, HR0.out, HG0.out⟩
      case round =>
        obtain ⟨u, v, n, rfl, rfl, rfl, HV, HG⟩ := hrel
        clear HG0
        have hu : u < W64 := by have h9 := HG.out.le; have h8 := W64_pos; omega
        have HM9 := Lib.hid (HM.out u hu (w.drewN n))
        have HUW := Lib.hid hu
        clear hu
        go_wp2_with fail
        refine HM9.out.mono ?_
        rintro e w9 ⟨rfl, rfl⟩
        have hI := low_iff (x := u * b0) (r := v) H0.out
        have hI2 : u * b0 / 18446744073709551616 = u * b0 / W64 := rfl
        have hI3 : u * b0 % 18446744073709551616 = u * b0 % W64 := rfl
        rw [hI2, hI3]
        clear hI2 hI3
        have HI := Lib.hid hI
        clear hI
        generalize u * b0 / W64 = hg at *
        generalize u * b0 % W64 = lw at *
        rcases Nat.lt_trichotomy hg v with ht | ht | ht
        · have c3 : decide ((hg : Int) < (v : Int)) = true := by simp; omega
          have HO := Lib.hid (GuessW.done HPP.out HG.out (HI.out.2 (.inl ht)))
          go_wp2
          go_ret
          exact ⟨by rw [← HO.out]; rfl, by first | exact ⟨_, rfl⟩ | exact dr2 _ _ _⟩
        · subst ht
          have c3 : decide ((hg : Int) < (hg : Int)) = false := by simp
          have c4 : ((hg : Int) == (hg : Int)) = true := by simp
          rcases Nat.lt_or_ge a0 lw with hlo | hlo
          · have c5 : decide ((lw : Int) ≤ (a0 : Int)) = false := by simp; omega
            have HN := Lib.hid (GuessW.more HPP.out HG.out (Nat.lt_of_not_le fun h => by rcases HI.out.1 h with h9 | h9 <;> omega))
            have hlo2 : ¬ lw ≤ a0 := by omega
            clear hlo
            have hp9 : IntKind.u64.wrap ((u : Int) - 1) = ((u - 1 : Nat) : Int) := wrapN _ _ (by have := HN.out.1; omega) (by have := HUW.out; omega)
            have HP9 := Lib.hid hp9
            clear hp9
            rcases Nat.lt_or_ge (hg + a2) W64 with hs | hs
            · have hw : IntKind.u64.wrap ((hg : Int) + (a2 : Int)) = ((hg + a2 : Nat) : Int) := wrapN _ _ (by push_cast; rfl) hs
              have c6 : decide (IntKind.u64.wrap ((hg : Int) + (a2 : Int)) < (a2 : Int)) = false := by rw [hw, decide_eq_false_iff_not]; omega
              have HW9 := Lib.hid hw
              have HS9 := Lib.hid hs
              clear hw hs
              go_wp2_with fail
              rw [HP9.out, HW9.out]
              exact ⟨⟨u - 1, hg + a2, n, rfl, rfl, rfl, HS9.out, HN.out.2⟩, by have := HN.out.1; simp [intOf]; omega⟩
            · have hw : IntKind.u64.wrap ((hg : Int) + (a2 : Int)) = ((hg + a2 - W64 : Nat) : Int) := by
                have := HV.out
                have := HPW.out
                rw [IntKind.wrap_u64]; unfold W64 at *; omega
              have c6 : decide (IntKind.u64.wrap ((hg : Int) + (a2 : Int)) < (a2 : Int)) = true := by
                have := HV.out
                rw [hw, decide_eq_true_iff]; omega
              have HO := Lib.hid (GuessW.out HPP.out HL.out HN.out.2 hs)
              clear hw hs
              go_wp2
              go_ret
              exact ⟨by rw [← HO.out, HP9.out]; rfl, by first | exact ⟨_, rfl⟩ | exact dr2 _ _ _⟩
          · have c5 : decide ((lw : Int) ≤ (a0 : Int)) = true := by simp; omega
            have HO := Lib.hid (GuessW.done HPP.out HG.out (HI.out.2 (.inr ⟨rfl, hlo⟩)))
            go_wp2
            go_ret
            exact ⟨by rw [← HO.out]; rfl, by first | exact ⟨_, rfl⟩ | exact dr2 _ _ _⟩
        · have c3 : decide ((hg : Int) < (v : Int)) = false := by simp; omega
          have c4 : ((hg : Int) == (v : Int)) = false := by rw [beq_eq_false_iff_ne]; omega
          have HN := Lib.hid (GuessW.more HPP.out HG.out (Nat.lt_of_not_le fun h => by rcases HI.out.1 h with h9 | h9 <;> omega))
          have ht1 : ¬ hg < v := by omega
          have ht2 : ¬ hg = v := by omega
          clear ht
          have hp9 : IntKind.u64.wrap ((u : Int) - 1) = ((u - 1 : Nat) : Int) := wrapN _ _ (by have := HN.out.1; omega) (by have := HUW.out; omega)
          have HP9 := Lib.hid hp9
          clear hp9
          rcases Nat.lt_or_ge (v + a2) W64 with hs | hs
          · have hw : IntKind.u64.wrap ((v : Int) + (a2 : Int)) = ((v + a2 : Nat) : Int) := wrapN _ _ (by push_cast; rfl) hs
            have c6 : decide (IntKind.u64.wrap ((v : Int) + (a2 : Int)) < (a2 : Int)) = false := by rw [hw, decide_eq_false_iff_not]; omega
            have HW9 := Lib.hid hw
            have HS9 := Lib.hid hs
            clear hw hs
            go_wp2_with fail
            rw [HP9.out, HW9.out]
            exact ⟨⟨u - 1, v + a2, n, rfl, rfl, rfl, HS9.out, HN.out.2⟩, by have := HN.out.1; simp [intOf]; omega⟩
          · have hw : IntKind.u64.wrap ((v : Int) + (a2 : Int)) = ((v + a2 - W64 : Nat) : Int) := by
              have := HV.out
              have := HPW.out
              rw [IntKind.wrap_u64]; unfold W64 at *; omega
            have c6 : decide (IntKind.u64.wrap ((v : Int) + (a2 : Int)) < (a2 : Int)) = true := by
              have := HV.out
              rw [hw, decide_eq_true_iff]; omega
            have HO := Lib.hid (GuessW.out HPP.out HL.out HN.out.2 hs)
            clear hw hs
            go_wp2
            go_ret
            exact ⟨by rw [← HO.out, HP9.out]; rfl, by first | exact ⟨_, rfl⟩ | exact dr2 _ _ _⟩
    · have hw : IntKind.u64.wrap ((a1 : Int) + (a2 : Int)) = ((a1 + a2 - W64 : Nat) : Int) := by
        rw [IntKind.wrap_u64]; unfold W64 at *; omega
      have c1 : decide (IntKind.u64.wrap ((a1 : Int) + (a2 : Int)) < (a2 : Int)) = true := by rw [hw, decide_eq_true_iff]; omega
      have HO := Lib.hid (GuessW.out hpp hl HG0.out hs)
      clear hw h0 hl hpp hp hpW h2 h1 hs hge
      go_enter Tryz.func150, Tryz.ntmps150
      go_wp2
      go_ret
      exact ⟨by rw [← HO.out]; rfl, 0, rfl⟩
end Go.Proofs.YtnfncdalneifnaaGreatDoor

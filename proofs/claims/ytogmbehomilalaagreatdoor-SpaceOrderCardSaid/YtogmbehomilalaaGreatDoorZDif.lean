/- math/bits.Div64: two words divided by one. -/
import Derived.Test.YtogmbehomilalaaGreatDoorZMathD
import Derived.Test.YtogmbehomilalaaGreatDoorZGcd
import Derived.Laws.Bits64b
import Derived.StillTailTactics

/- math/bits.Div64: two words divided by one. -/
section
namespace Go.Proofs.YtogmbehomilalaaGreatDoor
open Go.RowKit Go.Deep

theorem wrapN (x : Int) (n : Nat) (h : x = n) (hn : n < W64) : IntKind.u64.wrap x = n := by
  unfold W64 at hn
  rw [IntKind.wrap_u64, h]; omega
/-- The words as the program makes them. -/
structure Made (hi lo y L s Y a d : Nat) : Prop where
  f1 : min (IntKind.u64.wrap (64 - (L : Int))).toNat 64 = s
  f2 : min (IntKind.u64.wrap (64 - IntKind.u64.wrap (64 - (L : Int)))).toNat 64 = L
  fY : IntKind.u64.wrap ((y : Int) * 2 ^ s) = (Y : Int)
  fa : bits .or .u64 (IntKind.u64.wrap ((hi : Int) * 2 ^ s)) ((lo : Int) / 2 ^ L) = (a : Int)
  fd : IntKind.u64.wrap ((lo : Int) * 2 ^ s) = (d : Int)
  f8 : IntKind.u64.wrap (64 - (L : Int)) = (s : Int)
theorem made_of {hi lo y L s Y a d : Nat} (h : Shift hi lo y L s Y a d) (hlo : lo < W64) : Made hi lo y L s Y a d := by
  have hL := h.hL
  have hs := h.hs
  have e8 : IntKind.u64.wrap (64 - (L : Int)) = (s : Int) := wrapN _ s (by omega) (by unfold W64; omega)
  have e9 : IntKind.u64.wrap (64 - (s : Int)) = (L : Int) := wrapN _ L (by omega) (by unfold W64; omega)
  have hp : 0 < 2 ^ s := Nat.pow_pos (by decide)
  have hh : hi * 2 ^ s < W64 := by
    have h1 := h.ha
    have h2 := h.lt
    have h3 := h.top
    have h4 : hi * 2 ^ s ≤ a := by rw [h1]; exact Nat.le_add_right _ _
    exact Nat.lt_of_le_of_lt h4 (Nat.lt_trans h2 h3)
  have hl : lo / 2 ^ L < 2 ^ s := by
    rw [Nat.div_lt_iff_lt_mul (Nat.pow_pos (by decide)), ← Nat.pow_add, show s + L = 64 by omega, pow_64]; exact hlo
  refine ⟨by rw [e8]; simp; omega, by rw [e8, e9]; simp; omega, wrapN _ _ (by rw [h.hY]; push_cast; rfl) h.top, ?_, ?_, e8⟩
  · rw [wrapN _ (hi * 2 ^ s) (by push_cast; rfl) hh, show (lo : Int) / 2 ^ L = ((lo / 2 ^ L : Nat) : Int) by push_cast; rfl]
    have hls : lo / 2 ^ L < W64 := Nat.lt_of_le_of_lt (Nat.div_le_self _ _) hlo
    unfold W64 at hh hls
    rw [bits_or_u64_nat _ _ hh hls, h.ha, Nat.mul_comm hi, Nat.two_pow_add_eq_or_of_lt hl]
  · rw [IntKind.wrap_u64, h.hd, Int.natCast_emod, Int.natCast_mul, Int.natCast_pow]; rfl
/-- The halves of a word, and the first guess. -/
theorem and_half (x : Nat) (h : x < W64) : bits .and .u64 (x : Int) 4294967295 = ((x % H32 : Nat) : Int) := by
  have e := bits_and_u64_nat x 4294967295 h (by decide)
  rw [show (((4294967295 : Nat)) : Int) = 4294967295 from rfl] at e
  rw [e, show (4294967295 : Nat) = 2 ^ 32 - 1 from rfl, Nat.and_two_pow_sub_one_eq_mod]; rfl
theorem shr_half (x : Nat) : (x : Int) / 4294967296 = ((x / H32 : Nat) : Int) := by rw [Int.natCast_ediv]; rfl
theorem quo_word (a p : Nat) (h : a < W64) : IntKind.u64.wrap ((a : Int).tdiv (p : Int)) = ((a / p : Nat) : Int) :=
  wrapN _ _ (by rw [Int.tdiv_eq_ediv_of_nonneg (by omega)]; push_cast; rfl) (Nat.lt_of_le_of_lt (Nat.div_le_self _ _) h)
theorem rem_word (a p : Nat) (h : a < W64) : IntKind.u64.wrap ((a : Int) - IntKind.u64.wrap (((a / p : Nat) : Int) * (p : Int))) = ((a % p : Nat) : Int) := by
  have e := Nat.div_add_mod a p
  have h1 : a / p * p ≤ a := Nat.div_mul_le_self a p
  rw [Nat.mul_comm] at e
  rw [wrapN (((a / p : Nat) : Int) * (p : Int)) (a / p * p) (by push_cast; rfl) (by omega)]
  exact wrapN _ _ (by generalize a / p * p = z at *; omega) (by have := Nat.mod_le a p; omega)

theorem bitLenAux_spec : ∀ (f x : Nat), x < 2 ^ f → x < 2 ^ Lib.bitLenAux f x ∧ (x ≠ 0 → 2 ^ (Lib.bitLenAux f x - 1) ≤ x ∧ 0 < Lib.bitLenAux f x)
  | 0, x, h => by
    have : x = 0 := by simpa using h
    subst this
    exact ⟨by simp [Lib.bitLenAux], fun e => absurd rfl e⟩
  | f + 1, x, h => by
    simp only [Lib.bitLenAux]
    split
    · rename_i hx; subst hx; exact ⟨by simp, fun e => absurd rfl e⟩
    · rename_i hx
      have ih := bitLenAux_spec f (x / 2) (by rw [Nat.pow_succ] at h; omega)
      refine ⟨?_, fun _ => ⟨?_, by omega⟩⟩
      · rw [Nat.add_comm, Nat.pow_succ]; omega
      · rw [Nat.add_comm 1, Nat.add_sub_cancel]
        by_cases h2 : x / 2 = 0
        · rw [h2]
          have : Lib.bitLenAux f 0 = 0 := by cases f <;> simp [Lib.bitLenAux]
          rw [this]; simp; omega
        · obtain ⟨h3, h4⟩ := ih.2 h2
          obtain ⟨k, hk⟩ : ∃ k, Lib.bitLenAux f (x / 2) = k + 1 := ⟨_ - 1, (Nat.succ_pred_eq_of_pos h4).symm⟩
          rw [hk, Nat.add_sub_cancel] at h3
          rw [hk, Nat.pow_succ]; omega

theorem step_facts {d p l u v : Nat} {C : Int} (hC : 4294967296 = C) (hv : v < 4294967296) (hp : p < H32) (hl : l < H32) (hd : d < H32) :
    decide (C ≤ (u : Int)) = decide (4294967296 ≤ u) ∧ decide (C ≤ IntKind.u64.wrap ((v : Int) + (p : Int))) = decide (4294967296 ≤ v + p) ∧
    (u < 4294967296 → decide (IntKind.u64.wrap (IntKind.u64.wrap (C * (v : Int)) + (d : Int)) < IntKind.u64.wrap ((u : Int) * (l : Int))) = decide (H32 * v + d < u * l)) := by
  subst hC
  unfold H32 at *
  refine ⟨?_, ?_, fun hu => ?_⟩
  · rw [decide_eq_decide]; omega
  · rw [wrapN _ (v + p) (by push_cast; rfl) (by unfold W64; omega), decide_eq_decide]; omega
  · have h1 : u * l ≤ 4294967295 * 4294967295 := Nat.mul_le_mul (by omega) (by omega)
    rw [wrapN ((u : Int) * (l : Int)) (u * l) (by push_cast; rfl) (by unfold W64; omega), wrapN (4294967296 * (v : Int)) (4294967296 * v) (by rw [Int.natCast_mul]; rfl) (by unfold W64; omega), wrapN _ (4294967296 * v + d) (by rw [Int.natCast_add]) (by unfold W64; omega), decide_eq_decide]
    omega
theorem low_word {a d q Y r : Nat} {C : Int} (hC : 4294967296 = C) (h : a * H32 + d = q * Y + r) (hr : r < W64) : IntKind.u64.wrap (IntKind.u64.wrap (IntKind.u64.wrap ((a : Int) * C) + (d : Int)) - IntKind.u64.wrap ((q : Int) * (Y : Int))) = (r : Int) := by
  subst hC
  unfold H32 at h
  unfold W64 at hr
  have e : (q : Int) * (Y : Int) = ((q * Y : Nat) : Int) := by push_cast; rfl
  rw [e]
  generalize q * Y = z at *
  simp only [IntKind.wrap_u64]
  omega
theorem pred_word (u : Nat) (h : 0 < u) (hu : u ≤ 8589934592) : IntKind.u64.wrap ((u : Int) - 1) = ((u - 1 : Nat) : Int) := wrapN _ _ (by omega) (by unfold W64; omega)
theorem quo_says {k k2 Q : Nat} {C : Int} (hC : 4294967296 = C) (h : k * H32 + k2 = Q) (hQ : Q < W64) : IntKind.u64.wrap (IntKind.u64.wrap ((k : Int) * C) + (k2 : Int)) = (Q : Int) := by
  subst hC
  unfold H32 at h
  unfold W64 at hQ
  simp only [IntKind.wrap_u64]
  omega
theorem div_eqn (x Y : Nat) : x = x / Y * Y + x % Y := by have := Nat.div_add_mod x Y; rw [Nat.mul_comm] at this; exact this.symm

set_option maxRecDepth 100000 in
set_option maxHeartbeats 4000000 in
theorem div_any (hi lo y : Nat) (hlo : lo < W64) (hy : y < W64) (hh : hi < y) (hz : 0 < hi) : DivSays hi lo y := by
  intro w
  have h1 : ((y : Int) == 0) = false := by rw [beq_eq_false_iff_ne]; omega
  have h2 : decide ((y : Int) ≤ hi) = false := by simp; omega
  have h3 : ((hi : Int) == 0) = false := by rw [beq_eq_false_iff_ne]; omega
  have HL := Lib.hid (Tryz.bits_LeadingZeros64 y w (by omega) (by unfold W64 at hy; omega))
  go_enter Tryz.func203, Tryz.ntmps203
  go_wp2_with fail
  refine (HL.out).mono ?_
  rintro e w1 ⟨rfl, rfl⟩
  have hb := bitLenAux_spec 64 y (by rw [pow_64]; exact hy)
  have hb64 : Lib.bitLen y ≤ 64 := Lib.bitLen_le y 64 (by omega) (by unfold W64 at hy; omega)
  rw [show (y : Int).toNat = y from Int.toNat_natCast y]
  clear HL
  rw [show Lib.bitLenAux 64 y = Lib.bitLen y from rfl] at hb
  generalize Lib.bitLen y = L at *
  obtain ⟨s, Y, a, d, hS⟩ : ∃ s Y a d, Shift hi lo y L s Y a d := ⟨_, _, _, _, shift_of hi lo y L hlo hh hb.1 (hb.2 (by omega)).1 hb64 (hb.2 (by omega)).2⟩
  have hM := made_of hS hlo
  clear hb hb64
  go_wp2_with fail
  · exfalso
    rename_i h9
    have h10 : ((Y / H32 : Nat) : Int) = 0 := by rw [← shr_half, ← hM.fY, ← hM.f1]; exact h9
    have := hS.half
    unfold H32 at h10
    omega
  · rename_i h9 K hK
    have haW : a < W64 := Nat.lt_trans hS.lt hS.top
    have hdW : d < W64 := by rw [hS.hd]; exact Nat.mod_lt _ (by decide)
    simp only [hM.f1, hM.f2]
    simp only [hM.fY, hM.fa, hM.fd, hM.f8, shr_half, and_half _ hS.top, and_half _ hdW, quo_word _ _ haW, rem_word _ _ haW]
    have hd1 : d / H32 < H32 := by rw [Nat.div_lt_iff_lt_mul (by decide), H32_sq]; exact hdW
    have hd0 : d % H32 < H32 := Nat.mod_lt _ (by decide)
    have hl : Y % H32 < H32 := Nat.mod_lt _ (by decide)
    have hYe : Y / H32 * H32 + Y % H32 = Y := by have := Nat.div_add_mod Y H32; rw [Nat.mul_comm] at this; exact this
    have hp1 : 2147483648 ≤ Y / H32 := by rw [Nat.le_div_iff_mul_le (by decide)]; have := hS.half; unfold H32; omega
    have hp2 : Y / H32 < H32 := by rw [Nat.div_lt_iff_lt_mul (by decide), H32_sq]; exact hS.top
    have hlt : a < Y / H32 * H32 + Y % H32 := by rw [hYe]; exact hS.lt
    have hE := hS.ends
    have hYtop := hS.top
    have HQW : Hid ((hi * W64 + lo) / y < W64) := by
      show _ < _
      rw [Nat.div_lt_iff_lt_mul (by omega)]
      have h5 : (hi + 1) * W64 ≤ y * W64 := Nat.mul_le_mul_right _ hh
      rw [Nat.succ_mul] at h5
      rw [Nat.mul_comm W64]
      omega
    have HS64 : Hid (s ≤ 64) := by show _ ≤ _; have := hS.hs; omega
    clear h9 h1 h2 h3 hz hh
    clear hlo
    clear hM hS
    generalize hP : Y / H32 = p at *
    generalize hLL : Y % H32 = l at *
    generalize d / H32 = d1 at *
    generalize d % H32 = d0 at *
    have hpp : 0 < p := by omega
    have HG0 := Lib.hid (Guess.first a d1 p l hpp hd1)
    have hq0 : a / p ≤ 8589934592 := by
      have h1 : a / p < 8589934593 := by rw [Nat.div_lt_iff_lt_mul hpp]; unfold W64 at haW; omega
      omega
    have hr0 : a % p < 4294967296 := Nat.lt_trans (Nat.mod_lt _ hpp) hp2
    have H1 := Lib.hid hlt
    have H2 := Lib.hid hd1
    have H3 := Lib.hid hl
    have H4 := Lib.hid hpp
    have H5 := Lib.hid hE
    have H6 := Lib.hid hYe
    have H7 := Lib.hid hp2
    have H8 := Lib.hid hp1
    have H9 := Lib.hid hd0
    have H10 := Lib.hid hYtop
    have H11 := Lib.hid haW
    have hp0 : ¬ p = 0 := by omega
    have hp00 : ((p : Int) == 0) = false := by rw [beq_eq_false_iff_ne]; omega
    clear hlt hd1 hl hpp hE hYe hp1 hp2 hd0 hYtop hP hLL haW hdW
    generalize hC : (4294967296 : Int) = C at *
    have HC := Lib.hid hC
    clear hC
    go_loop [15, 16] (fun q r => ∃ u v : Nat, q = U u ∧ r = U v ∧ u ≤ 8589934592 ∧ v < 4294967296 ∧ Hid (Guess a d1 p l u v)) (fun q _ => (intOf q).toNat)
    case atStart => exact ⟨a / p, a % p, rfl, rfl, hq0, hr0, HG0.out⟩
    case round =>
      obtain ⟨u, v, rfl, rfl, hu, hv, HG⟩ := hrel
      clear HG0 hq0 hr0
      have HF := Lib.hid (step_facts (d := d1) (p := p) (l := l) (u := u) (v := v) HC.out hv H7.out H3.out H2.out)
      have HU := Lib.hid hu
      have HV := Lib.hid hv
      clear hu hv
      by_cases hc : 4294967296 ≤ u ∨ H32 * v + d1 < u * l
      · have HN := Lib.hid (Guess.more H1.out H2.out H4.out HG.out (by unfold H32 at hc ⊢; exact hc))
        by_cases ho : 4294967296 ≤ v + p
        · have c3 := HF.out.2.1
          rw [decide_eq_true ho] at c3
          have HO := Lib.hid (Guess.out H1.out H4.out H3.out HN.out.2 (by unfold H32; exact ho))
          clear ho
          rcases hcu : decide (4294967296 ≤ u) with _ | _
          · have c1 := HF.out.1
            rw [hcu] at c1
            have hu9 : u < 4294967296 := by have := of_decide_eq_false hcu; omega
            have c2 := HF.out.2.2 hu9
            rw [decide_eq_true (hc.resolve_left (by omega))] at c2
            clear hcu hu9 hc
            go_wp2_with fail
            simp only [pred_word u HN.out.1 HU.out]
            obtain ⟨k, hk⟩ : ∃ k, k = (u - 1) := ⟨_, rfl⟩
            have HK : Hid (k = (a * H32 + d1) / Y) := by show k = _; rw [hk, HO.out, H6.out]
            rw [← hk]
            clear hk HO HG HU HV HF HN c3 c1
            try clear c2
            have hY0 : 0 < Y := by have h5 := H6.out; have h6 := H8.out; have h7 : p * 1 ≤ p * H32 := Nat.mul_le_mul_left _ (by decide); omega
            have hrY : (a * H32 + d1) % Y < Y := Nat.mod_lt _ hY0
            have hlow := low_word (a := a) (d := d1) (q := k) (Y := Y) HC.out (by rw [HK.out]; exact div_eqn _ _) (Nat.lt_trans hrY H10.out)
            have hr1W : (a * H32 + d1) % Y < W64 := Nat.lt_trans hrY H10.out
            simp only [hlow, quo_word _ _ hr1W, rem_word _ _ hr1W]
            have HE := H5.out
            rw [← HK.out] at HE
            generalize hr1 : (a * H32 + d1) % Y = r1 at *
            have HH1 : Hid (r1 < p * H32 + l) := by show r1 < _; rw [H6.out]; exact hrY
            have HEE := Lib.hid HE
            have HRW := Lib.hid hr1W
            clear hlow hrY hr1 HE hY0 hr1W
            have HG0 := Lib.hid (Guess.first r1 d0 p l H4.out H9.out)
            have hq0 : r1 / p ≤ 8589934592 := by
              have h1 : r1 / p < 8589934593 := by rw [Nat.div_lt_iff_lt_mul H4.out]; have h2 := HRW.out; have h3 := H8.out; unfold W64 at h2; omega
              omega
            have hr0 : r1 % p < 4294967296 := Nat.lt_trans (Nat.mod_lt _ H4.out) H7.out
            go_loop [18, 16] (fun q r => ∃ u v : Nat, q = U u ∧ r = U v ∧ u ≤ 8589934592 ∧ v < 4294967296 ∧ Hid (Guess r1 d0 p l u v)) (fun q _ => (intOf q).toNat)
            case atStart => exact ⟨r1 / p, r1 % p, rfl, rfl, hq0, hr0, HG0.out⟩
            case round =>
              obtain ⟨u, v, rfl, rfl, hu, hv, HG⟩ := hrel
              clear HG0 hq0 hr0
              have HF := Lib.hid (step_facts (d := d0) (p := p) (l := l) (u := u) (v := v) HC.out hv H7.out H3.out H9.out)
              have HU := Lib.hid hu
              have HV := Lib.hid hv
              clear hu hv
              by_cases hc : 4294967296 ≤ u ∨ H32 * v + d0 < u * l
              · have HN := Lib.hid (Guess.more HH1.out H9.out H4.out HG.out (by unfold H32 at hc ⊢; exact hc))
                by_cases ho : 4294967296 ≤ v + p
                · have c3 := HF.out.2.1
                  rw [decide_eq_true ho] at c3
                  have HO := Lib.hid (Guess.out HH1.out H4.out H3.out HN.out.2 (by unfold H32; exact ho))
                  clear ho
                  rcases hcu : decide (4294967296 ≤ u) with _ | _
                  · have c1 := HF.out.1
                    rw [hcu] at c1
                    have hu9 : u < 4294967296 := by have := of_decide_eq_false hcu; omega
                    have c2 := HF.out.2.2 hu9
                    rw [decide_eq_true (hc.resolve_left (by omega))] at c2
                    clear hcu hu9 hc
                    go_wp2_with fail
                    simp only [pred_word u HN.out.1 HU.out]
                    obtain ⟨k2, hk2⟩ : ∃ k2, k2 = (u - 1) := ⟨_, rfl⟩
                    have HK2 : k2 = (r1 * H32 + d0) / Y := by rw [hk2, HO.out, H6.out]
                    rw [← hk2]
                    have hY0 : 0 < Y := by have h5 := H6.out; have h6 := H8.out; have h7 : p * 1 ≤ p * H32 := Nat.mul_le_mul_left _ (by decide); omega
                    have hlow := low_word (a := r1) (d := d0) (q := k2) (Y := Y) HC.out (by rw [HK2]; exact div_eqn _ _) (Nat.lt_trans (Nat.mod_lt _ hY0) H10.out)
                    have hq : IntKind.u64.wrap (IntKind.u64.wrap ((k : Int) * C) + (k2 : Int)) = (((hi * W64 + lo) / y : Nat) : Int) := quo_says HC.out (by rw [HK2]; exact HEE.out.1) HQW.out
                    have hr : (((r1 * H32 + d0) % Y : Nat) : Int) / 2 ^ min s 64 = (((hi * W64 + lo) % y : Nat) : Int) := by rw [Nat.min_eq_left HS64.out, ← HEE.out.2, Int.natCast_ediv, Int.natCast_pow]; rfl
                    go_ret2
                    refine ⟨ret_ii ?_ ?_, 0, rfl⟩
                    · exact hq
                    · rw [hlow]; exact hr
                  · have c1 := HF.out.1
                    rw [hcu] at c1
                    clear hcu hc
                    go_wp2_with fail
                    simp only [pred_word u HN.out.1 HU.out]
                    obtain ⟨k2, hk2⟩ : ∃ k2, k2 = (u - 1) := ⟨_, rfl⟩
                    have HK2 : k2 = (r1 * H32 + d0) / Y := by rw [hk2, HO.out, H6.out]
                    rw [← hk2]
                    have hY0 : 0 < Y := by have h5 := H6.out; have h6 := H8.out; have h7 : p * 1 ≤ p * H32 := Nat.mul_le_mul_left _ (by decide); omega
                    have hlow := low_word (a := r1) (d := d0) (q := k2) (Y := Y) HC.out (by rw [HK2]; exact div_eqn _ _) (Nat.lt_trans (Nat.mod_lt _ hY0) H10.out)
                    have hq : IntKind.u64.wrap (IntKind.u64.wrap ((k : Int) * C) + (k2 : Int)) = (((hi * W64 + lo) / y : Nat) : Int) := quo_says HC.out (by rw [HK2]; exact HEE.out.1) HQW.out
                    have hr : (((r1 * H32 + d0) % Y : Nat) : Int) / 2 ^ min s 64 = (((hi * W64 + lo) % y : Nat) : Int) := by rw [Nat.min_eq_left HS64.out, ← HEE.out.2, Int.natCast_ediv, Int.natCast_pow]; rfl
                    go_ret2
                    refine ⟨ret_ii ?_ ?_, 0, rfl⟩
                    · exact hq
                    · rw [hlow]; exact hr
                · have c3 := HF.out.2.1
                  rw [decide_eq_false ho] at c3
                  have HO := Lib.hid ho
                  have hw1 : IntKind.u64.wrap ((v : Int) + (p : Int)) = ((v + p : Nat) : Int) := wrapN _ _ (by push_cast; rfl) (by have := HO.out; unfold W64; omega)
                  have HW1 := Lib.hid hw1
                  clear ho hw1
                  rcases hcu : decide (4294967296 ≤ u) with _ | _
                  · have c1 := HF.out.1
                    rw [hcu] at c1
                    have hu9 : u < 4294967296 := by have := of_decide_eq_false hcu; omega
                    have c2 := HF.out.2.2 hu9
                    rw [decide_eq_true (hc.resolve_left (by omega))] at c2
                    clear hcu hu9 hc
                    go_wp2_with fail
                    rw [pred_word u HN.out.1 HU.out, HW1.out]
                    exact ⟨⟨u - 1, v + p, rfl, rfl, by have := HU.out; omega, by have := HO.out; omega, HN.out.2⟩, by have := HN.out.1; simp [intOf]; omega⟩
                  · have c1 := HF.out.1
                    rw [hcu] at c1
                    clear hcu hc
                    go_wp2_with fail
                    rw [pred_word u HN.out.1 HU.out, HW1.out]
                    exact ⟨⟨u - 1, v + p, rfl, rfl, by have := HU.out; omega, by have := HO.out; omega, HN.out.2⟩, by have := HN.out.1; simp [intOf]; omega⟩
              · have hu9 : u < 4294967296 := by omega
                have c1 := HF.out.1
                rw [decide_eq_false (show ¬ 4294967296 ≤ u by omega)] at c1
                have c2 := HF.out.2.2 hu9
                rw [decide_eq_false (fun h => hc (.inr h))] at c2
                have HO := Lib.hid (Guess.done H4.out HG.out (Nat.le_of_not_lt fun h => hc (.inr h)))
                clear hu9 hc
                go_wp2_with fail
                obtain ⟨k2, hk2⟩ : ∃ k2, k2 = u := ⟨_, rfl⟩
                have HK2 : k2 = (r1 * H32 + d0) / Y := by rw [hk2, HO.out, H6.out]
                rw [← hk2]
                have hY0 : 0 < Y := by have h5 := H6.out; have h6 := H8.out; have h7 : p * 1 ≤ p * H32 := Nat.mul_le_mul_left _ (by decide); omega
                have hlow := low_word (a := r1) (d := d0) (q := k2) (Y := Y) HC.out (by rw [HK2]; exact div_eqn _ _) (Nat.lt_trans (Nat.mod_lt _ hY0) H10.out)
                have hq : IntKind.u64.wrap (IntKind.u64.wrap ((k : Int) * C) + (k2 : Int)) = (((hi * W64 + lo) / y : Nat) : Int) := quo_says HC.out (by rw [HK2]; exact HEE.out.1) HQW.out
                have hr : (((r1 * H32 + d0) % Y : Nat) : Int) / 2 ^ min s 64 = (((hi * W64 + lo) % y : Nat) : Int) := by rw [Nat.min_eq_left HS64.out, ← HEE.out.2, Int.natCast_ediv, Int.natCast_pow]; rfl
                go_ret2
                refine ⟨ret_ii ?_ ?_, 0, rfl⟩
                · exact hq
                · rw [hlow]; exact hr
          · have c1 := HF.out.1
            rw [hcu] at c1
            clear hcu hc
            go_wp2_with fail
            simp only [pred_word u HN.out.1 HU.out]
            obtain ⟨k, hk⟩ : ∃ k, k = (u - 1) := ⟨_, rfl⟩
            have HK : Hid (k = (a * H32 + d1) / Y) := by show k = _; rw [hk, HO.out, H6.out]
            rw [← hk]
            clear hk HO HG HU HV HF HN c3 c1
            try clear c2
            have hY0 : 0 < Y := by have h5 := H6.out; have h6 := H8.out; have h7 : p * 1 ≤ p * H32 := Nat.mul_le_mul_left _ (by decide); omega
            have hrY : (a * H32 + d1) % Y < Y := Nat.mod_lt _ hY0
            have hlow := low_word (a := a) (d := d1) (q := k) (Y := Y) HC.out (by rw [HK.out]; exact div_eqn _ _) (Nat.lt_trans hrY H10.out)
            have hr1W : (a * H32 + d1) % Y < W64 := Nat.lt_trans hrY H10.out
            simp only [hlow, quo_word _ _ hr1W, rem_word _ _ hr1W]
            have HE := H5.out
            rw [← HK.out] at HE
            generalize hr1 : (a * H32 + d1) % Y = r1 at *
            have HH1 : Hid (r1 < p * H32 + l) := by show r1 < _; rw [H6.out]; exact hrY
            have HEE := Lib.hid HE
            have HRW := Lib.hid hr1W
            clear hlow hrY hr1 HE hY0 hr1W
            have HG0 := Lib.hid (Guess.first r1 d0 p l H4.out H9.out)
            have hq0 : r1 / p ≤ 8589934592 := by
              have h1 : r1 / p < 8589934593 := by rw [Nat.div_lt_iff_lt_mul H4.out]; have h2 := HRW.out; have h3 := H8.out; unfold W64 at h2; omega
              omega
            have hr0 : r1 % p < 4294967296 := Nat.lt_trans (Nat.mod_lt _ H4.out) H7.out
            go_loop [18, 16] (fun q r => ∃ u v : Nat, q = U u ∧ r = U v ∧ u ≤ 8589934592 ∧ v < 4294967296 ∧ Hid (Guess r1 d0 p l u v)) (fun q _ => (intOf q).toNat)
            case atStart => exact ⟨r1 / p, r1 % p, rfl, rfl, hq0, hr0, HG0.out⟩
            case round =>
              obtain ⟨u, v, rfl, rfl, hu, hv, HG⟩ := hrel
              clear HG0 hq0 hr0
              have HF := Lib.hid (step_facts (d := d0) (p := p) (l := l) (u := u) (v := v) HC.out hv H7.out H3.out H9.out)
              have HU := Lib.hid hu
              have HV := Lib.hid hv
              clear hu hv
              by_cases hc : 4294967296 ≤ u ∨ H32 * v + d0 < u * l
              · have HN := Lib.hid (Guess.more HH1.out H9.out H4.out HG.out (by unfold H32 at hc ⊢; exact hc))
                by_cases ho : 4294967296 ≤ v + p
                · have c3 := HF.out.2.1
                  rw [decide_eq_true ho] at c3
                  have HO := Lib.hid (Guess.out HH1.out H4.out H3.out HN.out.2 (by unfold H32; exact ho))
                  clear ho
                  rcases hcu : decide (4294967296 ≤ u) with _ | _
                  · have c1 := HF.out.1
                    rw [hcu] at c1
                    have hu9 : u < 4294967296 := by have := of_decide_eq_false hcu; omega
                    have c2 := HF.out.2.2 hu9
                    rw [decide_eq_true (hc.resolve_left (by omega))] at c2
                    clear hcu hu9 hc
                    go_wp2_with fail
                    simp only [pred_word u HN.out.1 HU.out]
                    obtain ⟨k2, hk2⟩ : ∃ k2, k2 = (u - 1) := ⟨_, rfl⟩
                    have HK2 : k2 = (r1 * H32 + d0) / Y := by rw [hk2, HO.out, H6.out]
                    rw [← hk2]
                    have hY0 : 0 < Y := by have h5 := H6.out; have h6 := H8.out; have h7 : p * 1 ≤ p * H32 := Nat.mul_le_mul_left _ (by decide); omega
                    have hlow := low_word (a := r1) (d := d0) (q := k2) (Y := Y) HC.out (by rw [HK2]; exact div_eqn _ _) (Nat.lt_trans (Nat.mod_lt _ hY0) H10.out)
                    have hq : IntKind.u64.wrap (IntKind.u64.wrap ((k : Int) * C) + (k2 : Int)) = (((hi * W64 + lo) / y : Nat) : Int) := quo_says HC.out (by rw [HK2]; exact HEE.out.1) HQW.out
                    have hr : (((r1 * H32 + d0) % Y : Nat) : Int) / 2 ^ min s 64 = (((hi * W64 + lo) % y : Nat) : Int) := by rw [Nat.min_eq_left HS64.out, ← HEE.out.2, Int.natCast_ediv, Int.natCast_pow]; rfl
                    go_ret2
                    refine ⟨ret_ii ?_ ?_, 0, rfl⟩
                    · exact hq
                    · rw [hlow]; exact hr
                  · have c1 := HF.out.1
                    rw [hcu] at c1
                    clear hcu hc
                    go_wp2_with fail
                    simp only [pred_word u HN.out.1 HU.out]
                    obtain ⟨k2, hk2⟩ : ∃ k2, k2 = (u - 1) := ⟨_, rfl⟩
                    have HK2 : k2 = (r1 * H32 + d0) / Y := by rw [hk2, HO.out, H6.out]
                    rw [← hk2]
                    have hY0 : 0 < Y := by have h5 := H6.out; have h6 := H8.out; have h7 : p * 1 ≤ p * H32 := Nat.mul_le_mul_left _ (by decide); omega
                    have hlow := low_word (a := r1) (d := d0) (q := k2) (Y := Y) HC.out (by rw [HK2]; exact div_eqn _ _) (Nat.lt_trans (Nat.mod_lt _ hY0) H10.out)
                    have hq : IntKind.u64.wrap (IntKind.u64.wrap ((k : Int) * C) + (k2 : Int)) = (((hi * W64 + lo) / y : Nat) : Int) := quo_says HC.out (by rw [HK2]; exact HEE.out.1) HQW.out
                    have hr : (((r1 * H32 + d0) % Y : Nat) : Int) / 2 ^ min s 64 = (((hi * W64 + lo) % y : Nat) : Int) := by rw [Nat.min_eq_left HS64.out, ← HEE.out.2, Int.natCast_ediv, Int.natCast_pow]; rfl
                    go_ret2
                    refine ⟨ret_ii ?_ ?_, 0, rfl⟩
                    · exact hq
                    · rw [hlow]; exact hr
                · have c3 := HF.out.2.1
                  rw [decide_eq_false ho] at c3
                  have HO := Lib.hid ho
                  have hw1 : IntKind.u64.wrap ((v : Int) + (p : Int)) = ((v + p : Nat) : Int) := wrapN _ _ (by push_cast; rfl) (by have := HO.out; unfold W64; omega)
                  have HW1 := Lib.hid hw1
                  clear ho hw1
                  rcases hcu : decide (4294967296 ≤ u) with _ | _
                  · have c1 := HF.out.1
                    rw [hcu] at c1
                    have hu9 : u < 4294967296 := by have := of_decide_eq_false hcu; omega
                    have c2 := HF.out.2.2 hu9
                    rw [decide_eq_true (hc.resolve_left (by omega))] at c2
                    clear hcu hu9 hc
                    go_wp2_with fail
                    rw [pred_word u HN.out.1 HU.out, HW1.out]
                    exact ⟨⟨u - 1, v + p, rfl, rfl, by have := HU.out; omega, by have := HO.out; omega, HN.out.2⟩, by have := HN.out.1; simp [intOf]; omega⟩
                  · have c1 := HF.out.1
                    rw [hcu] at c1
                    clear hcu hc
                    go_wp2_with fail
                    rw [pred_word u HN.out.1 HU.out, HW1.out]
                    exact ⟨⟨u - 1, v + p, rfl, rfl, by have := HU.out; omega, by have := HO.out; omega, HN.out.2⟩, by have := HN.out.1; simp [intOf]; omega⟩
              · have hu9 : u < 4294967296 := by omega
                have c1 := HF.out.1
                rw [decide_eq_false (show ¬ 4294967296 ≤ u by omega)] at c1
                have c2 := HF.out.2.2 hu9
                rw [decide_eq_false (fun h => hc (.inr h))] at c2
                have HO := Lib.hid (Guess.done H4.out HG.out (Nat.le_of_not_lt fun h => hc (.inr h)))
                clear hu9 hc
                go_wp2_with fail
                obtain ⟨k2, hk2⟩ : ∃ k2, k2 = u := ⟨_, rfl⟩
                have HK2 : k2 = (r1 * H32 + d0) / Y := by rw [hk2, HO.out, H6.out]
                rw [← hk2]
                have hY0 : 0 < Y := by have h5 := H6.out; have h6 := H8.out; have h7 : p * 1 ≤ p * H32 := Nat.mul_le_mul_left _ (by decide); omega
                have hlow := low_word (a := r1) (d := d0) (q := k2) (Y := Y) HC.out (by rw [HK2]; exact div_eqn _ _) (Nat.lt_trans (Nat.mod_lt _ hY0) H10.out)
                have hq : IntKind.u64.wrap (IntKind.u64.wrap ((k : Int) * C) + (k2 : Int)) = (((hi * W64 + lo) / y : Nat) : Int) := quo_says HC.out (by rw [HK2]; exact HEE.out.1) HQW.out
                have hr : (((r1 * H32 + d0) % Y : Nat) : Int) / 2 ^ min s 64 = (((hi * W64 + lo) % y : Nat) : Int) := by rw [Nat.min_eq_left HS64.out, ← HEE.out.2, Int.natCast_ediv, Int.natCast_pow]; rfl
                go_ret2
                refine ⟨ret_ii ?_ ?_, 0, rfl⟩
                · exact hq
                · rw [hlow]; exact hr
        · have c3 := HF.out.2.1
          rw [decide_eq_false ho] at c3
          have HO := Lib.hid ho
          have hw1 : IntKind.u64.wrap ((v : Int) + (p : Int)) = ((v + p : Nat) : Int) := wrapN _ _ (by push_cast; rfl) (by have := HO.out; unfold W64; omega)
          have HW1 := Lib.hid hw1
          clear ho hw1
          rcases hcu : decide (4294967296 ≤ u) with _ | _
          · have c1 := HF.out.1
            rw [hcu] at c1
            have hu9 : u < 4294967296 := by have := of_decide_eq_false hcu; omega
            have c2 := HF.out.2.2 hu9
            rw [decide_eq_true (hc.resolve_left (by omega))] at c2
            clear hcu hu9 hc
            go_wp2_with fail
            rw [pred_word u HN.out.1 HU.out, HW1.out]
            exact ⟨⟨u - 1, v + p, rfl, rfl, by have := HU.out; omega, by have := HO.out; omega, HN.out.2⟩, by have := HN.out.1; simp [intOf]; omega⟩
          · have c1 := HF.out.1
            rw [hcu] at c1
            clear hcu hc
            go_wp2_with fail
            rw [pred_word u HN.out.1 HU.out, HW1.out]
            exact ⟨⟨u - 1, v + p, rfl, rfl, by have := HU.out; omega, by have := HO.out; omega, HN.out.2⟩, by have := HN.out.1; simp [intOf]; omega⟩
      · have hu9 : u < 4294967296 := by omega
        have c1 := HF.out.1
        rw [decide_eq_false (show ¬ 4294967296 ≤ u by omega)] at c1
        have c2 := HF.out.2.2 hu9
        rw [decide_eq_false (fun h => hc (.inr h))] at c2
        have HO := Lib.hid (Guess.done H4.out HG.out (Nat.le_of_not_lt fun h => hc (.inr h)))
        clear hu9 hc
        go_wp2_with fail
        obtain ⟨k, hk⟩ : ∃ k, k = u := ⟨_, rfl⟩
        have HK : Hid (k = (a * H32 + d1) / Y) := by show k = _; rw [hk, HO.out, H6.out]
        rw [← hk]
        clear hk HO HG HU HV HF c1
        try clear c2
        have hY0 : 0 < Y := by have h5 := H6.out; have h6 := H8.out; have h7 : p * 1 ≤ p * H32 := Nat.mul_le_mul_left _ (by decide); omega
        have hrY : (a * H32 + d1) % Y < Y := Nat.mod_lt _ hY0
        have hlow := low_word (a := a) (d := d1) (q := k) (Y := Y) HC.out (by rw [HK.out]; exact div_eqn _ _) (Nat.lt_trans hrY H10.out)
        have hr1W : (a * H32 + d1) % Y < W64 := Nat.lt_trans hrY H10.out
        simp only [hlow, quo_word _ _ hr1W, rem_word _ _ hr1W]
        have HE := H5.out
        rw [← HK.out] at HE
        generalize hr1 : (a * H32 + d1) % Y = r1 at *
        have HH1 : Hid (r1 < p * H32 + l) := by show r1 < _; rw [H6.out]; exact hrY
        have HEE := Lib.hid HE
        have HRW := Lib.hid hr1W
        clear hlow hrY hr1 HE hY0 hr1W
        have HG0 := Lib.hid (Guess.first r1 d0 p l H4.out H9.out)
        have hq0 : r1 / p ≤ 8589934592 := by
          have h1 : r1 / p < 8589934593 := by rw [Nat.div_lt_iff_lt_mul H4.out]; have h2 := HRW.out; have h3 := H8.out; unfold W64 at h2; omega
          omega
        have hr0 : r1 % p < 4294967296 := Nat.lt_trans (Nat.mod_lt _ H4.out) H7.out
        go_loop [18, 16] (fun q r => ∃ u v : Nat, q = U u ∧ r = U v ∧ u ≤ 8589934592 ∧ v < 4294967296 ∧ Hid (Guess r1 d0 p l u v)) (fun q _ => (intOf q).toNat)
        case atStart => exact ⟨r1 / p, r1 % p, rfl, rfl, hq0, hr0, HG0.out⟩
        case round =>
          obtain ⟨u, v, rfl, rfl, hu, hv, HG⟩ := hrel
          clear HG0 hq0 hr0
          have HF := Lib.hid (step_facts (d := d0) (p := p) (l := l) (u := u) (v := v) HC.out hv H7.out H3.out H9.out)
          have HU := Lib.hid hu
          have HV := Lib.hid hv
          clear hu hv
          by_cases hc : 4294967296 ≤ u ∨ H32 * v + d0 < u * l
          · have HN := Lib.hid (Guess.more HH1.out H9.out H4.out HG.out (by unfold H32 at hc ⊢; exact hc))
            by_cases ho : 4294967296 ≤ v + p
            · have c3 := HF.out.2.1
              rw [decide_eq_true ho] at c3
              have HO := Lib.hid (Guess.out HH1.out H4.out H3.out HN.out.2 (by unfold H32; exact ho))
              clear ho
              rcases hcu : decide (4294967296 ≤ u) with _ | _
              · have c1 := HF.out.1
                rw [hcu] at c1
                have hu9 : u < 4294967296 := by have := of_decide_eq_false hcu; omega
                have c2 := HF.out.2.2 hu9
                rw [decide_eq_true (hc.resolve_left (by omega))] at c2
                clear hcu hu9 hc
                go_wp2_with fail
                simp only [pred_word u HN.out.1 HU.out]
                obtain ⟨k2, hk2⟩ : ∃ k2, k2 = (u - 1) := ⟨_, rfl⟩
                have HK2 : k2 = (r1 * H32 + d0) / Y := by rw [hk2, HO.out, H6.out]
                rw [← hk2]
                have hY0 : 0 < Y := by have h5 := H6.out; have h6 := H8.out; have h7 : p * 1 ≤ p * H32 := Nat.mul_le_mul_left _ (by decide); omega
                have hlow := low_word (a := r1) (d := d0) (q := k2) (Y := Y) HC.out (by rw [HK2]; exact div_eqn _ _) (Nat.lt_trans (Nat.mod_lt _ hY0) H10.out)
                have hq : IntKind.u64.wrap (IntKind.u64.wrap ((k : Int) * C) + (k2 : Int)) = (((hi * W64 + lo) / y : Nat) : Int) := quo_says HC.out (by rw [HK2]; exact HEE.out.1) HQW.out
                have hr : (((r1 * H32 + d0) % Y : Nat) : Int) / 2 ^ min s 64 = (((hi * W64 + lo) % y : Nat) : Int) := by rw [Nat.min_eq_left HS64.out, ← HEE.out.2, Int.natCast_ediv, Int.natCast_pow]; rfl
                go_ret2
                refine ⟨ret_ii ?_ ?_, 0, rfl⟩
                · exact hq
                · rw [hlow]; exact hr
              · have c1 := HF.out.1
                rw [hcu] at c1
                clear hcu hc
                go_wp2_with fail
                simp only [pred_word u HN.out.1 HU.out]
                obtain ⟨k2, hk2⟩ : ∃ k2, k2 = (u - 1) := ⟨_, rfl⟩
                have HK2 : k2 = (r1 * H32 + d0) / Y := by rw [hk2, HO.out, H6.out]
                rw [← hk2]
                have hY0 : 0 < Y := by have h5 := H6.out; have h6 := H8.out; have h7 : p * 1 ≤ p * H32 := Nat.mul_le_mul_left _ (by decide); omega
                have hlow := low_word (a := r1) (d := d0) (q := k2) (Y := Y) HC.out (by rw [HK2]; exact div_eqn _ _) (Nat.lt_trans (Nat.mod_lt _ hY0) H10.out)
                have hq : IntKind.u64.wrap (IntKind.u64.wrap ((k : Int) * C) + (k2 : Int)) = (((hi * W64 + lo) / y : Nat) : Int) := quo_says HC.out (by rw [HK2]; exact HEE.out.1) HQW.out
                have hr : (((r1 * H32 + d0) % Y : Nat) : Int) / 2 ^ min s 64 = (((hi * W64 + lo) % y : Nat) : Int) := by rw [Nat.min_eq_left HS64.out, ← HEE.out.2, Int.natCast_ediv, Int.natCast_pow]; rfl
                go_ret2
                refine ⟨ret_ii ?_ ?_, 0, rfl⟩
                · exact hq
                · rw [hlow]; exact hr
            · have c3 := HF.out.2.1
              rw [decide_eq_false ho] at c3
              have HO := Lib.hid ho
              have hw1 : IntKind.u64.wrap ((v : Int) + (p : Int)) = ((v + p : Nat) : Int) := wrapN _ _ (by push_cast; rfl) (by have := HO.out; unfold W64; omega)
              have HW1 := Lib.hid hw1
              clear ho hw1
              rcases hcu : decide (4294967296 ≤ u) with _ | _
              · have c1 := HF.out.1
                rw [hcu] at c1
                have hu9 : u < 4294967296 := by have := of_decide_eq_false hcu; omega
                have c2 := HF.out.2.2 hu9
                rw [decide_eq_true (hc.resolve_left (by omega))] at c2
                clear hcu hu9 hc
                go_wp2_with fail
                rw [pred_word u HN.out.1 HU.out, HW1.out]
                exact ⟨⟨u - 1, v + p, rfl, rfl, by have := HU.out; omega, by have := HO.out; omega, HN.out.2⟩, by have := HN.out.1; simp [intOf]; omega⟩
              · have c1 := HF.out.1
                rw [hcu] at c1
                clear hcu hc
                go_wp2_with fail
                rw [pred_word u HN.out.1 HU.out, HW1.out]
                exact ⟨⟨u - 1, v + p, rfl, rfl, by have := HU.out; omega, by have := HO.out; omega, HN.out.2⟩, by have := HN.out.1; simp [intOf]; omega⟩
          · have hu9 : u < 4294967296 := by omega
            have c1 := HF.out.1
            rw [decide_eq_false (show ¬ 4294967296 ≤ u by omega)] at c1
            have c2 := HF.out.2.2 hu9
            rw [decide_eq_false (fun h => hc (.inr h))] at c2
            have HO := Lib.hid (Guess.done H4.out HG.out (Nat.le_of_not_lt fun h => hc (.inr h)))
            clear hu9 hc
            go_wp2_with fail
            obtain ⟨k2, hk2⟩ : ∃ k2, k2 = u := ⟨_, rfl⟩
            have HK2 : k2 = (r1 * H32 + d0) / Y := by rw [hk2, HO.out, H6.out]
            rw [← hk2]
            have hY0 : 0 < Y := by have h5 := H6.out; have h6 := H8.out; have h7 : p * 1 ≤ p * H32 := Nat.mul_le_mul_left _ (by decide); omega
            have hlow := low_word (a := r1) (d := d0) (q := k2) (Y := Y) HC.out (by rw [HK2]; exact div_eqn _ _) (Nat.lt_trans (Nat.mod_lt _ hY0) H10.out)
            have hq : IntKind.u64.wrap (IntKind.u64.wrap ((k : Int) * C) + (k2 : Int)) = (((hi * W64 + lo) / y : Nat) : Int) := quo_says HC.out (by rw [HK2]; exact HEE.out.1) HQW.out
            have hr : (((r1 * H32 + d0) % Y : Nat) : Int) / 2 ^ min s 64 = (((hi * W64 + lo) % y : Nat) : Int) := by rw [Nat.min_eq_left HS64.out, ← HEE.out.2, Int.natCast_ediv, Int.natCast_pow]; rfl
            go_ret2
            refine ⟨ret_ii ?_ ?_, 0, rfl⟩
            · exact hq
            · rw [hlow]; exact hr

/-- Div64, whatever it divides. -/
theorem div_all (hi lo y : Nat) (hlo : lo < W64) (hy : y < W64) (hh : hi < y) : DivSays hi lo y := by
  rcases Nat.eq_zero_or_pos hi with e | e
  · subst e; exact div_small lo y hlo hh
  · exact div_any hi lo y hlo hy hh e
theorem divAll_word (x y n : Nat) (hy : 0 < y) (hyW : y < W64) : DivAll x y n := fun k _ => div_all _ _ _ (dig_lt x k) hyW (Nat.mod_lt _ hy)
end Go.Proofs.YtogmbehomilalaaGreatDoor
end

/- Guessing a word of a quotient: the arithmetic, and what the call returns. -/
section
namespace Go.Proofs.YtogmbehomilalaaGreatDoor
open Go.RowKit Go.Deep

/-- q is a guess of (a W + d) / (p W + l), or of the greatest word, not too small; r is what a leaves. -/
structure GuessW (a d p l q r : Nat) : Prop where
  eq : a = q * p + r
  ge : min ((a * W64 + d) / (p * W64 + l)) (W64 - 1) ≤ q
  le : q ≤ W64 - 1
theorem GuessW.done {a d p l q r : Nat} (hp : 0 < p) (g : GuessW a d p l q r) (hc : q * l ≤ W64 * r + d) : q = min ((a * W64 + d) / (p * W64 + l)) (W64 - 1) := by
  refine Nat.le_antisymm ?_ g.ge
  have hY : 0 < p * W64 + l := by have := Nat.mul_pos hp W64_pos; omega
  refine Nat.le_min.2 ⟨?_, g.le⟩
  rw [Nat.le_div_iff_mul_le hY]
  have e1 : a * W64 = q * (p * W64) + W64 * r := by rw [g.eq, Nat.add_mul, Nat.mul_assoc, Nat.mul_comm r]
  have e2 : q * (p * W64 + l) = q * (p * W64) + q * l := Nat.mul_add ..
  omega
theorem GuessW.more {a d p l q r : Nat} (hp : 0 < p) (g : GuessW a d p l q r) (hc : W64 * r + d < q * l) : 0 < q ∧ GuessW a d p l (q - 1) (r + p) := by
  have hq : 0 < q := Nat.pos_of_ne_zero fun e => by subst e; simp at hc
  have hY : 0 < p * W64 + l := by have := Nat.mul_pos hp W64_pos; omega
  refine ⟨hq, ?_, ?_, by have := g.le; omega⟩
  · obtain ⟨k, rfl⟩ : ∃ k, q = k + 1 := ⟨q - 1, by omega⟩
    have := g.eq
    rw [Nat.succ_mul] at this
    simp only [Nat.add_sub_cancel]
    omega
  · have key : (a * W64 + d) / (p * W64 + l) < q := by
      rw [Nat.div_lt_iff_lt_mul hY]
      have e1 : a * W64 = q * (p * W64) + W64 * r := by rw [g.eq, Nat.add_mul, Nat.mul_assoc, Nat.mul_comm r]
      have e2 : q * (p * W64 + l) = q * (p * W64) + q * l := Nat.mul_add ..
      omega
    have := Nat.min_le_left ((a * W64 + d) / (p * W64 + l)) (W64 - 1)
    omega
theorem GuessW.out {a d p l q r : Nat} (hp : 0 < p) (hl : l < W64) (g : GuessW a d p l q r) (hr : W64 ≤ r) : q = min ((a * W64 + d) / (p * W64 + l)) (W64 - 1) := by
  refine g.done hp ?_
  have h1 : q * l ≤ W64 * l := Nat.mul_le_mul_right _ (by have := g.le; omega)
  have h2 : W64 * l ≤ W64 * r := Nat.mul_le_mul_left _ (by omega)
  omega
theorem GuessW.first (a2 a1 d p l : Nat) (hp : 0 < p) (h1 : a1 < W64) (hd : d < W64) (h2 : a2 < p) : GuessW (a2 * W64 + a1) d p l ((a2 * W64 + a1) / p) ((a2 * W64 + a1) % p) := by
  refine ⟨div_eqn _ _, ?_, ?_⟩
  · generalize a2 * W64 + a1 = a
    have h3 : (a * W64 + d) / (p * W64 + l) ≤ (a * W64 + d) / (p * W64) := Nat.div_le_div_left (by omega) (Nat.mul_pos hp W64_pos)
    have h4 : (a * W64 + d) / (p * W64) = a / p := by
      rw [Nat.mul_comm p, ← Nat.div_div_eq_div_mul, Nat.mul_comm a, Nat.mul_add_div W64_pos, Nat.div_eq_of_lt hd, Nat.add_zero]
    have := Nat.min_le_left ((a * W64 + d) / (p * W64 + l)) (W64 - 1)
    omega
  · have : (a2 * W64 + a1) / p < W64 := by
      rw [Nat.div_lt_iff_lt_mul hp]
      have h5 : (a2 + 1) * W64 ≤ p * W64 := Nat.mul_le_mul_right _ h2
      rw [Nat.succ_mul] at h5
      rw [Nat.mul_comm W64]; omega
    omega
theorem GuessW.top (a1 d p l : Nat) : GuessW (p * W64 + a1) d p l (W64 - 1) (a1 + p) := by
  refine ⟨?_, Nat.min_le_right _ _, Nat.le_refl _⟩
  have : p * W64 = (W64 - 1) * p + p := by rw [Nat.mul_comm p, ← Nat.succ_mul]; rfl
  omega
end Go.Proofs.YtogmbehomilalaaGreatDoor
end

/- Shifting a natural number to the left in new memory: what the call returns. -/
section
namespace Go.Proofs.YtogmbehomilalaaGreatDoor
open Go.RowKit Go.Deep

end Go.Proofs.YtogmbehomilalaaGreatDoor
end

/- Subtracting a natural number times a word in place: what the call leaves. -/
section
namespace Go.Proofs.YtogmbehomilalaaGreatDoor
open Go.RowKit Go.Deep

end Go.Proofs.YtogmbehomilalaaGreatDoor
end

/- Products added to, and subtracted from, a part of a row in place: no other block changes. -/
section
namespace Go.Proofs.YtogmbehomilalaaGreatDoor
open Go.RowKit Go.Deep

/-- No block but b has changed. -/
def Apart (b : Nat) (w w' : World) : Prop := ∀ k, k ≠ b → w'.heap[k]? = w.heap[k]?
theorem Apart.refl (b : Nat) (w : World) : Apart b w w := fun _ _ => rfl
theorem Apart.setCell {b : Nat} {w w' : World} (h : Apart b w w') (o : Nat) (v : Value) : Apart b w (w'.setCell ⟨b, o, none⟩ v) := fun k hk => (Below.heap_setCell _ _ _ _ hk).trans (h k hk)
theorem Apart.row {b c t n : Nat} {w w' : World} {F : Nat → Value} (h : Apart b w w') (hne : c ≠ b) (hr : w.rowIs c t n F) : w'.rowIs c t n F := by
  obtain ⟨cur, h1, h2⟩ := hr
  exact ⟨cur, (h c hne).trans h1, h2⟩
theorem Apart.drewN {b : Nat} {w w' : World} (h : Apart b w w') (n : Nat) : Apart b w (w'.drewN n) := h
theorem Apart.trans {b : Nat} {w w' w'' : World} (h : Apart b w w') (h' : Apart b w' w'') : Apart b w w'' := fun k hk => (h' k hk).trans (h k hk)

end Go.Proofs.YtogmbehomilalaaGreatDoor
end

/- Shifting a natural number to the right: what the call returns. -/
section
namespace Go.Proofs.YtogmbehomilalaaGreatDoor
open Go.RowKit Go.Deep

end Go.Proofs.YtogmbehomilalaaGreatDoor
end

/- Shifting a natural number to the right in new memory: what the call returns. -/
section
namespace Go.Proofs.YtogmbehomilalaaGreatDoor
open Go.RowKit Go.Deep

end Go.Proofs.YtogmbehomilalaaGreatDoor
end

/- Plain numbers: long division word by word. No condition. -/
section
namespace Go.Proofs.YtogmbehomilalaaGreatDoor

end Go.Proofs.YtogmbehomilalaaGreatDoor
end

/- The difference of two natural numbers times words: what the call returns. -/
section
namespace Go.Proofs.YtogmbehomilalaaGreatDoor
open Go.RowKit Go.Deep

end Go.Proofs.YtogmbehomilalaaGreatDoor
end

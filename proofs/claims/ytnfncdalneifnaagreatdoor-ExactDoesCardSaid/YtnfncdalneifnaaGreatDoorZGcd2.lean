/- Long division of natural numbers: what the call returns. -/
import Derived.Test.YtnfncdalneifnaaGreatDoorZProd2
import Derived.Test.YtnfncdalneifnaaGreatDoorZShf
import Derived.Test.YtnfncdalneifnaaGreatDoorZDif
import Derived.Test.YtnfncdalneifnaaGreatDoorZGcd
import Derived.Deep.RegionWith
import Derived.Test.YtnfncdalneifnaaGreatDoorZDivG

/- Long division of natural numbers: what the call returns. -/
section
namespace Go.Proofs.YtnfncdalneifnaaGreatDoor
open Go.RowKit Go.Deep

/-- How far a word is shifted until its highest bit is 1. -/
theorem lz_shift (t : Nat) (h0 : 0 < t) (h1 : t < W64) : ∃ s : Nat, s < 64 ∧ 64 - (Lib.bitLen t : Int) = (s : Int) ∧ t < 2 ^ (64 - s) ∧ 9223372036854775808 ≤ t * 2 ^ s := by
  have hb := bitLenAux_spec 64 t (by rw [pow_64]; exact h1)
  have hb64 : Lib.bitLen t ≤ 64 := Lib.bitLen_le t 64 (by omega) (by unfold W64 at h1; omega)
  rw [show Lib.bitLenAux 64 t = Lib.bitLen t from rfl] at hb
  obtain ⟨h2, h3⟩ := hb
  obtain ⟨h4, h5⟩ := h3 (by omega)
  generalize Lib.bitLen t = L at *
  refine ⟨64 - L, by omega, by omega, by rw [show 64 - (64 - L) = L by omega]; exact h2, ?_⟩
  have e : 2 ^ (L - 1) * 2 ^ (64 - L) = 9223372036854775808 := by rw [← Nat.pow_add, show L - 1 + (64 - L) = 63 by omega]
  rw [← e]
  exact Nat.mul_le_mul_right _ h4
theorem c_lz (w : World) (t s : Nat) (h1 : t < W64) (hs : 64 - (Lib.bitLen t : Int) = (s : Int)) : Calls Tryz.prog 148 #[U t] w fun e w' => e = .returned (.int .i64 s) ∧ w' = w := by
  have := Tryz.bits_LeadingZeros64 t w (by omega) (by unfold W64 at h1; omega)
  rw [show (t : Int).toNat = t from Int.toNat_natCast t, hs] at this
  exact this
/-- The divisor shifted. -/
theorem shl_divisor (y n s : Nat) (hy : nw y = n + 1) (hs : s < 64) (h2 : dig y n < 2 ^ (64 - s)) (h3 : 9223372036854775808 ≤ dig y n * 2 ^ s) :
    y * 2 ^ s < W64 ^ (n + 1) ∧ 9223372036854775808 * W64 ^ n ≤ y * 2 ^ s := by
  have hlt := lt_nw y
  rw [hy] at hlt
  have ht : dig y n = y / W64 ^ n := by
    unfold dig
    rw [Nat.mod_eq_of_lt]
    rw [Nat.div_lt_iff_lt_mul (W64_pow_pos _), ← Nat.pow_succ']
    exact hlt
  rw [ht] at h2 h3
  have hp : 0 < 2 ^ s := Nat.pow_pos (by decide)
  have hW : W64 = 2 ^ (64 - s) * 2 ^ s := by rw [← Nat.pow_add, show 64 - s + s = 64 by omega]; rfl
  constructor
  · have h4 : y < 2 ^ (64 - s) * W64 ^ n := by rwa [← Nat.div_lt_iff_lt_mul (W64_pow_pos _)]
    have h5 := Nat.mul_lt_mul_of_pos_right h4 hp
    rw [Nat.mul_right_comm, ← hW, ← Nat.pow_succ'] at h5
    exact h5
  · have h6 : y / W64 ^ n * W64 ^ n ≤ y := Nat.div_mul_le_self _ _
    calc 9223372036854775808 * W64 ^ n ≤ y / W64 ^ n * 2 ^ s * W64 ^ n := Nat.mul_le_mul_right _ h3
      _ = y / W64 ^ n * W64 ^ n * 2 ^ s := Nat.mul_right_comm _ _ _
      _ ≤ y * 2 ^ s := Nat.mul_le_mul_right _ h6
/-- The guess of a word of the quotient, by the words of what is left. -/
theorem guess_facts (R D k n : Nat) (hn : 2 ≤ n) (hR : R < D * W64 ^ (k + 1)) (hD1 : D < W64 ^ n) (hD2 : 9223372036854775808 * W64 ^ (n - 1) ≤ D) :
    R < W64 ^ (k + (n + 1)) ∧ R / W64 ^ k < D * W64 ∧ dig R (k + n) ≤ dig D (n - 1) ∧ 9223372036854775808 ≤ dig D (n - 1) ∧
    R / W64 ^ k / D ≤ min (((dig R (k + n) * W64 + dig R (k + (n - 1))) * W64 + dig R (k + (n - 2))) / (dig D (n - 1) * W64 + dig D (n - 2))) (W64 - 1) ∧
    min (((dig R (k + n) * W64 + dig R (k + (n - 1))) * W64 + dig R (k + (n - 2))) / (dig D (n - 1) * W64 + dig D (n - 2))) (W64 - 1) ≤ R / W64 ^ k / D + 1 := by
  obtain ⟨e, rfl⟩ : ∃ e, n = e + 2 := ⟨n - 2, by omega⟩
  simp only [show e + 2 - 1 = e + 1 from rfl, show e + 2 - 2 = e from rfl] at *
  have hR1 : R < W64 ^ (k + (e + 3)) := by
    refine Nat.lt_of_lt_of_le hR ?_
    rw [show k + (e + 3) = (e + 2) + (k + 1) by omega, Nat.pow_add W64 (e + 2)]
    exact Nat.mul_le_mul_right _ (Nat.le_of_lt hD1)
  have hP : R / W64 ^ k < D * W64 := by
    rw [Nat.div_lt_iff_lt_mul (W64_pow_pos k), Nat.mul_assoc, ← Nat.pow_succ']
    exact hR
  have e3 := three_words R (k + e) (by rw [show k + e + 3 = k + (e + 3) by omega]; exact hR1)
  have e2 := two_words D e hD1
  have hd1 : dig D (e + 1) = D / W64 ^ (e + 1) := by
    unfold dig
    rw [Nat.mod_eq_of_lt]
    rw [Nat.div_lt_iff_lt_mul (W64_pow_pos _), ← Nat.pow_succ']
    exact hD1
  have hp : 9223372036854775808 ≤ dig D (e + 1) := by
    rw [hd1, Nat.le_div_iff_mul_le (W64_pow_pos _)]
    exact hD2
  have ha : dig R (k + (e + 2)) ≤ dig D (e + 1) := by
    have h1 : dig R (k + (e + 2)) ≤ R / W64 ^ (k + (e + 2)) := Nat.mod_le _ _
    refine Nat.le_trans h1 (Nat.le_of_lt_succ ?_)
    rw [Nat.div_lt_iff_lt_mul (W64_pow_pos _)]
    refine Nat.lt_of_lt_of_le hR ?_
    have h2 : D < (dig D (e + 1) + 1) * W64 ^ (e + 1) := by
      rw [← Nat.div_lt_iff_lt_mul (W64_pow_pos _), hd1]; exact Nat.lt_succ_self _
    rw [show k + (e + 2) = (e + 1) + (k + 1) by omega, Nat.pow_add W64 (e + 1), ← Nat.mul_assoc]
    exact Nat.mul_le_mul_right _ (Nat.le_of_lt h2)
  have hg := guess_ok (R / W64 ^ k) D (W64 ^ e) (W64_pow_pos e) (by
    rw [← e2]
    have h3 : 9223372036854775808 * W64 ≤ dig D (e + 1) * W64 := Nat.mul_le_mul_right _ hp
    have h4 : W64 ≤ 9223372036854775808 * W64 := Nat.le_mul_of_pos_left _ (by decide)
    omega) hP
  rw [show R / W64 ^ k / W64 ^ e = R / W64 ^ (k + e) by rw [Nat.div_div_eq_div_mul, ← Nat.pow_add], ← e3, ← e2] at hg
  refine ⟨hR1, hP, ha, hp, ?_⟩
  rw [show k + (e + 2) = k + e + 2 by omega, show k + (e + 1) = k + e + 1 by omega]
  exact hg
theorem row_below {B b t n : Nat} {w w' : World} {F : Nat → Value} (hb : Below B w w') (hlt : b < B) (hr : w.rowIs b t n F) : w'.rowIs b t n F := by
  obtain ⟨cur, h1, h2⟩ := hr
  exact ⟨cur, (hb.block b hlt).trans h1, h2⟩
theorem quo_bound (x y s m n1 q : Nat) (hX : x < W64 ^ m) (hs : s < 64) (hD2 : 9223372036854775808 * W64 ^ n1 ≤ y * 2 ^ s) (hm : m = n1 + 1 + q) : x * 2 ^ s < y * 2 ^ s * W64 ^ (q + 1) := by
  have h1 : 2 ^ s ≤ 9223372036854775808 := by
    have := Nat.pow_le_pow_right (show 0 < 2 by decide) (show s ≤ 63 by omega)
    exact this
  have h2 : x * 2 ^ s < W64 ^ m * 2 ^ s := Nat.mul_lt_mul_of_pos_right hX (Nat.pow_pos (by decide))
  have h3 : W64 ^ m * 2 ^ s ≤ W64 ^ m * 9223372036854775808 := Nat.mul_le_mul_left _ h1
  have h4 : 9223372036854775808 * W64 ^ n1 * W64 ^ (q + 1) ≤ y * 2 ^ s * W64 ^ (q + 1) := Nat.mul_le_mul_right _ hD2
  rw [Nat.mul_assoc, ← Nat.pow_add, show n1 + (q + 1) = m by omega, Nat.mul_comm] at h4
  omega
theorem quo_shift (x y s : Nat) : x * 2 ^ s / (y * 2 ^ s) = x / y := Nat.mul_div_mul_right _ _ (Nat.pow_pos (by decide))
theorem rem_shift (x y s : Nat) : x * 2 ^ s % (y * 2 ^ s) / 2 ^ s = x % y := by
  rw [Nat.mul_mod_mul_right, Nat.mul_div_cancel _ (Nat.pow_pos (by decide))]

set_option maxRecDepth 100000 in
set_option maxHeartbeats 4000000 in
theorem c_longDivided (w : World) (A A' : Option Addr) (c c' x y n m : Nat) (h : Wd w w.heap.size A m (dig x)) (h' : Wd w w.heap.size A' n (dig y)) (hm : nw x = m) (hn : nw y = n) (hn2 : 2 ≤ n) (hle : y ≤ x) (hM : m ≤ 1000000000) :
    Calls Tryz.prog 88 #[.slice A m c, .slice A' n c'] w (NatRet2 w (x / y) (x % y)) := by
  have hnm : n ≤ m := by rw [← hn, ← hm]; exact nw_mono hle
  have hy0 : 0 < y := (nw_pos y).1 (by omega)
  have htop : 0 < dig y (n - 1) := by
    have := dig_top y hy0
    rw [hn] at this
    exact Nat.pos_of_ne_zero this
  obtain ⟨s, hs, hsL, hs2, hs3⟩ := lz_shift (dig y (n - 1)) htop (dig_lt _ _)
  have HLZ := Lib.hid (fun W => c_lz W (dig y (n - 1)) s (dig_lt _ _) hsL)
  obtain ⟨hD1, hD2⟩ := shl_divisor y (n - 1) s (by omega) hs hs2 hs3
  rw [show n - 1 + 1 = n by omega] at hD1
  obtain ⟨b', o', rfl, hlt', hc'⟩ := h' (by omega)
  have hct := hc' (n - 1) (by omega)
  have hX : x < W64 ^ m := by rw [← hm]; exact lt_nw x
  have hY : y < W64 ^ n := by rw [← hn]; exact lt_nw y
  have HSh := Lib.hid (c_shifted w w.heap.size (some ⟨b', o', none⟩) n c' y s n h' hY (Nat.le_refl _) hs (by omega))
  have HSh2 := Lib.hid (fun W (hW : Below w.heap.size w W) => c_shifted W w.heap.size A m c x s (m + 1) (h.below hW) hX hW.size hs (by omega))
  obtain ⟨q, hq⟩ : ∃ q, m = n + q := ⟨m - n, by omega⟩
  have eq1 : (m : Int) - (n : Int) = (q : Int) := by omega
  have hmk := fun W => run_make_row' (P := Tryz.prog) 76 71 (.int .u64 0) 8 Tryz.underlying76 info_u64 rfl .i64 .i64 (q + 1) (by omega) (by omega) W
  simp only [Int.natCast_add, Int.natCast_one] at hmk
  have hwk : IntKind.i64.wrap ((n : Int) - 1) = ((n - 1 : Nat) : Int) := by unfold IntKind.wrap; simp [IntKind.bits, IntKind.signed]; omega
  have HQ := Lib.hid hq
  have HD1 := Lib.hid hD1
  have HD2 := Lib.hid hD2
  have HXX := Lib.hid hX
  have HS := Lib.hid hs
  have HH := Lib.hid h
  have HC' := Lib.hid hc'
  have HY0 := Lib.hid hy0
  have hn1 : ((n - 1 : Nat) : Int) = (n : Int) - 1 := by omega
  have HN1 := Lib.hid hn1
  generalize hT : dig y (n - 1) = T at *
  generalize hK : n - 1 = n1 at *
  rw [hn1] at hwk
  clear hc' hD1 hD2 hX hY hs hs2 hs3 hsL htop hy0 h h' hm hn hle hq hT
  go_enter Tryz.func88, Tryz.ntmps88
  go_wp2_with fail
  refine (HLZ.out _).mono ?_
  rintro e w0 ⟨rfl, rfl⟩
  go_wp2_with fail
  refine HSh.out.mono ?_
  rintro e w1 ⟨rfl, hrowD, hb1⟩
  go_wp2_with fail
  refine (HSh2.out _ hb1).mono ?_
  rintro e w2 ⟨rfl, hrowR, hb2⟩
  have hbr : w0.heap.size < w1.heap.size := hrowD.lt
  have hbq : w1.heap.size < w2.heap.size := hrowR.lt
  have HQB : Hid (x * 2 ^ s < y * 2 ^ s * W64 ^ (q + 1)) := quo_bound x y s m n1 q HXX.out HS.out HD2.out (by have := HQ.out; omega)
  have HQS : Hid (x * 2 ^ s / (y * 2 ^ s) = x / y) := quo_shift x y s
  have HRS : Hid (x * 2 ^ s % (y * 2 ^ s) / 2 ^ s = x % y) := rem_shift x y s
  have HDP : Hid (0 < y * 2 ^ s) := Nat.mul_pos HY0.out (Nat.pow_pos (by decide))
  have HXQ : Hid (x / y < W64 ^ (q + 1)) := by
    show _ < _
    rw [← HQS.out, Nat.div_lt_iff_lt_mul HDP.out, Nat.mul_comm (W64 ^ (q + 1))]; exact HQB.out
  clear HLZ HSh HSh2 hct HC' HXX HY0
  generalize y * 2 ^ s = D at *
  generalize x * 2 ^ s = R0 at *
  go_wp2_with fail
  clear hmk
  have hrD : (w2.alloc (.cells (madeCells #[.int .u64 0] (q + 1)) 71)).rowIs w0.heap.size 71 n (fun j => U (dig D j)) := row_below ((hb2.alloc (Nat.le_of_lt hbq) _)) hbr hrowD
  have hrR : (w2.alloc (.cells (madeCells #[.int .u64 0] (q + 1)) 71)).rowIs w1.heap.size 71 (m + 1) (fun j => U (dig R0 j)) := row_below ((Below.refl w2.heap.size w2).alloc (Nat.le_refl _) _) hbq hrowR
  go_loopw [11, 12, 13] (fun ki _ _ wr => ∃ (K : Nat) (g : Nat → Nat), K ≤ q + 1 ∧ ki = .int .i64 ((K : Int) - 1) ∧ wr.rowIs w1.heap.size 71 (m + 1) (fun j => U (dig (restK R0 D K) j)) ∧ wr.rowIs w2.heap.size 71 (q + 1) (fun j => U (g j)) ∧
    wr.rowIs w0.heap.size 71 n (fun j => U (dig D j)) ∧ Hid (∀ j, K ≤ j → j < q + 1 → g j = dig (x / y) j) ∧ Hid (Below w0.heap.size w0 wr)) (fun ki _ _ _ => (intOf ki + 1).toNat)
  case atStart =>
    refine ⟨q + 1, fun _ => 0, Nat.le_refl _, ?_, ?_, World.rowIs_made _ _ _ _, hrD, fun j h1 h2 => by omega, ?_⟩
    · rw [show ((q + 1 : Nat) : Int) - 1 = (q : Int) by omega]
    · rw [restK_all _ _ _ HQB.out]; exact hrR
    · exact ((hb1.trans (hb2.mono (Nat.le_of_lt hbr))).alloc (by omega) _)
  case round =>
    obtain ⟨K, g, hK1, rfl, hR, hG, hDv, HG, HB⟩ := hrel
    clear hrD hrR hrowD hrowR
    rcases K with _ | k
    · rw [restK_zero] at hR
      have hm9 := HQ.out
      have HTW : Hid (∀ W, Below wr.heap.size wr W → Wd W wr.heap.size (some ⟨w2.heap.size, 0, none⟩) (q + 1) (dig (x / y))) := fun W hW =>
        Wd.below (w := wr) (fun _ => ⟨_, 0, rfl, hG.lt, fun j hj => by rw [Nat.zero_add, hG.cell hj, HG.out j (Nat.zero_le _) hj]⟩) hW
      have HTU : Hid (∀ W, Below wr.heap.size wr W → Wd W wr.heap.size (some ⟨w1.heap.size, 0, none⟩) n (dig (R0 % D))) := fun W hW =>
        Wd.below (w := wr) (fun _ => ⟨_, 0, rfl, hR.lt, fun j hj => by rw [Nat.zero_add, hR.cell (by omega)]⟩) hW
      have HT : Hid (∀ W, Below wr.heap.size wr W → Calls Tryz.prog 83 #[.slice (some ⟨w2.heap.size, 0, none⟩) (q + 1) (q + 1)] W fun e w' => e = .returned (.slice (some ⟨w2.heap.size, 0, none⟩) (nw (x / y)) (q + 1)) ∧ W = w') := fun W hW =>
        c_trimmed W wr.heap.size _ (q + 1) (q + 1) (x / y) (HTW.out W hW) HXQ.out (Nat.le_refl _) (by omega)
      have HU : Hid (∀ W, Below wr.heap.size wr W → Calls Tryz.prog 153 #[.slice (some ⟨w1.heap.size, 0, none⟩) n (m + 1), .int .i64 s] W fun e w' => NatRes (x % y) W e w') := fun W hW => by
        have h9 := c_unshifted W wr.heap.size _ n (m + 1) (R0 % D) s (HTU.out W hW) (Nat.lt_trans (Nat.mod_lt _ HDP.out) HD1.out) hW.size HS.out (by omega)
        rw [HRS.out] at h9
        exact h9
      have HTN : Hid (nw (x / y) ≤ q + 1) := (nw_le _ _).2 HXQ.out
      have hnm1 : (n : Int) ≤ (m : Int) + 1 := by omega
      have B0 : Below wr.heap.size wr wr.drew := Below.drew (Below.refl _ _)
      clear hR hG hDv HG HTU hm9
      go_wp2_with fail
      go_region_with (first | (go_at_call 83; refine (HT.out _ (by first | exact BU | exact B0)).mono ?_; rintro e w' ⟨rfl, rfl⟩) | (go_at_call 153; refine (HU.out _ B0).mono ?_; rintro e w5 ⟨A5, c5, rfl, hu1, hu2, hu3, hbu⟩; have BU : Below wr.heap.size wr w5 := B0.trans (hbu.mono B0.size)))
      all_goals
        go_wp2
        go_ret2
        exact ⟨_, _, rfl, ⟨_, q + 1, rfl, HTN.out, by omega, ((HTW.out _ BU).take HTN.out).more BU.size⟩, ⟨A5, c5, rfl, hu1, hu2, hu3⟩, HB.out.trans (BU.mono HB.out.size)⟩
    · rw [show ((k + 1 : Nat) : Int) - 1 = (k : Int) by omega]
      have hgf := guess_facts (restK R0 D (k + 1)) D k n hn2 (restK_lt _ _ _ HDP.out) HD1.out (by rw [hK]; exact HD2.out)
      have HRQ := Lib.hid (restK_quo R0 D k)
      have HRK := Lib.hid (restK_step R0 D k)
      rw [HQS.out] at HRQ
      generalize hRR : restK R0 D (k + 1) = R at *
      obtain ⟨g1, g2, g3, g4, g5, g6⟩ := hgf
      have hm1 : m = n + q := HQ.out
      have hC1 := hR.cell (i := k + n) (by omega)
      have hC2 := hR.cell (i := k + n1) (by omega)
      have hC3 := hR.cell (i := k + (n - 2)) (by omega)
      have hC4 := hDv.cell (i := n1) (by omega)
      have hC5 := hDv.cell (i := n - 2) (by omega)
      have hn22 : ((n - 2 : Nat) : Int) = (n : Int) - 2 := by omega
      have hn3 : (2 : Int) ≤ (n : Int) := by omega
      rw [hK] at g3 g4 g5 g6
      generalize hN2 : n - 2 = n2 at *
      have HGS := Lib.hid (fun W => c_guess W (dig R (k + n)) (dig R (k + n1)) (dig R (k + n2)) (dig D n1) (dig D n2) g3 (dig_lt _ _) (dig_lt _ _) g4 (dig_lt _ _) (dig_lt _ _))
      have hQlt : min (((dig R (k + n) * W64 + dig R (k + n1)) * W64 + dig R (k + n2)) / (dig D n1 * W64 + dig D n2)) (W64 - 1) < W64 := Nat.lt_of_le_of_lt (Nat.min_le_right _ _) (Nat.sub_lt W64_pos Nat.one_pos)
      generalize min (((dig R (k + n) * W64 + dig R (k + n1)) * W64 + dig R (k + n2)) / (dig D n1 * W64 + dig D n2)) (W64 - 1) = Q at *
      have hcap : (k : Int) + (n : Int) + 1 ≤ (m : Int) + 1 := by omega
      clear hm1
      go_wp2_with fail
      rw [show k + n + 1 - k = n + 1 by omega]
      go_quiet (first | (go_at_call 150; refine Calls.quiet_of (HGS.out _)))
      go_wp2_with fail
      refine (c_subProduct2 (wr.drewN nq) w1.heap.size w1.heap.size k n _ (m + 1) (some ⟨w0.heap.size, 0, none⟩) _ Q (dig R) (dig D) hR (by have := HQ.out; omega) (fun _ => ⟨_, 0, rfl, hbr, fun j hj => by rw [Nat.zero_add]; exact hDv.cell hj⟩) (Nat.le_refl _) (by omega) hQlt (fun j _ => dig_lt _ _) (fun j _ => dig_lt _ _)).mono ?_
      rintro e w3 ⟨t, f', rfl, ht, hrow3, hf3, hfar, hval, hb3, hsz3, hap3⟩
      rw [vl_dig_lt D n HD1.out, vl_dig_from R k (n + 1) g1] at hval
      have hF := vl_lt (fun j => f' (k + j)) (n + 1) (fun j hj => hf3 _ (by have := HQ.out; omega))
      have HVal := Lib.hid hval
      have HFar := Lib.hid hfar
      have HF3 := Lib.hid hf3
      have HAp := Lib.hid hap3
      have HB3 := Lib.hid hb3
      have hG3 := hap3.row (c := w2.heap.size) (by omega) hG
      have hD3 := hap3.row (c := w0.heap.size) (by omega) hDv
      have G1 := Lib.hid g1
      have G5 := Lib.hid g5
      have G6 := Lib.hid g6
      have HFF := Lib.hid hF
      have HBW : Hid (Below w0.heap.size w0 w3) := HB.out.trans ((Below.drewN_ (Below.refl _ _) nq).trans (hb3.mono (Nat.le_of_lt hbr)) |>.mono (by omega))
      clear hfar hval hf3 hap3 hb3 hsz3 hF g1 g2 g3 g4 g5 g6 HGS hR hG hDv hC1 hC2 hC3 hC4 hC5 HB
      have hSq := hG3.cell (i := k) (by omega)
      have hZq := hG3.frozen k
      have hkq : (k : Int) < (q : Int) + 1 := by omega
      rcases (by omega : t = 0 ∨ t = 1) with rfl | rfl
      · have hPD : Q = R / W64 ^ k / D ∧ vl (fun j => f' (k + j)) (n + 1) = R / W64 ^ k % D := by
          have h5 := G5.out
          have h6 := G6.out
          rcases (by omega : Q = R / W64 ^ k / D ∨ Q = R / W64 ^ k / D + 1) with h7 | h7
          · exact ⟨h7, (sub_small HVal.out HFF.out (by omega) h7).2⟩
          · have := (sub_big HVal.out HDP.out (by omega) h7).1
            omega
        have HN := Lib.hid (dig_patch R (restK R0 D k) k (n + 1) (m + 1) _ f' HF3.out (by have := HQ.out; omega) G1.out (fun j hj h9 => HFar.out j h9) hPD.2 HRK.out)
        have HQd : Hid (Q = dig (x / y) k) := hPD.1.trans HRQ.out
        clear hPD
        go_wp2
        go_roundw
        case rel =>
          refine ⟨k, upd g k Q, by omega, by go_num, ((Apart.refl w2.heap.size w3).setCell k _).row (by omega) (hrow3.congr fun j hj => by rw [HN.out j hj]), set_nat hG3 k _ _ rfl, ((Apart.refl w2.heap.size w3).setCell k _).row (by omega) hD3, ?_, HBW.out.setCell (by show _ ≤ w2.heap.size; omega) _⟩
          intro j h1 h2
          by_cases e : j = k
          · subst e; rw [upd_same]; exact HQd.out
          · rw [upd_ne _ _ _ _ e]; exact HG.out j (by omega) h2
        case measure => simp [intOf]
      · have hPD : Q = R / W64 ^ k / D + 1 ∧ vl (fun j => f' (k + j)) (n + 1) + D = R / W64 ^ k % D + W64 ^ (n + 1) := by
          have h5 := G5.out
          have h6 := G6.out
          rcases (by omega : Q = R / W64 ^ k / D ∨ Q = R / W64 ^ k / D + 1) with h7 | h7
          · have := (sub_small HVal.out HFF.out (by omega) h7).1
            omega
          · exact ⟨h7, (sub_big HVal.out HDP.out (by omega) h7).2⟩
        have hwq : IntKind.u64.wrap ((Q : Int) - 1) = ((R / W64 ^ k / D : Nat) : Int) := wrapN _ _ (by have := hPD.1; omega) (by have := hPD.1; omega)
        have HQd : Hid (R / W64 ^ k / D = dig (x / y) k) := HRQ.out
        generalize R / W64 ^ k / D = Q1 at *
        have HPD := Lib.hid hPD.2
        clear hPD
        have HAB : Hid (∀ c l : Nat, l + c * W64 ^ n = vl (fun j => f' (k + j)) n + D → l < W64 ^ n → l = R / W64 ^ k % D ∧ f' (k + n) + c = W64) := by
          intro c l h1 h2
          exact add_back (by rw [← Nat.pow_succ]; exact HPD.out) (Nat.lt_trans (Nat.mod_lt _ HDP.out) HD1.out) (vl_succ _ _) h1 h2
        have hTop := hrow3.cell (i := k + n) (by have := HQ.out; omega)
        have hTZ := hrow3.frozen (k + n)
        have K0 := Lib.hid hTop
        have hkn : (0 : Int) ≤ (n : Int) := by omega
        go_wp2_with fail
        go_region_with 
          (first | (go_at_call 152; refine (c_addProduct2 _ w1.heap.size w1.heap.size k n _ (m + 1) (some ⟨w0.heap.size, 0, none⟩) _ 1 f' (dig D) (by exact hrow3) (by have := HQ.out; omega) (fun _ => ⟨_, 0, rfl, hbr, fun j hj => by rw [Nat.zero_add]; exact hD3.cell hj⟩) (Nat.le_refl _) (by omega) (by decide) HF3.out (fun j _ => dig_lt _ _)).mono ?_; rintro e w4 ⟨cr, f4, rfl, hcr, hrow4, hf4, hfar4, hval4, hb4, hsz4, hap4⟩; have hK1 : w4.cell? ⟨w1.heap.size, k + n, none⟩ = some (U (f' (k + n))) := (hrow4.cell (i := k + n) (by have := HQ.out; omega)).trans (by rw [hfar4 (k + n) (.inr (Nat.le_refl _))]); have hZ4 := hrow4.frozen (k + n)))
        all_goals
          clear hZ4 hK1 hTop hTZ
          rw [vl_dig_lt D n HD1.out, Nat.mul_one] at hval4
          have hab := HAB.out _ _ hval4 (vl_lt (fun j => f4 (k + j)) n (fun j hj => hf4 _ (by have := HQ.out; omega)))
          have hw9 : Value.int .u64 (IntKind.u64.wrap ((f' (k + n) : Int) + (cr : Int))) = U 0 := by
            have h9 := hab.2
            show Value.int .u64 _ = Value.int .u64 ((0 : Nat) : Int)
            rw [IntKind.wrap_u64]
            congr 1
            unfold W64 at h9
            omega
          rw [hw9]
          have hrow5 := set_nat hrow4 (k + n) 0 _ rfl
          have HN := Lib.hid (dig_patch R (restK R0 D k) k (n + 1) (m + 1) _ (upd f4 (k + n) 0) (upd_lt f4 (k + n) 0 _ (fun j hj _ => hf4 j hj) W64_pos) (by have := HQ.out; omega) G1.out
            (fun j hj h9 => by rw [upd_ne _ _ _ _ (by omega), hfar4 j (by omega)]; exact HFar.out j (by omega))
            (by rw [vl_succ, vl_congr _ (fun j => f4 (k + j)) n (fun j hj => upd_ne _ _ _ _ (by omega)), upd_same, Nat.zero_mul, Nat.add_zero]; exact hab.1) HRK.out)
          have hap5 := hap4.setCell (k + n) (U 0)
          have hG5 := hap5.row (c := w2.heap.size) (by omega) hG3
          have hD5 := hap5.row (c := w0.heap.size) (by omega) hD3
          have HB5 : Hid (Below w0.heap.size w0 (w4.setCell ⟨w1.heap.size, k + n, none⟩ (U 0))) := ((Below.drew HBW.out).trans (hb4.mono (by show w0.heap.size ≤ w1.heap.size; omega))).setCell (by show _ ≤ w1.heap.size; omega) _
          clear hrow4 hf4 hfar4 hval4 hb4 hsz4 hap4 hab hw9 hap5 hSq hZq
          generalize w4.setCell ⟨w1.heap.size, k + n, none⟩ (U 0) = w5 at *
          have hSq := hG5.cell (i := k) (by omega)
          have hZq := hG5.frozen k
          go_wp2
          go_roundw
          case rel =>
            refine ⟨k, upd g k Q1, by omega, by go_num, ((Apart.refl w2.heap.size w5).setCell k _).row (by omega) (hrow5.congr fun j hj => by rw [HN.out j hj]), set_nat hG5 k _ _ rfl, ((Apart.refl w2.heap.size w5).setCell k _).row (by omega) hD5, ?_, HB5.out.setCell (by show _ ≤ w2.heap.size; omega) _⟩
            intro j h1 h2
            by_cases e : j = k
            · subst e; rw [upd_same]; exact HQd.out
            · rw [upd_ne _ _ _ _ e]; exact HG.out j (by omega) h2
          case measure => simp [intOf]
end Go.Proofs.YtnfncdalneifnaaGreatDoor
end

/- Dividing natural numbers of any size: what each call returns. -/
section
namespace Go.Proofs.YtnfncdalneifnaaGreatDoor
open Go.RowKit Go.Deep

set_option maxHeartbeats 1000000 in
theorem g_divided (w : World) (v v' : Value) (x y : Nat) (h : NatAt w v x) (h' : NatAt w v' y) (hn : nw x ≤ 1000000000) (hy : 0 < y) :
    Calls Tryz.prog 45 #[v, v'] w (NatRet2 w (x / y) (x % y)) := by
  by_cases hw : y < W64
  · exact n_divided w v v' x y h h' hn hy ⟨hw, divAll_word x y (nw x) hy hw⟩
  have HC := Lib.hid (n_compare w v v' x y h h' hn)
  rcases Nat.lt_or_ge x y with hlt | hge
  · have H0 : Hid (x / y = 0 ∧ x % y = x) := ⟨Nat.div_eq_of_lt hlt, Nat.mod_eq_of_lt hlt⟩
    go_enter Tryz.func45, Tryz.ntmps45
    go_wp2_with fail
    refine HC.out.mono ?_
    rintro e w' ⟨rfl, n, rfl⟩
    rw [cmpN_lt hlt]
    go_wp2
    go_ret2
    exact ⟨_, _, rfl, by rw [H0.out.1]; exact NatAt.zero _, by rw [H0.out.2]; exact h.drewN n, Below.drewN_ (Below.refl _ _) n⟩
  · have hny : 2 ≤ nw y := by
      have := nw_le_one y
      omega
    obtain ⟨A, c, rfl, h1, h2, h3⟩ := h
    obtain ⟨A', c', rfl, h1', h2', h3'⟩ := h'
    have HL : Hid (∀ n, Calls Tryz.prog 88 #[.slice A (nw x) c, .slice A' (nw y) c'] (w.drewN n) (NatRet2 (w.drewN n) (x / y) (x % y))) := fun n => c_longDivided (w.drewN n) A A' c c' x y (nw y) (nw x) h3 h3' rfl rfl hny hge hn
    have hcm : cmpN x y = 0 ∨ cmpN x y = 1 := by
      rcases Nat.lt_or_eq_of_le hge with h5 | h5
      · exact .inr (cmpN_gt h5)
      · subst h5; exact .inl (cmpN_eq _)
    have hcm0 : 0 ≤ cmpN x y := by rcases hcm with h5 | h5 <;> rw [h5] <;> omega
    have h21 : ((nw y : Int) == 1) = false := by rw [beq_eq_false_iff_ne]; omega
    clear hcm h3 h3' h1 h2 h1' h2' hny hge hw
    generalize cmpN x y = cm at *
    generalize nw x = m at *
    generalize nw y = m' at *
    go_enter Tryz.func45, Tryz.ntmps45
    go_wp2_with fail
    refine HC.out.mono ?_
    rintro e w' ⟨rfl, n, rfl⟩
    clear HC
    go_wp2_with fail
    refine (HL.out n).mono ?_
    rintro e w1 ⟨q, r, rfl, hq, hr, hb⟩
    go_wp2
    go_ret2
    exact ⟨q, r, rfl, hq, hr, (Below.drewN_ (Below.refl _ _) n).trans hb⟩
set_option maxHeartbeats 1000000 in
theorem g_by (w : World) (v v' : Value) (x y : Nat) (h : NatAt w v x) (h' : NatAt w v' y) (hn : nw x ≤ 1000000000) (hy : 0 < y) :
    Calls Tryz.prog 92 #[v, v'] w (NatRet w (x / y)) := by
  have HC := Lib.hid (n_isOne w v' y h')
  have HDv := Lib.hid (g_divided w v v' x y h h' hn hy)
  by_cases h1 : y = 1
  · have H1 : Hid (x / y = x) := by show _ = _; rw [h1, Nat.div_one]
    have HB : Hid (isOneB y = true) := by show (y == 1) = true; simp [h1]
    clear h1
    go_enter Tryz.func92, Tryz.ntmps92
    go_wp2_with fail
    refine HC.out.mono ?_
    rintro e w' ⟨rfl, rfl⟩
    rw [HB.out]
    go_wp2
    go_ret
    exact ⟨v, rfl, by rw [H1.out]; exact h, Below.refl _ _⟩
  · have HB : Hid (isOneB y = false) := by show (y == 1) = false; simp [h1]
    clear h1
    go_enter Tryz.func92, Tryz.ntmps92
    go_wp2_with fail
    refine HC.out.mono ?_
    rintro e w' ⟨rfl, rfl⟩
    rw [HB.out]
    go_wp2_with fail
    refine HDv.out.mono ?_
    rintro e w1 ⟨q, r, rfl, hq, hr, hb⟩
    go_wp2
    go_ret
    exact ⟨q, rfl, hq, hb⟩
end Go.Proofs.YtnfncdalneifnaaGreatDoor
end

/- Multiplying and subtracting natural numbers: what each call returns, for slices that hold the words of a number. -/
import Derived.Test.YtnfncdalneifnaaGreatDoorZMul
namespace Go.Proofs.YtnfncdalneifnaaGreatDoor
open Go.RowKit Go.Deep

theorem vl_add (f : Nat → Nat) (i n : Nat) : vl f (i + n) = vl f i + W64 ^ i * vl (fun j => f (i + j)) n := by
  induction n with
  | zero => simp [vl]
  | succ n ih =>
    rw [← Nat.add_assoc, vl_succ, ih, vl_succ, Nat.mul_add, Nat.pow_add]
    generalize W64 ^ i = P; generalize W64 ^ n = Q
    grind
theorem times_step (f f' gx : Nat → Nat) (i n r y : Nat) (hlow : ∀ j, j < i → f' j = f j)
    (h1 : vl (fun j => f' (i + j)) n + r * W64 ^ n = vl (fun j => f (i + j)) n + y * gx i) (h2 : vl f (i + n) = vl gx i * y) :
    vl (upd f' (i + n) r) (i + 1 + n) = vl gx (i + 1) * y := by
  rw [show i + 1 + n = i + n + 1 by omega, vl_upd, vl_succ, vl_add, vl_congr f' f i hlow, Nat.pow_add, Nat.add_mul, ← h2, vl_add]
  generalize vl (fun j => f' (i + j)) n = a at *
  generalize vl (fun j => f (i + j)) n = b at *
  generalize W64 ^ i = P; generalize W64 ^ n = Q at *
  grind
theorem nw_mul (x y : Nat) : nw (x * y) ≤ nw x + nw y := by
  rw [nw_le, Nat.pow_add]
  have h1 := lt_nw x
  have h2 := lt_nw y
  exact Nat.mul_lt_mul_of_lt_of_lt h1 h2

set_option maxHeartbeats 1000000 in
theorem c_times (w : World) (B : Nat) (A A' : Option Addr) (c c' x y : Nat) (h : Wd w B A (nw x) (dig x)) (h' : Wd w B A' (nw y) (dig y)) (hB : B ≤ w.heap.size)
    (hn : nw x ≤ 1000000000) (hn' : nw y ≤ 1000000000) :
    Calls Tryz.prog 94 #[.slice A (nw x) c, .slice A' (nw y) c'] w fun e w' => NatRes (x * y) w e w' := by
  have HX : Hid (vl (dig x) (nw x) = x) := vl_dig_lt x _ (lt_nw x)
  have HY : Hid (vl (dig y) (nw y) = y) := vl_dig_lt y _ (lt_nw y)
  generalize nw x = m at *
  generalize nw y = m' at *
  have hmk := fun W => run_make_row' (P := Tryz.prog) 76 71 (.int .u64 0) 8 Tryz.underlying76 info_u64 rfl .i64 .i64 (m + m') (by omega) (by omega) W
  simp only [Int.natCast_add] at hmk
  go_enter Tryz.func94, Tryz.ntmps94
  go_wp2
  clear hmk
  go_loopw [6, 7, 16] (fun _ _ i wr => ∃ (k : Nat) (f : Nat → Nat), k ≤ m ∧ i = .int .i64 k ∧ wr.rowIs w.heap.size 71 (m + m') (fun j => U (f j)) ∧ (∀ j, j < m + m' → f j < W64) ∧
    Hid (vl f (k + m') = vl (dig x) k * y) ∧ Below w.heap.size w wr) (fun _ _ i _ => m - (intOf i).toNat)
  case atStart =>
    refine ⟨0, fun _ => 0, by omega, rfl, World.rowIs_made _ _ _ _, fun j _ => W64_pos, ?_, (Below.refl _ _).alloc (Nat.le_refl _) _⟩
    show vl _ (0 + m') = 0 * y
    rw [Nat.zero_mul]
    generalize 0 + m' = q
    induction q with
    | zero => rfl
    | succ q ih => rw [vl_succ, ih, Nat.zero_mul]
  case round =>
    obtain ⟨k, f, hk, rfl, hrow, hf, HV, hb⟩ := hrel
    have hsz : w.heap.size < wr.heap.size := hrow.lt
    by_cases hlt : k < m
    · have hx := h.below (hb.mono hB)
      have hy := h'.below (hb.mono hB)
      obtain ⟨b, o, rfl, hcell⟩ := hx.at_ hlt
      have hdx := dig_lt x k
      clear hx h h'
      go_wp2_with fail
      refine (c_addProduct wr B w.heap.size k m' _ (m + m') A' c' _ f (dig y) hrow (by omega) hy hB (by omega) hdx hf (fun j _ => dig_lt y j)).mono ?_
      rintro e w1 ⟨r, f', rfl, hr, hrow', hf', hfar, hval, hb', hz⟩
      have hS := hrow'.cell (i := k + m') (by omega)
      have hZ := hrow'.frozen (k + m')
      have Hval := Lib.hid hval
      have Hfar := Lib.hid hfar
      have Hz := Lib.hid hz
      clear hval hfar hz hy
      go_wp2
      go_roundw
      case rel =>
        refine ⟨k + 1, upd f' (k + m') r, by omega, by go_num, set_nat hrow' (k + m') _ _ rfl, upd_lt f' (k + m') r _ (fun j hj _ => hf' j hj) hr, ?_, (hb.trans (hb'.mono (Nat.le_refl _))).setCell (Nat.le_refl w.heap.size) _⟩
        refine times_step f f' (dig x) k m' r y (fun j hj => Hfar.out j (.inl hj)) ?_ HV.out
        have h9 := Hval.out
        rw [HY.out] at h9
        exact h9
      case measure => simp [intOf]; omega
    · obtain rfl : k = m := by omega
      have hval : vl f (k + m') = x * y := by rw [HV.out, HX.out]
      have HG : Hid (x * y < W64 ^ (k + m')) := by
        show x * y < W64 ^ (k + m')
        rw [← hval]; exact vl_lt _ _ hf
      have HW : Hid (Wd wr wr.heap.size (some ⟨w.heap.size, 0, none⟩) (k + m') (dig (x * y))) := Wd.row hrow fun j hj => by rw [← hval, dig_vl _ _ hf j hj]
      have HB := Lib.hid hb
      clear hval hf h h' hb
      go_wp2_with fail
      refine (c_trimmed _ wr.heap.size _ _ _ (x * y) HW.out HG.out (Nat.le_refl _) (by omega)).mono ?_
      rintro e w' ⟨rfl, rfl⟩
      go_wp2
      go_ret
      exact ⟨_, _, rfl, (nw_le _ _).2 HG.out, by omega, HW.out.take ((nw_le _ _).2 HG.out), HB.out⟩

theorem sub_step (f gx gy f' : Nat → Nat) (k q : Nat) (hf : ∀ j, j < k → f' j = f j) (h1 : f' k = (gx k + 2 * W64 - gy k - q) % W64) (hx : gx k < W64) (hy : gy k < W64) (hq : q ≤ 1)
    (h : vl f k + vl gy k = vl gx k + q * W64 ^ k) : vl f' (k + 1) + vl gy (k + 1) = vl gx (k + 1) + sbw (gx k) (gy k) q * W64 ^ (k + 1) := by
  rw [vl_succ, vl_succ, vl_succ, vl_congr f' f k hf, h1, Nat.pow_succ]
  have := sub_mod_step (gx k) (gy k) q hx hy hq (W64 ^ k)
  unfold sbw
  omega
theorem sbw_le (a b c : Nat) : sbw a b c ≤ 1 := by unfold sbw; split <;> omega

set_option maxHeartbeats 1000000 in
theorem c_minus (w : World) (B : Nat) (A A' : Option Addr) (c c' x y : Nat) (h : Wd w B A (nw x) (dig x)) (h' : Wd w B A' (nw y) (dig y)) (hB : B ≤ w.heap.size)
    (hn : nw x ≤ 1000000000) (hle : y ≤ x) :
    Calls Tryz.prog 156 #[.slice A (nw x) c, .slice A' (nw y) c'] w fun e w' => NatRes (x - y) w e w' := by
  have HX : Hid (vl (dig x) (nw x) = x) := vl_dig_lt x _ (lt_nw x)
  have HY : Hid (vl (dig y) (nw x) = y) := vl_dig_lt y _ (Nat.lt_of_le_of_lt hle (lt_nw x))
  have HY' : Hid (y < W64 ^ nw y) := lt_nw y
  have HXX : Hid (x < W64 ^ nw x) := lt_nw x
  generalize nw x = m at *
  generalize nw y = m' at *
  have hmk := fun W => run_make_row' (P := Tryz.prog) 76 71 (.int .u64 0) 8 Tryz.underlying76 info_u64 rfl .i64 .i64 m (by omega) (by omega) W
  go_enter Tryz.func156, Tryz.ntmps156
  go_wp2
  clear hmk
  go_loopw [6, 7, 8, 14] (fun cy _ _ i wr => ∃ (k q : Nat) (f : Nat → Nat), k ≤ m ∧ i = .int .i64 k ∧ cy = U q ∧ q ≤ 1 ∧ wr.rowIs w.heap.size 71 m (fun j => U (f j)) ∧ (∀ j, j < k → f j < W64) ∧
    Hid (vl f k + vl (dig y) k = vl (dig x) k + q * W64 ^ k) ∧ Below w.heap.size w wr) (fun _ _ _ i _ => m - (intOf i).toNat)
  case atStart =>
    exact ⟨0, 0, fun _ => 0, by omega, rfl, rfl, by omega, World.rowIs_made _ _ _ _, fun j hj => absurd hj (by omega), by show vl _ 0 + vl _ 0 = vl _ 0 + 0 * _; simp [vl], (Below.refl _ _).alloc (Nat.le_refl _) _⟩
  case round =>
    obtain ⟨k, q, f, hk, rfl, rfl, hq, hrow, hf, HV, hb⟩ := hrel
    have hsz : w.heap.size < wr.heap.size := hrow.lt
    by_cases hlt : k < m
    · have hx := h.below (hb.mono hB)
      have hy := h'.below (hb.mono hB)
      obtain ⟨b, o, rfl, hcell⟩ := hx.at_ hlt
      have hS := hrow.cell (i := k) (by omega)
      have hZ := hrow.frozen k
      have hdx := dig_lt x k
      have hdy := dig_lt y k
      have hsb := sbw_le (dig x k) (dig y k) q
      have hmod : (dig x k + 2 * W64 - dig y k - q) % W64 < W64 := Nat.mod_lt _ W64_pos
      have Hst := Lib.hid (sub_step f (dig x) (dig y) (upd f k ((dig x k + 2 * W64 - dig y k - q) % W64)) k q (fun j hj => upd_ne _ _ _ _ (by omega)) (upd_same _ _ _) hdx hdy hq HV.out)
      go_wp2_with fail
      refine (c_atN wr B A' m' c' k y hy HY'.out).mono ?_
      rintro e w' ⟨rfl, rfl⟩
      go_wp2_with fail
      refine (c_subWords _ _ _ _ hdx hdy hq).mono ?_
      rintro e w' ⟨rfl, rfl⟩
      generalize (dig x k + 2 * W64 - dig y k - q) % W64 = u at *
      clear h h' hx hy
      go_wp2
      go_roundw
      case rel =>
        exact ⟨k + 1, sbw (dig x k) (dig y k) q, upd f k u, by omega, by go_num, rfl, hsb, set_nat hrow k _ _ rfl, upd_lt f k _ (k + 1) (fun j hj _ => hf j (by omega)) hmod, Hst.out, hb.setCell (Nat.le_refl w.heap.size) _⟩
      case measure => simp [intOf]; omega
    · obtain rfl : k = m := by omega
      have hlt' := vl_lt f k hf
      have hq0 : q = 0 := by
        rcases Nat.eq_zero_or_pos q with h0 | h0
        · exact h0
        · have h1 : q = 1 := by omega
          have h2 := HV.out
          have h3 := HXX.out
          rw [HX.out, HY.out, h1] at h2
          omega
      have hval : vl f k = x - y := by
        have h2 := HV.out
        rw [HX.out, HY.out, hq0] at h2
        omega
      have HG : Hid (x - y < W64 ^ k) := by
        show x - y < W64 ^ k
        rw [← hval]; exact hlt'
      have HW : Hid (Wd wr wr.heap.size (some ⟨w.heap.size, 0, none⟩) k (dig (x - y))) := Wd.row hrow fun j hj => by rw [← hval, dig_vl _ _ hf j hj]
      have HB := Lib.hid hb
      clear hval hf h h' hb hq0 hlt'
      go_wp2_with fail
      refine (c_trimmed _ wr.heap.size _ _ _ (x - y) HW.out HG.out (Nat.le_refl _) (by omega)).mono ?_
      rintro e w' ⟨rfl, rfl⟩
      go_wp2
      go_ret
      exact ⟨_, _, rfl, (nw_le _ _).2 HG.out, by omega, HW.out.take ((nw_le _ _).2 HG.out), HB.out⟩
end Go.Proofs.YtnfncdalneifnaaGreatDoor

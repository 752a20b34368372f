/- The difference of two natural numbers times words: what the call returns. -/
import Derived.Test.YtnfncdalneifnaaGreatDoorZShf
import Derived.Test.YtnfncdalneifnaaGreatDoorZMath
namespace Go.Proofs.YtnfncdalneifnaaGreatDoor
open Go.RowKit Go.Deep

theorem dif_step (f f' ga gb : Nat → Nat) (k v u xc yc bo lx hx ly hy bo' : Nat) (hf : ∀ j, j < k → f' j = f j) (h1 : lx + hx * W64 = ga k * v + xc) (h2 : ly + hy * W64 = gb k * u + yc)
    (h3 : f' k * W64 ^ k + ly * W64 ^ k + bo * W64 ^ k = lx * W64 ^ k + bo' * (W64 ^ k * W64)) (h : vl f k + vl gb k * u + xc * W64 ^ k = vl ga k * v + (yc + bo) * W64 ^ k) :
    vl f' (k + 1) + vl gb (k + 1) * u + hx * W64 ^ (k + 1) = vl ga (k + 1) * v + (hy + bo') * W64 ^ (k + 1) := by
  rw [vl_succ, vl_succ, vl_succ, vl_congr f' f k hf, Nat.pow_succ]
  have e1 : (lx + hx * W64) * W64 ^ k = (ga k * v + xc) * W64 ^ k := by rw [h1]
  have e2 : (ly + hy * W64) * W64 ^ k = (gb k * u + yc) * W64 ^ k := by rw [h2]
  generalize W64 ^ k = P at *
  generalize W64 = W at *
  grind
theorem dif_end {F M r xc yc bo : Nat} (hF : F < M) (hr : r < M) (h : F + xc * M = r + (yc + bo) * M) : F = r := by
  have e1 : (F + xc * M) % M = F := by rw [Nat.add_mul_mod_self_right, Nat.mod_eq_of_lt hF]
  have e2 : (r + (yc + bo) * M) % M = r := by rw [Nat.add_mul_mod_self_right, Nat.mod_eq_of_lt hr]
  rw [← e1, h, e2]
theorem mul_hi_lt {a b c : Nat} (ha : a < W64) (hb : b < W64) (hc : c < W64) : (a * b + c) / W64 < W64 := by
  rw [Nat.div_lt_iff_lt_mul W64_pos]
  have := Nat.mul_le_mul (Nat.le_sub_one_of_lt ha) (Nat.le_sub_one_of_lt hb)
  exact Nat.lt_of_le_of_lt (show a * b + c ≤ (W64 - 1) * (W64 - 1) + (W64 - 1) by omega) (by decide)

set_option maxRecDepth 100000 in
set_option maxHeartbeats 2000000 in
theorem c_difference (w : World) (B : Nat) (A A' : Option Addr) (c c' x y v u r : Nat) (h : Wd w B A (nw x) (dig x)) (h' : Wd w B A' (nw y) (dig y)) (hB : B ≤ w.heap.size)
    (hn : nw x ≤ 1000000000) (hn' : nw y ≤ 1000000000) (hv : v < W64) (hu : u < W64) (hr : r + y * u = x * v) (hrm : r < W64 ^ max (nw x) (nw y)) :
    Calls Tryz.prog 180 #[.slice A (nw x) c, U v, .slice A' (nw y) c', U u] w fun e w' => NatRes r w e w' := by
  have HX : Hid (vl (dig x) (max (nw x) (nw y)) = x) := vl_dig_lt x _ (Nat.lt_of_lt_of_le (lt_nw x) (Nat.pow_le_pow_right W64_pos (Nat.le_max_left _ _)))
  have HY : Hid (vl (dig y) (max (nw x) (nw y)) = y) := vl_dig_lt y _ (Nat.lt_of_lt_of_le (lt_nw y) (Nat.pow_le_pow_right W64_pos (Nat.le_max_right _ _)))
  have HX' : Hid (x < W64 ^ nw x) := lt_nw x
  have HY' : Hid (y < W64 ^ nw y) := lt_nw y
  have hmax : max (nw x : Int) (nw y : Int) = ((max (nw x) (nw y) : Nat) : Int) := by omega
  have HR := Lib.hid hr
  have HRM := Lib.hid hrm
  clear hr hrm
  have hM : max (nw x) (nw y) ≤ 1000000000 := by omega
  generalize hm : max (nw x) (nw y) = m at *
  have HM := Lib.hid hm
  clear hm
  generalize nw x = m1 at *
  generalize nw y = m2 at *
  have hmk := fun W => run_make_row' (P := Tryz.prog) 76 71 (.int .u64 0) 8 Tryz.underlying76 info_u64 rfl .i64 .i64 m (by omega) (by omega) W
  go_enter Tryz.func180, Tryz.ntmps180
  go_wp2
  clear hmk
  go_loopw [10, 11, 12, 13, 14, 15, 24] (fun _ _ xq yq bq _ i wr => ∃ (k xc yc bo : Nat) (f : Nat → Nat), k ≤ m ∧ i = .int .i64 k ∧ xq = U xc ∧ yq = U yc ∧ bq = U bo ∧ xc < W64 ∧ yc < W64 ∧ bo ≤ 1 ∧ wr.rowIs w.heap.size 71 m (fun j => U (f j)) ∧ (∀ j, j < k → f j < W64) ∧
    Hid (vl f k + vl (dig y) k * u + xc * W64 ^ k = vl (dig x) k * v + (yc + bo) * W64 ^ k) ∧ Below w.heap.size w wr) (fun _ _ _ _ _ _ i _ => m - (intOf i).toNat)
  case atStart =>
    exact ⟨0, 0, 0, 0, fun _ => 0, by omega, rfl, rfl, rfl, rfl, W64_pos, W64_pos, by omega, World.rowIs_made _ _ _ _, fun j hj => absurd hj (by omega), by show vl _ 0 + vl _ 0 * _ + _ = vl _ 0 * _ + _; simp [vl], (Below.refl _ _).alloc (Nat.le_refl _) _⟩
  case round =>
    obtain ⟨k, xc, yc, bo, f, hk, rfl, rfl, rfl, rfl, hxc, hyc, hbo, hrow, hf, HV, hb⟩ := hrel
    have hsz : w.heap.size < wr.heap.size := hrow.lt
    by_cases hlt : k < m
    · have hx := h.below (hb.mono hB)
      have hy := h'.below (hb.mono hB)
      have hS := hrow.cell (i := k) (by omega)
      have hZ := hrow.frozen k
      have hdx := dig_lt x k
      have hdy := dig_lt y k
      clear h h'
      go_wp2_with fail
      refine (c_atN wr B A m1 c k x hx HX'.out).mono ?_
      rintro e w' ⟨rfl, rfl⟩
      go_wp2_with fail
      refine (c_mulWords _ _ _ _ hdx hv hxc).mono ?_
      rintro e w' ⟨rfl, rfl⟩
      have Hlx : Hid ((dig x k * v + xc) % W64 + (dig x k * v + xc) / W64 * W64 = dig x k * v + xc) := by
        show _ = _
        have := Nat.div_add_mod (dig x k * v + xc) W64
        rw [Nat.mul_comm] at this; omega
      have hlx : (dig x k * v + xc) % W64 < W64 := Nat.mod_lt _ W64_pos
      have hhx := mul_hi_lt hdx hv hxc
      generalize (dig x k * v + xc) % W64 = lx at *
      generalize (dig x k * v + xc) / W64 = hx9 at *
      go_wp2_with fail
      refine (c_atN wr B A' m2 c' k y hy HY'.out).mono ?_
      rintro e w' ⟨rfl, rfl⟩
      go_wp2_with fail
      refine (c_mulWords _ _ _ _ hdy hu hyc).mono ?_
      rintro e w' ⟨rfl, rfl⟩
      have Hly : Hid ((dig y k * u + yc) % W64 + (dig y k * u + yc) / W64 * W64 = dig y k * u + yc) := by
        show _ = _
        have := Nat.div_add_mod (dig y k * u + yc) W64
        rw [Nat.mul_comm] at this; omega
      have hly : (dig y k * u + yc) % W64 < W64 := Nat.mod_lt _ W64_pos
      have hhy := mul_hi_lt hdy hu hyc
      generalize (dig y k * u + yc) % W64 = ly at *
      generalize (dig y k * u + yc) / W64 = hy9 at *
      go_wp2_with fail
      refine (c_subWords lx ly bo _ hlx hly hbo).mono ?_
      rintro e w' ⟨rfl, rfl⟩
      have Hst := Lib.hid (dif_step f (upd f k ((lx + 2 * W64 - ly - bo) % W64)) (dig x) (dig y) k v u xc yc bo lx hx9 ly hy9 (sbw lx ly bo) (fun j hj => upd_ne _ _ _ _ (by omega)) Hlx.out Hly.out
        (by rw [upd_same]; exact sub_mod_step lx ly bo hlx hly hbo (W64 ^ k)) HV.out)
      have hmod : (lx + 2 * W64 - ly - bo) % W64 < W64 := Nat.mod_lt _ W64_pos
      have hsb := sbw_le lx ly bo
      generalize (lx + 2 * W64 - ly - bo) % W64 = z at *
      generalize sbw lx ly bo = bo' at *
      clear hx hy Hlx Hly
      go_wp2
      go_roundw
      case rel =>
        exact ⟨k + 1, hx9, hy9, bo', upd f k z, by omega, by go_num, rfl, rfl, rfl, hhx, hhy, hsb, set_nat hrow k _ _ rfl, upd_lt f k _ (k + 1) (fun j hj _ => hf j (by omega)) hmod, Hst.out, hb.setCell (Nat.le_refl w.heap.size) _⟩
      case measure => simp [intOf]; omega
    · obtain rfl : k = m := by omega
      have hval : vl f k = r := by
        have h2 := HV.out
        rw [HX.out, HY.out, ← HR.out] at h2
        refine dif_end (vl_lt f k hf) HRM.out (xc := xc) (yc := yc) (bo := bo) ?_
        omega
      have HG : Hid (r < W64 ^ k) := HRM.out
      have HW : Hid (Wd wr wr.heap.size (some ⟨w.heap.size, 0, none⟩) k (dig r)) := Wd.row hrow fun j hj => by rw [← hval, dig_vl _ _ hf j hj]
      have HB := Lib.hid hb
      clear hval hf h h' hb
      go_wp2_with fail
      refine (c_trimmed _ wr.heap.size _ _ _ r HW.out HG.out (Nat.le_refl _) (by omega)).mono ?_
      rintro e w' ⟨rfl, rfl⟩
      go_wp2
      go_ret
      exact ⟨_, _, rfl, (nw_le _ _).2 HG.out, by omega, HW.out.take ((nw_le _ _).2 HG.out), HB.out⟩
end Go.Proofs.YtnfncdalneifnaaGreatDoor

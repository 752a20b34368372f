/- Multiplying natural numbers: what each call returns, for slices that hold the words of a number. -/
import Derived.Test.YtnfncdalneifnaaGreatDoorZPlus
import Derived.Test.YtnfncdalneifnaaGreatDoorShelf
namespace Go.Proofs.YtnfncdalneifnaaGreatDoor
open Go.RowKit Go.Deep

set_option maxHeartbeats 400000 in
theorem c_mulWords (x y c : Nat) (w : World) (hx : x < W64) (hy : y < W64) (hc : c < W64) :
    Calls Tryz.prog 178 #[U x, U y, U c] w fun e w' => e = .returned (.tuple #[U ((x * y + c) % W64), U ((x * y + c) / W64)]) ∧ w = w' := by
  have hp : x * y ≤ (W64 - 1) * (W64 - 1) := Nat.mul_le_mul (by omega) (by omega)
  unfold W64 at *
  have HC := Tryz.bits_Mul64 x y hx hy w
  have H := Lib.hid HC
  clear HC
  generalize x * y = p at *
  go_enter Tryz.func178, Tryz.ntmps178
  go_wp2_with fail
  refine H.out.mono ?_
  rintro e w' ⟨rfl, rfl⟩
  clear H
  go_wp2
  all_goals (go_ret2; refine ⟨ret_ii ?_ ?_, rfl⟩ <;> (simp only [IntKind.wrap_u64] at *; omega))

theorem mul_step (f s a f' : Nat → Nat) (k w cy lo hi : Nat) (hf : ∀ j, j < k → f' j = f j) (hlo : lo + hi * W64 = a k * w + cy) (h1 : f' k = (s k + lo) % W64)
    (h : vl f k + cy * W64 ^ k = vl s k + vl a k * w) : vl f' (k + 1) + (hi + (s k + lo) / W64) * W64 ^ (k + 1) = vl s (k + 1) + vl a (k + 1) * w := by
  rw [vl_succ, vl_succ, vl_succ, vl_congr f' f k hf, h1, Nat.pow_succ]
  have h2 := mod_div_mul (s k + lo) (W64 ^ k)
  have h3 : (lo + hi * W64) * W64 ^ k = (a k * w + cy) * W64 ^ k := by rw [hlo]
  generalize W64 ^ k = P at *
  generalize (s k + lo) % W64 = u at *
  generalize (s k + lo) / W64 = v at *
  generalize W64 = W at *
  grind

set_option maxHeartbeats 1000000 in
theorem c_addProduct (w : World) (B : Nat) (b o n c N : Nat) (A : Option Addr) (c' q : Nat) (f a : Nat → Nat) (hrow : w.rowIs b 71 N (fun j => U (f j))) (hN : o + n ≤ N) (hA : Wd w B A n a) (hB : B ≤ b)
    (hn : n ≤ 1000000000) (hq : q < W64) (hf : ∀ j, j < N → f j < W64) (ha : ∀ j, j < n → a j < W64) :
    Calls Tryz.prog 152 #[.slice (some ⟨b, o, none⟩) n c, .slice A n c', U q] w fun e w' => ∃ (r : Nat) (f' : Nat → Nat), e = .returned (U r) ∧ r < W64 ∧
      w'.rowIs b 71 N (fun j => U (f' j)) ∧ (∀ j, j < N → f' j < W64) ∧ (∀ j, j < o ∨ o + n ≤ j → f' j = f j) ∧
      vl (fun j => f' (o + j)) n + r * W64 ^ n = vl (fun j => f (o + j)) n + vl a n * q ∧ Below b w w' ∧ w'.heap.size = w.heap.size := by
  go_enter Tryz.func152, Tryz.ntmps152
  go_wp2
  go_loopw [7, 8, 9, 10, 11, 14] (fun cy _ _ _ _ i wr => ∃ (k r : Nat) (f' : Nat → Nat), k ≤ n ∧ i = .int .i64 k ∧ cy = U r ∧ r < W64 ∧ wr.rowIs b 71 N (fun j => U (f' j)) ∧ (∀ j, j < N → f' j < W64) ∧
    (∀ j, j < o ∨ o + k ≤ j → f' j = f j) ∧ Hid (vl (fun j => f' (o + j)) k + r * W64 ^ k = vl (fun j => f (o + j)) k + vl a k * q) ∧ Below b w wr ∧ Hid (wr.heap.size = w.heap.size)) (fun _ _ _ _ _ i _ => n - (intOf i).toNat)
  case atStart =>
    exact ⟨0, 0, f, by omega, rfl, rfl, W64_pos, hrow, hf, fun j _ => rfl, by show vl _ 0 + 0 * _ = _; simp [vl], Below.refl _ _, rfl⟩
  case round =>
    obtain ⟨k, r, f', hk, rfl, rfl, hr, hrow', hf', hfar, HV, hb, HZ⟩ := hrel
    have HFar := Lib.hid hfar
    clear hfar
    by_cases hlt : k < n
    · have hx := hA.below (hb.mono hB)
      obtain ⟨b1, o1, rfl, hcell⟩ := hx.at_ hlt
      have hS := hrow'.cell (i := o + k) (by omega)
      have hZ := hrow'.frozen (o + k)
      have hak := ha k hlt
      have hfk := hf' (o + k) (by omega)
      have hcar : a k * q + r ≤ (W64 - 1) * (W64 - 1) + (W64 - 1) := by
        have := Nat.mul_le_mul (Nat.le_sub_one_of_lt hak) (Nat.le_sub_one_of_lt hq)
        omega
      go_wp2_with fail
      refine (c_mulWords _ _ _ _ hak hq hr).mono ?_
      rintro e w' ⟨rfl, rfl⟩
      have Hlo : Hid ((a k * q + r) % W64 + (a k * q + r) / W64 * W64 = a k * q + r) := by
        show _ = _
        have := Nat.div_add_mod (a k * q + r) W64
        rw [Nat.mul_comm] at this; omega
      have hlo : (a k * q + r) % W64 < W64 := Nat.mod_lt _ W64_pos
      generalize (a k * q + r) % W64 = lo at *
      generalize (a k * q + r) / W64 = hi at *
      go_wp2_with fail
      refine (c_addWords (f' (o + k)) lo 0 _ hfk hlo (by omega)).mono ?_
      rintro e w' ⟨rfl, rfl⟩
      rw [Nat.add_zero]
      have Hs : Hid ((f' (o + k) + lo) % W64 + (f' (o + k) + lo) / W64 * W64 = f' (o + k) + lo) := by
        show _ = _
        have := Nat.div_add_mod (f' (o + k) + lo) W64
        rw [Nat.mul_comm] at this; omega
      have hnew : (f' (o + k) + lo) % W64 < W64 := Nat.mod_lt _ W64_pos
      have hsum : hi + (f' (o + k) + lo) / W64 < W64 := by
        have h1 := Hlo.out
        have h2 := Hs.out
        clear Hlo Hs HV
        generalize a k * q = p at *
        generalize (f' (o + k) + lo) / W64 = v at *
        unfold W64 at *
        omega
      have Hst := Lib.hid (mul_step (fun j => f' (o + j)) (fun j => f (o + j)) a (fun j => upd f' (o + k) ((f' (o + k) + lo) % W64) (o + j)) k q r lo hi (fun j hj => upd_ne _ _ _ _ (by omega)) Hlo.out
        (by show upd _ _ _ _ = _; rw [upd_same, HFar.out _ (.inr (Nat.le_refl _))]) HV.out)
      have Hw : Hid (IntKind.u64.wrap ((hi : Int) + (((f' (o + k) + lo) / W64 : Nat) : Int)) = ((hi + (f' (o + k) + lo) / W64 : Nat) : Int)) := by
        show _ = _
        generalize (f' (o + k) + lo) / W64 = v at *
        unfold W64 at *
        rw [IntKind.wrap_u64]; omega
      clear hx hA Hs Hlo hcar
      go_wp2
      go_roundw
      case rel =>
        refine ⟨k + 1, hi + (f' (o + k) + lo) / W64, upd f' (o + k) ((f' (o + k) + lo) % W64), by omega, by go_num, ?_, hsum, set_nat hrow' (o + k) _ _ (by go_num), ?_, ?_, ?_, hb.setCell (Nat.le_refl b) _, ?_⟩
        · have e : ((f' (o + k) : Int) + (lo : Int)) / (W64 : Int) = (((f' (o + k) + lo) / W64 : Nat) : Int) := by push_cast; rfl
          rw [e, Hw.out]
        · exact upd_lt f' (o + k) _ N (fun j hj _ => hf' j hj) hnew
        · intro j hj
          rw [upd_ne _ _ _ _ (by omega)]
          exact HFar.out j (by omega)
        · have h9 := Hst.out
          rw [← HFar.out (o + k) (.inr (Nat.le_refl _))] at h9
          exact h9
        · show _ = _
          rw [nblk_setCell]; exact HZ.out
      case measure => simp [intOf]; omega
    · obtain rfl : k = n := by omega
      go_wp2
      go_ret
      refine ⟨r, f', rfl, hr, hrow', hf', HFar.out, HV.out, hb, HZ.out⟩
end Go.Proofs.YtnfncdalneifnaaGreatDoor

/- Shifting a natural number to the left in new memory: what the call returns. -/
import Derived.Test.YtnfncdalneifnaaGreatDoorZGs
import Derived.StillTailTactics

/- Shifting a natural number to the left in new memory: what the call returns. -/
section
namespace Go.Proofs.YtnfncdalneifnaaGreatDoor
open Go.RowKit Go.Deep

/-- What the words below k hand up when x is shifted by s. -/
def upC (x s k : Nat) : Nat := x % W64 ^ k * 2 ^ s / W64 ^ k
theorem upC_zero (x s : Nat) : upC x s 0 = 0 := by unfold upC; rw [Nat.pow_zero, Nat.mod_one, Nat.zero_mul, Nat.zero_div]
theorem upC_lt (x s k : Nat) : upC x s k < 2 ^ s := by
  unfold upC
  rw [Nat.div_lt_iff_lt_mul (W64_pow_pos k), Nat.mul_comm (2 ^ s)]
  exact Nat.mul_lt_mul_of_pos_right (Nat.mod_lt _ (W64_pow_pos k)) (Nat.pow_pos (by decide))
theorem W64_split (s : Nat) (hs : s ≤ 64) : W64 = 2 ^ s * 2 ^ (64 - s) := by rw [← Nat.pow_add, show s + (64 - s) = 64 by omega, pow_64]
theorem mod_succ_dig (x k : Nat) : x % W64 ^ (k + 1) = x % W64 ^ k + W64 ^ k * dig x k := by
  unfold dig
  rw [Nat.pow_succ, Nat.mod_mul]
theorem upC_succ (x s k : Nat) (hs : s ≤ 64) : upC x s (k + 1) = dig x k / 2 ^ (64 - s) := by
  have h1 := upC_lt x s k
  unfold upC at *
  have hp : 0 < 2 ^ s := Nat.pow_pos (by decide)
  rw [mod_succ_dig, Nat.add_mul, Nat.pow_succ, ← Nat.div_div_eq_div_mul, Nat.mul_assoc, Nat.add_mul_div_left _ _ (W64_pow_pos k)]
  rw [show (W64 : Nat) = 2 ^ s * 2 ^ (64 - s) from W64_split s hs, ← Nat.div_div_eq_div_mul]
  congr 1
  rw [Nat.add_mul_div_right _ _ hp]
  rw [← W64_split s hs, Nat.div_eq_of_lt h1, Nat.zero_add]
theorem dig_shl (x s k : Nat) : dig (x * 2 ^ s) k = (dig x k * 2 ^ s + upC x s k) % W64 := by
  unfold dig upC
  have e : x * 2 ^ s = x % W64 ^ k * 2 ^ s + W64 ^ k * (x / W64 ^ k * 2 ^ s) := by
    have h := Nat.div_add_mod x (W64 ^ k)
    have h2 : x * 2 ^ s = (W64 ^ k * (x / W64 ^ k) + x % W64 ^ k) * 2 ^ s := by rw [h]
    rw [Nat.add_mul, Nat.mul_assoc] at h2
    omega
  rw [e, Nat.add_mul_div_left _ _ (W64_pow_pos k), Nat.add_comm]
  generalize x % W64 ^ k * 2 ^ s / W64 ^ k = c
  generalize x / W64 ^ k = d
  have h9 : d * 2 ^ s % W64 = d % W64 * 2 ^ s % W64 := (Nat.mod_mul_mod _ _ _).symm
  rw [Nat.add_mod, h9, ← Nat.add_mod]
theorem dig_shl_or (x s k : Nat) (hs : s < 64) : bits .or .u64 (IntKind.u64.wrap ((dig x k : Int) * 2 ^ s)) (upC x s k : Int) = (dig (x * 2 ^ s) k : Int) := by
  have hp : 0 < 2 ^ s := Nat.pow_pos (by decide)
  have hsplit := W64_split s (by omega)
  have h1 : IntKind.u64.wrap ((dig x k : Int) * 2 ^ s) = ((dig x k * 2 ^ s % W64 : Nat) : Int) := by
    rw [IntKind.wrap_u64, Int.natCast_emod, Int.natCast_mul, Int.natCast_pow]; rfl
  have hu := upC_lt x s k
  have hm : dig x k * 2 ^ s % W64 = 2 ^ s * (dig x k % 2 ^ (64 - s)) := by rw [hsplit, Nat.mul_comm (dig x k), Nat.mul_mod_mul_left]
  have hlt : dig x k * 2 ^ s % W64 < W64 := Nat.mod_lt _ W64_pos
  have huW : upC x s k < W64 := by
    have : 2 ^ s ≤ 2 ^ 64 := Nat.pow_le_pow_right (by decide) (by omega)
    rw [pow_64] at this; omega
  rw [h1, bits_or_u64_nat _ _ hlt huW, hm, ← Nat.two_pow_add_eq_or_of_lt hu, dig_shl, Nat.add_mod, hm, Nat.mod_eq_of_lt huW]
  congr 1
  refine (Nat.mod_eq_of_lt ?_).symm
  have h3 : dig x k % 2 ^ (64 - s) + 1 ≤ 2 ^ (64 - s) := Nat.mod_lt _ (Nat.pow_pos (by decide))
  have h4 : 2 ^ s * (dig x k % 2 ^ (64 - s) + 1) ≤ 2 ^ s * 2 ^ (64 - s) := Nat.mul_le_mul_left _ h3
  rw [← hsplit, Nat.mul_add] at h4
  omega

set_option maxRecDepth 100000 in
set_option maxHeartbeats 2000000 in
theorem c_shifted (w : World) (B : Nat) (A : Option Addr) (n c x s m : Nat) (h : Wd w B A n (dig x)) (hx : x < W64 ^ n) (hB : B ≤ w.heap.size) (hs : s < 64) (hm : m ≤ 1000000001) :
    Calls Tryz.prog 149 #[.slice A n c, .int .i64 s, .int .i64 m] w fun e w' => e = .returned (.slice (some ⟨w.heap.size, 0, none⟩) m m) ∧ w'.rowIs w.heap.size 71 m (fun j => U (dig (x * 2 ^ s) j)) ∧ Below w.heap.size w w' := by
  have HX := Lib.hid hx
  have hmk := fun W => run_make_row' (P := Tryz.prog) 76 71 (.int .u64 0) 8 Tryz.underlying76 info_u64 rfl .i64 .i64 m (by omega) (by omega) W
  have HS := Lib.hid hs
  have hs0 : ¬ (s : Int) < 0 := by omega
  clear hx hs
  go_enter Tryz.func149, Tryz.ntmps149
  go_wp2
  clear hmk
  go_loopw [8, 9, 10, 15] (fun cy _ _ i wr => ∃ (k : Nat) (f : Nat → Nat), k ≤ m ∧ i = .int .i64 k ∧ cy = U (upC x s k) ∧ wr.rowIs w.heap.size 71 m (fun j => U (f j)) ∧ Hid (∀ j, j < k → f j = dig (x * 2 ^ s) j) ∧ Below w.heap.size w wr) (fun _ _ _ i _ => m - (intOf i).toNat)
  case atStart =>
    exact ⟨0, fun _ => 0, by omega, rfl, by rw [upC_zero]; rfl, World.rowIs_made _ _ _ _, fun j hj => absurd hj (by omega), (Below.refl _ _).alloc (Nat.le_refl _) _⟩
  case round =>
    obtain ⟨k, f, hk, rfl, rfl, hrow, HF, hb⟩ := hrel
    by_cases hlt : k < m
    · have hx := h.below (hb.mono hB)
      have hS := hrow.cell (i := k) (by omega)
      have hZ := hrow.frozen k
      go_wp2_with fail
      refine (c_atN wr B A n c k x hx HX.out).mono ?_
      rintro e w' ⟨rfl, rfl⟩
      have HO := Lib.hid (dig_shl_or x s k HS.out)
      have HU := Lib.hid (upC_succ x s k (Nat.le_of_lt HS.out))
      clear h hx
      generalize dig x k = d at *
      have hw64 : wrap64 (64 - (s : Int)) = ((64 - s : Nat) : Int) := by have := HS.out; unfold wrap64; omega
      have HC : Hid (Value.int .u64 ((d : Int) / 2 ^ (64 - s)) = U (upC x s (k + 1))) := by
        show _ = Value.int .u64 ((upC x s (k + 1) : Nat) : Int)
        rw [HU.out, Int.natCast_ediv, Int.natCast_pow]; rfl
      have hmin : min s 64 = s := Nat.min_eq_left (Nat.le_of_lt HS.out)
      go_wp2_with fail
      go_roundw
      case rel =>
        refine ⟨k + 1, upd f k (dig (x * 2 ^ s) k), by omega, by go_num, HC.out, set_nat hrow k _ _ (show Value.int .u64 _ = Value.int .u64 _ by rw [HO.out]), ?_, hb.setCell (Nat.le_refl w.heap.size) _⟩
        intro j hj
        by_cases e : j = k
        · subst e; exact upd_same _ _ _
        · rw [upd_ne _ _ _ _ e]; exact HF.out j (by omega)
      case measure => simp [intOf]; omega
    · obtain rfl : k = m := by omega
      clear h
      go_wp2
      go_ret
      exact ⟨rfl, hrow.congr fun j hj => by rw [HF.out j hj], hb⟩
end Go.Proofs.YtnfncdalneifnaaGreatDoor
end

/- Subtracting a natural number times a word in place: what the call leaves. -/
section
namespace Go.Proofs.YtnfncdalneifnaaGreatDoor
open Go.RowKit Go.Deep

theorem subp_step (f s a f' : Nat → Nat) (k w cy bo lo hi bo' : Nat) (hf : ∀ j, j < k → f' j = f j) (hlo : lo + hi * W64 = a k * w + cy) (h1 : f' k * W64 ^ k + lo * W64 ^ k + bo * W64 ^ k = s k * W64 ^ k + bo' * (W64 ^ k * W64))
    (h : vl f k + vl a k * w = vl s k + (bo + cy) * W64 ^ k) : vl f' (k + 1) + vl a (k + 1) * w = vl s (k + 1) + (bo' + hi) * W64 ^ (k + 1) := by
  rw [vl_succ, vl_succ, vl_succ, vl_congr f' f k hf, Nat.pow_succ]
  have h3 : (lo + hi * W64) * W64 ^ k = (a k * w + cy) * W64 ^ k := by rw [hlo]
  generalize W64 ^ k = P at *
  generalize W64 = W at *
  grind

end Go.Proofs.YtnfncdalneifnaaGreatDoor
end

/- Shifting a natural number to the right: what the call returns. -/
section
namespace Go.Proofs.YtnfncdalneifnaaGreatDoor
open Go.RowKit Go.Deep

theorem dig_shr (x s k : Nat) (hs : s < 64) : dig (x / 2 ^ s) k = dig x k / 2 ^ s + dig x (k + 1) * 2 ^ (64 - s) % W64 := by
  have hp : 0 < 2 ^ s := Nat.pow_pos (by decide)
  have hsplit := W64_split s (by omega)
  unfold dig
  rw [Nat.div_div_eq_div_mul, Nat.mul_comm (2 ^ s), ← Nat.div_div_eq_div_mul, Nat.pow_succ, ← Nat.div_div_eq_div_mul]
  generalize x / W64 ^ k = y
  have e := Nat.div_add_mod y W64
  have e2 : y = y % W64 + 2 ^ s * (2 ^ (64 - s) * (y / W64)) := by
    rw [← Nat.mul_assoc, ← hsplit]; omega
  have e3 : y / 2 ^ s = y % W64 / 2 ^ s + 2 ^ (64 - s) * (y / W64) := by
    have h : y / 2 ^ s = (y % W64 + 2 ^ s * (2 ^ (64 - s) * (y / W64))) / 2 ^ s := by rw [← e2]
    rw [h, Nat.add_mul_div_left _ _ hp]
  have hlt : y % W64 / 2 ^ s < 2 ^ (64 - s) := by
    rw [Nat.div_lt_iff_lt_mul hp, Nat.mul_comm, ← hsplit]; exact Nat.mod_lt _ W64_pos
  have h4 : y / W64 % W64 * 2 ^ (64 - s) % W64 = 2 ^ (64 - s) * (y / W64) % W64 := by rw [Nat.mod_mul_mod, Nat.mul_comm]
  have hs2 : W64 = 2 ^ (64 - s) * 2 ^ s := by rw [Nat.mul_comm]; exact hsplit
  have h5 : 2 ^ (64 - s) * (y / W64) % W64 = 2 ^ (64 - s) * (y / W64 % 2 ^ s) := by rw [hs2, Nat.mul_mod_mul_left]
  have h6 : y / W64 % 2 ^ s + 1 ≤ 2 ^ s := Nat.mod_lt _ hp
  have h7 : 2 ^ (64 - s) * (y / W64 % 2 ^ s + 1) ≤ 2 ^ (64 - s) * 2 ^ s := Nat.mul_le_mul_left _ h6
  rw [← hs2, Nat.mul_add] at h7
  have h8 : 2 ^ (64 - s) ≤ W64 := by rw [hs2]; exact Nat.le_mul_of_pos_right _ hp
  rw [e3, h4, Nat.add_mod, h5, Nat.mod_eq_of_lt (show y % W64 / 2 ^ s < W64 by omega)]
  exact Nat.mod_eq_of_lt (by omega)
theorem dig_shr_or (x s k : Nat) (hs : s < 64) : bits .or .u64 ((dig x k : Int) / 2 ^ s) (IntKind.u64.wrap ((dig x (k + 1) : Int) * 2 ^ (64 - s))) = (dig (x / 2 ^ s) k : Int) := by
  have hp : 0 < 2 ^ s := Nat.pow_pos (by decide)
  have hsplit := W64_split s (by omega)
  have hs2 : W64 = 2 ^ (64 - s) * 2 ^ s := by rw [Nat.mul_comm]; exact hsplit
  have h1 : IntKind.u64.wrap ((dig x (k + 1) : Int) * 2 ^ (64 - s)) = ((dig x (k + 1) * 2 ^ (64 - s) % W64 : Nat) : Int) := by
    rw [IntKind.wrap_u64, Int.natCast_emod, Int.natCast_mul, Int.natCast_pow]; rfl
  have h2 : (dig x k : Int) / 2 ^ s = ((dig x k / 2 ^ s : Nat) : Int) := by rw [Int.natCast_ediv, Int.natCast_pow]; rfl
  have hlt : dig x k / 2 ^ s < 2 ^ (64 - s) := by
    rw [Nat.div_lt_iff_lt_mul hp, Nat.mul_comm, ← hsplit]; exact dig_lt x k
  have h8 : 2 ^ (64 - s) ≤ W64 := by rw [hs2]; exact Nat.le_mul_of_pos_right _ hp
  have hm : dig x (k + 1) * 2 ^ (64 - s) % W64 = 2 ^ (64 - s) * (dig x (k + 1) % 2 ^ s) := by rw [hs2, Nat.mul_comm (dig x (k + 1)), Nat.mul_mod_mul_left]
  rw [h1, h2, bits_or_u64_nat _ (dig x (k + 1) * 2 ^ (64 - s) % W64) (Nat.lt_of_lt_of_le hlt h8) (Nat.mod_lt _ W64_pos), Nat.or_comm, hm, ← Nat.two_pow_add_eq_or_of_lt hlt, ← hm, dig_shr x s k hs, Nat.add_comm]
end Go.Proofs.YtnfncdalneifnaaGreatDoor
end

/- Shifting a natural number to the right in new memory: what the call returns. -/
section
namespace Go.Proofs.YtnfncdalneifnaaGreatDoor
open Go.RowKit Go.Deep

theorem still_hold {P : Program} {ops : Array Oper} {w : World} {Q : Act → Prop} {l : List Oper} {a : Act} (h : ∀ Q0 : Act → Prop, Hid (∀ a', Q a' → Q0 a') → wpStill P ops w Q0 l a) : wpStill P ops w Q l a := h Q (Lib.hid fun _ h => h)

set_option maxRecDepth 100000 in
set_option maxHeartbeats 2000000 in
theorem c_unshifted (w : World) (B : Nat) (A : Option Addr) (n c x s : Nat) (h : Wd w B A n (dig x)) (hx : x < W64 ^ n) (hB : B ≤ w.heap.size) (hs : s < 64) (hm : n ≤ 1000000001) :
    Calls Tryz.prog 153 #[.slice A n c, .int .i64 s] w fun e w' => NatRes (x / 2 ^ s) w e w' := by
  have HX := Lib.hid hx
  have hmk := fun W => run_make_row' (P := Tryz.prog) 76 71 (.int .u64 0) 8 Tryz.underlying76 info_u64 rfl .i64 .i64 n (by omega) (by omega) W
  have HS := Lib.hid hs
  have hs0 : ¬ (s : Int) < 0 := by omega
  have HG : Hid (x / 2 ^ s < W64 ^ n) := Nat.lt_of_le_of_lt (Nat.div_le_self _ _) hx
  have hs1 : ¬ (64 - (s : Int)) < 0 := by omega
  have hw64 : wrap64 (64 - (s : Int)) = ((64 - s : Nat) : Int) := by unfold wrap64; omega
  clear hx hs
  go_enter Tryz.func153, Tryz.ntmps153
  go_wp2
  clear hmk
  go_loopw [6, 7, 13] (fun _ _ i wr => ∃ (k : Nat) (f : Nat → Nat), k ≤ n ∧ i = .int .i64 k ∧ wr.rowIs w.heap.size 71 n (fun j => U (f j)) ∧ Hid (∀ j, j < k → f j = dig (x / 2 ^ s) j) ∧ Below w.heap.size w wr) (fun _ _ i _ => n - (intOf i).toNat)
  case atStart =>
    exact ⟨0, fun _ => 0, by omega, rfl, World.rowIs_made _ _ _ _, fun j hj => absurd hj (by omega), (Below.refl _ _).alloc (Nat.le_refl _) _⟩
  case round =>
    obtain ⟨k, f, hk, rfl, hrow, HF, hb⟩ := hrel
    by_cases hlt : k < n
    · have hx := h.below (hb.mono hB)
      obtain ⟨b1, o1, rfl, hcell⟩ := hx.at_ hlt
      have hS := hrow.cell (i := k) (by omega)
      have hZ := hrow.frozen k
      have HO := Lib.hid (dig_shr_or x s k HS.out)
      have hws : IntKind.i64.wrap (64 - (s : Int)) = ((64 - s : Nat) : Int) := by have := HS.out; unfold IntKind.wrap; simp [IntKind.bits, IntKind.signed]; omega
      have hA := c_atN wr.drew B (some ⟨b1, o1, none⟩) n c (k + 1) x hx HX.out
      have hwk : IntKind.i64.wrap ((k : Int) + 1) = ((k + 1 : Nat) : Int) := by unfold IntKind.wrap; simp [IntKind.bits, IntKind.signed]; omega
      have HA : Hid (Calls Tryz.prog 90 #[.slice (some ⟨b1, o1, none⟩) n c, .int .i64 (IntKind.i64.wrap ((k : Int) + 1))] wr.drew fun e w' => e = .returned (U (dig x (k + 1))) ∧ w' = wr.drew) := by
        rw [hwk]
        refine hA.mono ?_
        rintro e w' ⟨h1, h2⟩
        exact ⟨h1, h2.symm⟩
      clear h hx hA hwk
      generalize dig x k = d at *
      go_wp2_with fail
      refine wp_region_still_tail 14 (by kernel_rfl) (by kernel_rfl) ?_
      simp only [List.take_succ_cons, List.take_zero, List.drop_succ_cons, List.drop_zero]
      refine still_hold fun Q0 HQ0 => ?_
      change wpStill _ _ wr.drew _ _ _
      have hrow2 : wr.drew.rowIs w.heap.size 71 n fun j => U (f j) := hrow
      have hb2 : Below w.heap.size w wr.drew := Below.drew hb
      have hS2 := hrow2.cell (i := k) (by omega)
      have hZ2 := hrow2.frozen k
      clear hcell hrow hS hZ hb
      generalize hw2 : wr.drew = w2 at *
      iterate 8 still_step
      still_call (HA.out)
      iterate 2 still_step
      iterate 3 still_step
      refine wpStill_nil ?_
      refine HQ0.out _ ?_
      clear HQ0 Q0 HA
      go_wp2
      rw [HO.out]
      refine ⟨⟨k + 1, upd f k (dig (x / 2 ^ s) k), by omega, by go_num, set_nat hrow2 k _ _ rfl, ?_, hb2.setCell (Nat.le_refl w.heap.size) _⟩, by simp [intOf]; omega⟩
      intro j hj
      by_cases e : j = k
      · subst e; exact upd_same _ _ _
      · rw [upd_ne _ _ _ _ e]; exact HF.out j (by omega)
    · obtain rfl : k = n := by omega
      have HW : Hid (Wd wr wr.heap.size (some ⟨w.heap.size, 0, none⟩) k (dig (x / 2 ^ s))) := Wd.row hrow fun j hj => by rw [HF.out j hj]
      have HB := Lib.hid hb
      clear h hb hs0 hs1 hw64
      go_wp2_with fail
      refine (c_trimmed _ wr.heap.size _ _ _ (x / 2 ^ s) HW.out HG.out (Nat.le_refl _) (by omega)).mono ?_
      rintro e w' ⟨rfl, rfl⟩
      go_wp2
      go_ret
      exact ⟨_, _, rfl, (nw_le _ _).2 HG.out, by omega, HW.out.take ((nw_le _ _).2 HG.out), HB.out⟩
end Go.Proofs.YtnfncdalneifnaaGreatDoor
end

/- Plain numbers: subtracting, multiplying and dividing digits to the base 10^9. No condition. -/
import Derived.Test.YtoippldgoehpcaaGreatDoorZN9
import Derived.Deep.LoopGhost
import Derived.Deep.RegionWith
import Derived.StillTailTactics

/- Plain numbers: subtracting, multiplying and dividing digits to the base 10^9. No condition. -/
section
namespace Go.Proofs.YtoippldgoehpcaaGreatDoor
theorem sub_mod9 (a b q : Nat) (ha : a < B9) (hb : b < B9) (hq : q ≤ 1) :
    (a + B9 - b - q) % B9 + b + q = a + (1 - (a + B9 - b - q) / B9) * B9 ∧ (a + B9 - b - q) / B9 ≤ 1 := by
  unfold B9 at *
  omega
theorem sub_step9 (f gx gy f' : Nat → Nat) (k q : Nat) (hf : ∀ j, j < k → f' j = f j) (h1 : f' k = (gx k + B9 - gy k - q) % B9) (hx : gx k < B9) (hy : gy k < B9) (hq : q ≤ 1)
    (h : vl9 f k + vl9 gy k = vl9 gx k + q * B9 ^ k) : vl9 f' (k + 1) + vl9 gy (k + 1) = vl9 gx (k + 1) + (1 - (gx k + B9 - gy k - q) / B9) * B9 ^ (k + 1) := by
  rw [vl_succ9, vl_succ9, vl_succ9, vl_congr9 f' f k hf, h1, Nat.pow_succ]
  have h2 := (sub_mod9 (gx k) (gy k) q hx hy hq).1
  generalize (gx k + B9 - gy k - q) % B9 = r at *
  generalize (1 - (gx k + B9 - gy k - q) / B9) = c at *
  generalize B9 ^ k = P at *
  have h3 : (r + gy k + q) * P = (gx k + c * B9) * P := by rw [h2]
  have h4 : c * (P * B9) = c * B9 * P := by rw [Nat.mul_comm P, Nat.mul_assoc]
  rw [Nat.add_mul, Nat.add_mul, Nat.add_mul] at h3
  omega
theorem vl_add9 (f : Nat → Nat) (i n : Nat) : vl9 f (i + n) = vl9 f i + B9 ^ i * vl9 (fun j => f (i + j)) n := by
  induction n with
  | zero => simp [vl9]
  | succ n ih =>
    rw [← Nat.add_assoc, vl_succ9, ih, vl_succ9, Nat.mul_add, Nat.pow_add]
    generalize B9 ^ i = P; generalize B9 ^ n = Q
    grind
theorem mul_lt9 (a b c d : Nat) (ha : a < B9) (hb : b < B9) (hc : c < B9) (hd : d < B9) : d + a * b + c < B9 * B9 := by
  have h1 : a * b ≤ (B9 - 1) * (B9 - 1) := Nat.mul_le_mul (by omega) (by omega)
  unfold B9 at *
  omega
theorem mul_carry9 (a b c d : Nat) (ha : a < B9) (hb : b < B9) (hc : c < B9) (hd : d < B9) : (d + a * b + c) / B9 < B9 := by
  rw [Nat.div_lt_iff_lt_mul B9_pos]
  exact mul_lt9 a b c d ha hb hc hd
theorem mul_step9 (f f' F gy : Nat → Nat) (k c a : Nat) (hf : ∀ j, j < k → F j = f' j) (h1 : F k = (f k + a * gy k + c) % B9)
    (h : vl9 f' k + c * B9 ^ k = vl9 f k + a * vl9 gy k) : vl9 F (k + 1) + (f k + a * gy k + c) / B9 * B9 ^ (k + 1) = vl9 f (k + 1) + a * vl9 gy (k + 1) := by
  rw [vl_succ9, vl_succ9, vl_succ9, vl_congr9 F f' k hf, h1, Nat.pow_succ]
  have h2 := mod_div_mul9 (f k + a * gy k + c) (B9 ^ k)
  generalize (f k + a * gy k + c) % B9 = r at *
  generalize (f k + a * gy k + c) / B9 = q at *
  generalize B9 ^ k = P at *
  rw [Nat.add_mul, Nat.add_mul] at h2
  have h3 : a * (vl9 gy k + gy k * P) = a * vl9 gy k + a * gy k * P := by rw [Nat.mul_add, Nat.mul_assoc]
  omega
theorem times_step9 (f F gx : Nat → Nat) (i n y : Nat) (hlow : ∀ j, j < i → F j = f j)
    (h1 : vl9 (fun j => F (i + j)) (n + 1) = vl9 (fun j => f (i + j)) n + gx i * y) (h2 : vl9 f (i + n) = vl9 gx i * y) :
    vl9 F (i + 1 + n) = vl9 gx (i + 1) * y := by
  rw [show i + 1 + n = i + (n + 1) by omega, vl_add9, h1, vl_succ9, vl_congr9 F f i hlow, Nat.add_mul, ← h2, vl_add9]
  generalize vl9 (fun j => f (i + j)) n = b
  generalize B9 ^ i = P
  grind
/-- The number with one digit more below. -/
theorem dig_cons_zero9 (r d : Nat) (hd : d < B9) : dig9 (r * B9 + d) 0 = d := by
  rw [dig_zero9, Nat.mul_add_mod_of_lt hd]
theorem dig_cons_succ9 (r d k : Nat) (hd : d < B9) : dig9 (r * B9 + d) (k + 1) = dig9 r k := by
  unfold dig9
  rw [Nat.pow_succ', ← Nat.div_div_eq_div_mul, Nat.add_comm, Nat.add_mul_div_right _ _ B9_pos, Nat.div_eq_of_lt hd, Nat.zero_add]
theorem cons_lt9 (r d n : Nat) (hr : r < B9 ^ n) (hd : d < B9) : r * B9 + d < B9 ^ (n + 1) := by
  rw [Nat.pow_succ]
  have : (r + 1) * B9 ≤ B9 ^ n * B9 := Nat.mul_le_mul_right _ hr
  rw [Nat.add_mul] at this
  omega
theorem over_parts (a d y : Nat) (hy : 0 < y) (hd : d < B9) : (a * B9 + d) / y = a / y * B9 + (a % y * B9 + d) / y ∧ (a * B9 + d) % y = (a % y * B9 + d) % y ∧ (a % y * B9 + d) / y < B9 := by
  have h1 := Nat.div_add_mod a y
  have h2 : a * B9 + d = (a % y * B9 + d) + y * (a / y * B9) := by
    conv => lhs; rw [← h1]
    rw [Nat.add_mul, Nat.mul_assoc]; omega
  have hr := Nat.mod_lt a hy
  refine ⟨?_, ?_, ?_⟩
  · rw [h2, Nat.add_mul_div_left _ _ hy]; omega
  · rw [h2, Nat.add_mul_mod_self_left]
  · rw [Nat.div_lt_iff_lt_mul hy, Nat.mul_comm B9]
    have : (a % y + 1) * B9 ≤ y * B9 := Nat.mul_le_mul_right _ hr
    rw [Nat.add_mul] at this
    omega
theorem over_digit9 (x y i : Nat) (hy : 0 < y) : (x / B9 ^ (i + 1) % y * B9 + dig9 x i) / y = dig9 (x / y) i := by
  have h1 := over_parts (x / B9 ^ (i + 1)) (dig9 x i) y hy (dig_lt9 x i)
  have h2 : x / y / B9 ^ i = x / B9 ^ i / y := by rw [Nat.div_div_eq_div_mul, Nat.div_div_eq_div_mul, Nat.mul_comm]
  rw [show dig9 (x / y) i = x / y / B9 ^ i % B9 from rfl, h2, div_step9 x i, h1.1, Nat.mul_add_mod_of_lt h1.2.2]
theorem over_rest9 (x y i : Nat) (hy : 0 < y) : (x / B9 ^ (i + 1) % y * B9 + dig9 x i) % y = x / B9 ^ i % y := by
  rw [div_step9 x i]
  exact (over_parts (x / B9 ^ (i + 1)) (dig9 x i) y hy (dig_lt9 x i)).2.1.symm
end Go.Proofs.YtoippldgoehpcaaGreatDoor
end

/- The reference's natural numbers: of a word. -/
section
namespace Go.Proofs.YtoippldgoehpcaaGreatDoor
open Go.RowKit Go.Deep

theorem own_nat9 {w w' : World} {v : Value} {x n : Nat} (h : Own9 w' w.heap.size v n (dig9 x)) (hn : nw9 x = n) (hb : Below w.heap.size w w') : Nat9 x w (.returned v) w' := by
  obtain ⟨A, c, rfl, h1, h2, h3⟩ := h.out
  subst hn
  exact ⟨_, rfl, ⟨A, c, rfl, h1, by unfold maxLen at h2; omega, h3⟩, hb⟩
theorem Own9.congr {w : World} {base n : Nat} {v : Value} {f g : Nat → Nat} (h : Own9 w base v n f) (e : ∀ k, k < n → f k = g k) : Own9 w base v n g := by
  obtain ⟨xs, h1, h2⟩ := h
  exact ⟨xs, h1, fun k hk => by rw [h2 k hk, e k hk]⟩

set_option maxHeartbeats 1000000 in
theorem r_natural (w : World) (x : Nat) (hx : x < W64) : Calls Tryz.prog 191 #[U x] w (Nat9 x w) := by
  go_enter Tryz.func191, Tryz.ntmps191
  go_wp2
  go_loopw [0, 3] (fun v out wr => ∃ k q : Nat, v = U q ∧ q < W64 ∧ Hid (q = x / B9 ^ k) ∧ k ≤ 64 ∧ Own9 wr w.heap.size out k (dig9 x) ∧ Below w.heap.size w wr ∧ Hid (q * 2 ^ k < 2 ^ 64) ∧ Hid (k = 0 ∨ B9 ^ (k - 1) ≤ x)) (fun v _ _ => (intOf v).toNat)
  case atStart => exact ⟨0, x, rfl, hx, by show x = x / 1; simp, by omega, Own9.nil _ _ _, Below.refl _ _, by show x * 1 < _; unfold W64 at hx; omega, .inl rfl⟩
  case round =>
    obtain ⟨k, q, rfl, hq, HQ, hk, hown, hb, HL, HK⟩ := hrel
    have hown' := hown
    obtain ⟨A, c, rfl, -, -, -⟩ := hown'.out
    by_cases h0 : q = 0
    · subst h0
      have hlt : x < B9 ^ k := by
        have h1 := HQ.out
        rcases Nat.lt_or_ge x (B9 ^ k) with h2 | h2
        · exact h2
        · have := Nat.div_pos h2 (B9_pow_pos k); omega
      have R := Lib.hid (own_nat9 hown ((nw_of9 x k hlt (HK.out)) ) hb)
      clear hq hown hown' hb HQ HL HK hlt hk
      go_wp2
      go_ret
      exact R.out
    · have hq0 : (0 : Int) < (q : Int) := by omega
      have HD : Hid (dig9 x k = q % 1000000000) := by show x / B9 ^ k % B9 = _; rw [← HQ.out]; rfl
      have HN : Hid (q / 1000000000 = x / B9 ^ (k + 1)) := by show _ = _; rw [Nat.pow_succ, ← Nat.div_div_eq_div_mul, ← HQ.out]; rfl
      have HK' : Hid (k + 1 = 0 ∨ B9 ^ (k + 1 - 1) ≤ x) := .inr (by
        rw [Nat.add_sub_cancel]
        rcases Nat.lt_or_ge x (B9 ^ k) with h2 | h2
        · have h1 := HQ.out; rw [Nat.div_eq_of_lt h2] at h1; omega
        · exact h2)
      have HL' : Hid (q / 1000000000 * 2 ^ (k + 1) < 2 ^ 64) := by
        show _ < _
        have h1 := HL.out
        have h2 : q / 1000000000 * 2 ≤ q := by omega
        have h3 : q / 1000000000 * 2 * 2 ^ k ≤ q * 2 ^ k := Nat.mul_le_mul_right _ h2
        rw [Nat.pow_succ, Nat.mul_comm (2 ^ k), ← Nat.mul_assoc]
        omega
      have hk' : k < 64 := by
        rcases Nat.lt_or_ge k 64 with h1 | h1
        · exact h1
        · have h2 : 2 ^ 64 ≤ 2 ^ k := Nat.pow_le_pow_right (by decide) h1
          have h3 : 1 * 2 ^ k ≤ q * 2 ^ k := Nat.mul_le_mul_right _ (by omega)
          have h4 := HL.out
          omega
      have Hq := Lib.hid hq
      have HWn := Lib.hid hown
      have HB := Lib.hid hb
      have hsz := hb.size
      clear hq hown hown' hb HQ HL HK
      go_wp2_with (at_builtin; refine wpList_app9 rfl _ _ rfl wr _ (dig9 x k) rfl ?_ w.heap.size _ k (dig9 x) rfl rfl HWn.out (by omega) hsz ?_; (focus (rw [HD.out]; exact congrArg (Value.int .u32) (by omega))); intro v' w' hown2 hb2)
      go_roundw
      case rel =>
        have Hq2 := Hq.out
        refine ⟨k + 1, q / 1000000000, by unfold W64 at Hq2; exact congrArg (Value.int .u64) (by rw [IntKind.wrap_u64]; omega), Nat.lt_of_le_of_lt (Nat.div_le_self _ _) Hq2, HN, by omega, hown2.congr fun j hj => ?_, HB.out.trans hb2, HL', HK'⟩
        by_cases e : j = k
        · subst e; rw [upd_same]
        · rw [upd_ne _ _ _ _ e]
      case measure =>
        have Hq2 := Hq.out
        unfold W64 at Hq2
        simp only [intOf, IntKind.wrap_u64]
        omega
end Go.Proofs.YtoippldgoehpcaaGreatDoor
end

/- The reference's natural numbers: products. -/
section
namespace Go.Proofs.YtoippldgoehpcaaGreatDoor
open Go.RowKit Go.Deep

theorem set_nat9 {w : World} {b t n : Nat} {f : Nat → Nat} (h : w.rowIs b t n fun j => U9 (f j)) (i v : Nat) (u : Value) (hu : u = U9 v) : (w.setCell ⟨b, i, none⟩ u).rowIs b t n fun j => U9 (upd f i v j) := by
  subst hu
  refine (h.set i _).congr fun j _ => ?_
  unfold upd
  by_cases e : j = i
  · simp only [if_pos e]
  · simp only [if_neg e]

/-- In the middle of one digit's products: k of them are done. -/
def MulIn (x y i m' k cy : Nat) (f F : Nat → Nat) : Prop :=
  (k ≤ m' ∧ vl9 (fun j => F (i + j)) k + cy * B9 ^ k = vl9 (fun j => f (i + j)) k + dig9 x i * vl9 (dig9 y) k ∧ (∀ j, i + k ≤ j → F j = f j)) ∨
  (k = m' + 1 ∧ cy = 0 ∧ vl9 (fun j => F (i + j)) (m' + 1) = vl9 (fun j => f (i + j)) m' + dig9 x i * y ∧ ∀ j, i + m' + 1 ≤ j → F j = f j)
theorem MulIn.step {x y i k cy : Nat} {f F : Nat → Nat} (h : MulIn x y i (nw9 y) k cy f F) (hk : k < nw9 y) :
    MulIn x y i (nw9 y) (k + 1) ((F (i + k) + dig9 x i * dig9 y k + cy) / B9) f (upd F (i + k) ((F (i + k) + dig9 x i * dig9 y k + cy) % B9)) := by
  rcases h with ⟨_, h2, h3⟩ | ⟨h1, _⟩
  · refine .inl ⟨by omega, ?_, fun j hj => by rw [upd_ne _ _ _ _ (by omega)]; exact h3 j (by omega)⟩
    have e : F (i + k) = f (i + k) := h3 _ (Nat.le_refl _)
    rw [e]
    exact mul_step9 (fun j => f (i + j)) (fun j => F (i + j)) _ (dig9 y) k cy (dig9 x i) (fun j hj => upd_ne _ _ _ _ (by omega)) (upd_same _ _ _) h2
  · omega
theorem MulIn.last {x y i cy : Nat} {f F : Nat → Nat} (h : MulIn x y i (nw9 y) (nw9 y) cy f F) (h0 : f (i + nw9 y) = 0) :
    F (i + nw9 y) = 0 ∧ MulIn x y i (nw9 y) (nw9 y + 1) 0 f (upd F (i + nw9 y) cy) := by
  rcases h with ⟨_, h2, h3⟩ | ⟨h1, _⟩
  · refine ⟨by rw [h3 _ (Nat.le_refl _)]; exact h0, .inr ⟨rfl, rfl, ?_, fun j hj => by rw [upd_ne _ _ _ _ (by omega)]; exact h3 j (by omega)⟩⟩
    rw [vl_succ9, vl_congr9 _ (fun j => F (i + j)) _ (fun j hj => upd_ne _ _ _ _ (by omega)), upd_same, h2, vl_dig_lt9 y _ (lt_nw9 y)]
  · omega
theorem MulIn.end_ {x y i k cy : Nat} {f F : Nat → Nat} (h : MulIn x y i (nw9 y) k cy f F) (hk : nw9 y ≤ k) (hc : cy = 0) (h0 : ∀ j, i + nw9 y ≤ j → f j = 0) (hV : vl9 f (i + nw9 y) = vl9 (dig9 x) i * y) (hlow : ∀ j, j < i → F j = f j) :
    vl9 F (i + 1 + nw9 y) = vl9 (dig9 x) (i + 1) * y ∧ ∀ j, i + 1 + nw9 y ≤ j → F j = 0 := by
  subst hc
  rcases h with ⟨h1, h2, h3⟩ | ⟨h1, _, h2, h3⟩
  · obtain rfl : k = nw9 y := by omega
    refine ⟨times_step9 f F (dig9 x) i _ y hlow ?_ hV, fun j hj => by rw [h3 j (by omega)]; exact h0 j (by omega)⟩
    rw [vl_succ9]
    show _ + F (i + nw9 y) * _ = _
    rw [h3 _ (Nat.le_refl _), h0 _ (Nat.le_refl _), Nat.zero_mul, Nat.add_zero]
    rw [vl_dig_lt9 y _ (lt_nw9 y), Nat.zero_mul, Nat.add_zero] at h2
    exact h2
  · exact ⟨times_step9 f F (dig9 x) i _ y hlow h2 hV, fun j hj => by rw [h3 j (by omega)]; exact h0 j (by omega)⟩

set_option maxRecDepth 100000 in
set_option maxHeartbeats 4000000 in
theorem r_times (w : World) (u v : Value) (x y : Nat) (hu : N9At w u x) (hv : N9At w v y) (hn : nw9 x ≤ 1000000000) (hn' : nw9 y ≤ 1000000000) :
    Calls Tryz.prog 245 #[u, v] w (Nat9 (x * y) w) := by
  have HU := Lib.hid hu
  have HV := Lib.hid hv
  obtain ⟨A, c, rfl, h1, h2, h3⟩ := hu
  obtain ⟨A', c', rfl, h1', h2', h3'⟩ := hv
  have hmk := fun W => run_make_row' (P := Tryz.prog) 226 209 (.int .u32 0) 4 Tryz.underlying226 info_u32 rfl .i64 .i64 (nw9 x + nw9 y) (by omega) (by omega) W
  simp only [Int.natCast_add] at hmk
  clear h3' h1 h2 h1' h2'
  go_enter Tryz.func245, Tryz.ntmps245
  go_wp2
  clear hmk
  go_loopg [6] (nw9 x) (fun g i wr => ∃ (n : Nat) (f : Nat → Nat), g = nw9 x - n ∧ n ≤ nw9 x ∧ i = .int .i64 n ∧ wr.rowIs w.heap.size 209 (nw9 x + nw9 y) (fun j => U9 (f j)) ∧ Below w.heap.size w wr ∧
    Hid ((∀ j, f j < B9) ∧ vl9 f (n + nw9 y) = vl9 (dig9 x) n * y ∧ ∀ j, n + nw9 y ≤ j → f j = 0))
  case atStart =>
    refine ⟨0, fun _ => 0, by omega, Nat.zero_le _, rfl, World.rowIs_made _ _ _ _, (Below.refl _ _).alloc (Nat.le_refl _) _, fun j => B9_pos, ?_, fun j _ => rfl⟩
    show vl9 _ (0 + nw9 y) = 0 * y
    rw [Nat.zero_mul]
    generalize 0 + nw9 y = q
    induction q with
    | zero => rfl
    | succ q ih => rw [vl_succ9, ih, Nat.zero_mul]
  case round =>
    obtain ⟨n, f, rfl, hnx, rfl, hrow, hb, HF⟩ := hrel
    have hsz : w.heap.size < wr.heap.size := hrow.lt
    by_cases hlt : n < nw9 x
    · obtain ⟨b, o, rfl, hbb, hcell⟩ := h3 (by omega)
      have hI0 : MulIn x y n (nw9 y) 0 0 f f := .inl ⟨Nat.zero_le _, by simp [vl9], fun _ _ => rfl⟩
      have HI0 := Lib.hid hI0
      have HC := Lib.hid hcell
      clear hI0 h3 hcell
      go_wp2
      obtain ⟨wo, rfl⟩ : ∃ wo : World, wo = wr := ⟨_, rfl⟩
      go_loopg [7, 8] (nw9 y + 1) (fun g cy k wr => ∃ (k2 q : Nat) (F : Nat → Nat), g = nw9 y + 1 - k2 ∧ k = .int .i64 k2 ∧ cy = U q ∧ k2 ≤ nw9 y + 1 ∧ q < 1000000000 ∧ wr.rowIs w.heap.size 209 (nw9 x + nw9 y) (fun j => U9 (F j)) ∧ Below w.heap.size w wr ∧
        Hid ((∀ j, F j < B9) ∧ MulIn x y n (nw9 y) k2 q f F ∧ ∀ j, j < n → F j = f j))
      case atStart => exact ⟨0, 0, f, by omega, rfl, rfl, by omega, by omega, hrow, hb, HF.out.1, HI0.out, fun _ _ => rfl⟩
      case round =>
        obtain ⟨k2, q, F, rfl, rfl, rfl, hk2, hq, hrow2, hb2, HI⟩ := hrel
        have HDg := Lib.hid (fun m => r_digitN (wr.drewN m) _ k2 y ((HV.out.below hb2).drewN m))
        have hxc : wr.cell? ⟨b, o + n, none⟩ = some (U9 (dig9 x n)) := (hb2.cell (p := ⟨b, o + n, none⟩) hbb).trans (HC.out n hlt)
        have hsz2 : w.heap.size < wr.heap.size := hrow2.lt
        have HR := Lib.hid hrow2
        have HB2 := Lib.hid hb2
        have hda := dig_lt9 x n
        have hdb := dig_lt9 y k2
        rcases (by omega : (nw9 y ≤ k2 ∧ q = 0) ∨ k2 < nw9 y ∨ (nw9 y ≤ k2 ∧ 0 < q)) with ⟨hky, hq0⟩ | hky | ⟨hky, hq0⟩
        · have HE := Lib.hid (HI.out.2.1.end_ hky hq0 HF.out.2.2 HF.out.2.1 HI.out.2.2)
          subst hq0
          clear hda hdb hrow2 hb2 hrow hb HI0 hxc
          go_wp2
          go_roundg (nw9 x - (n + 1))
          case measure => omega
          case rel => exact ⟨n + 1, F, rfl, by omega, by go_num, HR.out, HB2.out, HI.out.1, HE.out.1, HE.out.2⟩
        all_goals
          have hk3 : k2 ≤ nw9 y ∧ Hid (MulIn x y n (nw9 y) (k2 + 1) ((F (n + k2) + dig9 x n * dig9 y k2 + q) / B9) f (upd F (n + k2) ((F (n + k2) + dig9 x n * dig9 y k2 + q) % B9))) := by
            first
            | exact ⟨by omega, HI.out.2.1.step hky⟩
            | (rcases HI.out.2.1 with h9 | h9
               · have h8 : k2 = nw9 y := by omega
                 subst h8
                 obtain ⟨h7, h6⟩ := HI.out.2.1.last (HF.out.2.2 _ (Nat.le_refl _))
                 refine ⟨Nat.le_refl _, ?_⟩
                 show MulIn _ _ _ _ _ _ _ _
                 rw [h7, dig_ge9 y _ _ (lt_nw9 y) (Nat.le_refl _), Nat.mul_zero, Nat.zero_add, Nat.div_eq_of_lt (show q < B9 from hq), Nat.mod_eq_of_lt (show q < B9 from hq)]
                 exact h6
               · omega)
          obtain ⟨hk4, HStep⟩ := hk3
          have hS := hrow2.cell (i := n + k2) (by omega)
          have hZ := hrow2.frozen (n + k2)
          have hF := HI.out.1 (n + k2)
          have HCy := Lib.hid (mul_carry9 (dig9 x n) (dig9 y k2) q (F (n + k2)) hda hdb hq hF)
          have HLt := Lib.hid (mul_lt9 (dig9 x n) (dig9 y k2) q (F (n + k2)) hda hdb hq hF)
          generalize hgz : F (n + k2) = z at *
          generalize dig9 x n = a at *
          generalize dig9 y k2 = d at *
          have HGZ := Lib.hid hgz
          have HA := Lib.hid hda; have HBd := Lib.hid hdb; have HFz := Lib.hid hF; have HQ := Lib.hid hq
          clear hrow2 hb2 hrow hb hgz hda hdb hF hq HI0
          have hnk : n + k2 ≤ 2000000000 := by omega
          have hi0 : ¬ ((n : Int) + (k2 : Int) < 0) := by omega
          have hi1 : (n : Int) + (k2 : Int) < (nw9 x : Int) + (nw9 y : Int) := by omega
          have hi2 : ((n : Int) + (k2 : Int)).toNat = n + k2 := by omega
          have hwr : IntKind.i64.wrap ((n : Int) + (k2 : Int)) = ((n + k2 : Nat) : Int) := by rw [IntKind.wrap_i64]; omega
          go_wp2_with fail
          go_quiet ((exact (HDg.out _).mono (fun e w9 h9 => ⟨h9.1, _, h9.2.symm⟩)))
          have hSe : IntKind.u64.wrap (IntKind.u64.wrap (IntKind.u64.wrap (z : Int) + IntKind.u64.wrap (IntKind.u64.wrap (a : Int) * (d : Int))) + (q : Int)) = ((z + a * d + q : Nat) : Int) := by
            have h1 := HA.out; have h2 := HBd.out; have h3 := HFz.out; have h4 := HLt.out; have h5 := HQ.out
            unfold B9 at h1 h2 h3 h4
            have e1 : IntKind.u64.wrap (a : Int) = (a : Int) := by rw [IntKind.wrap_u64]; omega
            have e2 : IntKind.u64.wrap (z : Int) = (z : Int) := by rw [IntKind.wrap_u64]; omega
            have e3 : (a : Int) * (d : Int) = ((a * d : Nat) : Int) := by push_cast; rfl
            rw [e1, e2, e3]
            generalize a * d = p at *
            simp only [IntKind.wrap_u64]
            omega
          rw [hSe]
          clear hSe
          generalize z + a * d + q = S at *
          have hS18 : S < 1000000000000000000 := by have h4 := HLt.out; unfold B9 at h4; exact h4
          have HS18 := Lib.hid hS18
          clear hS18
          go_wp2
          go_roundg (nw9 y + 1 - (k2 + 1))
          case measure => omega
          case rel =>
            refine ⟨k2 + 1, S / B9, upd F (n + k2) (S % B9), rfl, by go_num, ?_, by omega, HCy.out, set_nat9 (show (wr.drewN nq).rowIs _ _ _ _ from HR.out) (n + k2) _ _ ?_, (below_drewN HB2.out nq).setCell (p := ⟨w.heap.size, n + k2, none⟩) (Nat.le_refl w.heap.size) _, fun j => ?_, HStep.out, fun j hj => ?_⟩
            · exact congrArg (Value.int .u64) (by rw [IntKind.wrap_u64]; have h9 := HS18.out; unfold B9; omega)
            · exact congrArg (Value.int .u32) (by unfold B9; omega)
            · by_cases e : j = n + k2
              · subst e; rw [upd_same]; exact Nat.mod_lt _ B9_pos
              · rw [upd_ne _ _ _ _ e]; exact HI.out.1 j
            · rw [upd_ne _ _ _ _ (by omega)]; exact HI.out.2.2 j hj
    · obtain rfl : n = nw9 x := by omega
      have hval : vl9 f (nw9 x + nw9 y) = x * y := by rw [HF.out.2.1, vl_dig_lt9 x _ (lt_nw9 x)]
      have hg : ∀ j, j < nw9 x + nw9 y → f j < B9 := fun j _ => HF.out.1 j
      have HG : Hid (x * y < B9 ^ (nw9 x + nw9 y)) := by
        show _ < _
        rw [← hval]; exact vl_lt9 _ _ hg
      have HD : Hid (D9 wr wr.heap.size (some ⟨w.heap.size, 0, none⟩) (nw9 x + nw9 y) (dig9 (x * y))) := D9.row hrow fun j hj => by rw [← hval, dig_vl9 _ _ hg j hj]
      have HB := Lib.hid hb
      clear hrow hval hg hb h3
      go_wp2_with fail
      refine (r_trim _ wr.heap.size _ _ _ (x * y) HD.out HG.out (Nat.le_refl _) (by omega)).mono ?_
      rintro e w' ⟨rfl, rfl⟩
      go_wp2
      go_ret
      exact ⟨_, rfl, ⟨_, _, rfl, (nw_le9 _ _).2 HG.out, by omega, HD.out.take ((nw_le9 _ _).2 HG.out)⟩, HB.out⟩
end Go.Proofs.YtoippldgoehpcaaGreatDoor
end

/- The reference's natural numbers: differences. -/
section
namespace Go.Proofs.YtoippldgoehpcaaGreatDoor
open Go.RowKit Go.Deep

set_option maxRecDepth 100000 in
set_option maxHeartbeats 2000000 in
theorem r_minus (w : World) (u v : Value) (x y : Nat) (hu : N9At w u x) (hv : N9At w v y) (hn : nw9 x ≤ 1000000000) (hle : y ≤ x) :
    Calls Tryz.prog 246 #[u, v] w (Nat9 (x - y) w) := by
  have HU := Lib.hid hu
  have HV := Lib.hid hv
  have HY : Hid (y < B9 ^ nw9 x) := Nat.lt_of_le_of_lt hle (lt_nw9 x)
  obtain ⟨A, c, rfl, h1, h2, h3⟩ := hu
  obtain ⟨A', c', rfl, h1', h2', h3'⟩ := hv
  clear h3 h3' h1 h2 h1' h2'
  go_enter Tryz.func246, Tryz.ntmps246
  go_wp2
  go_loopw [5, 6, 7] (fun out cy i wr => ∃ (k q : Nat) (f : Nat → Nat), i = .int .i64 k ∧ cy = U q ∧ q ≤ 1 ∧ k ≤ nw9 x ∧ Own9 wr w.heap.size out k f ∧ Below w.heap.size w wr ∧
    Hid ((∀ j, j < k → f j < B9) ∧ vl9 f k + vl9 (dig9 y) k = vl9 (dig9 x) k + q * B9 ^ k)) (fun _ _ i _ => nw9 x - (intOf i).toNat)
  case atStart => exact ⟨0, 0, fun _ => 0, rfl, rfl, by omega, by omega, Own9.nil _ _ _, Below.refl _ _, fun j hj => absurd hj (by omega), by simp [vl9]⟩
  case round =>
    obtain ⟨k, q, f, rfl, rfl, hq, hk, hown, hb, HF⟩ := hrel
    have HD1 := Lib.hid (r_digitN wr _ k x (HU.out.below hb))
    have HD2 := Lib.hid (r_digitN wr _ k y (HV.out.below hb))
    by_cases hlt : k < nw9 x
    · have hown' := hown
      obtain ⟨A2, c2', rfl, -, -, -⟩ := hown'.out
      have HWn := Lib.hid hown
      have HB := Lib.hid hb
      have hsz := hb.size
      have hdx := dig_lt9 x k
      have hdy := dig_lt9 y k
      clear hown hown' hb
      have Hst := Lib.hid (sub_step9 f (dig9 x) (dig9 y) (upd f k ((dig9 x k + B9 - dig9 y k - q) % B9)) k q (fun j hj => upd_ne _ _ _ _ (by omega)) (upd_same _ _ _) hdx hdy hq HF.out.2)
      unfold B9 at hdx hdy
      go_wp2_with fail
      refine (HD1.out).mono ?_
      rintro e w' ⟨rfl, rfl⟩
      go_wp2_with fail
      refine (HD2.out).mono ?_
      rintro e w' ⟨rfl, rfl⟩
      clear HD1 HD2
      generalize dig9 x k = dx at *
      generalize dig9 y k = dy at *
      have hHD : Hid ((dx + B9 - dy - q) % B9 < B9) := Nat.mod_lt _ B9_pos
      go_wp2_with (at_builtin; refine wpList_app9 rfl _ _ rfl wr _ ((dx + B9 - dy - q) % B9) rfl ?_ w.heap.size _ k f rfl rfl HWn.out (by omega) hsz ?_; (focus (exact congrArg (Value.int .u32) (by unfold B9; omega))); intro v' w' hown2 hb2)
      go_roundw
      case rel =>
        refine ⟨k + 1, 1 - (dx + B9 - dy - q) / B9, upd f k ((dx + B9 - dy - q) % B9), by go_num, ?_, Nat.sub_le _ _, by omega, hown2, HB.out.trans hb2, fun j hj => ?_, Hst.out⟩
        · exact congrArg (Value.int .u64) (by unfold B9; omega)
        · by_cases e : j = k
          · subst e; rw [upd_same]; exact hHD.out
          · rw [upd_ne _ _ _ _ e]; exact HF.out.1 j (by omega)
      case measure => simp [intOf]; omega
    · obtain rfl : k = nw9 x := by omega
      have hl := vl_lt9 f _ HF.out.1
      have hval : vl9 f (nw9 x) = x - y ∧ q = 0 := by
        have h9 := HF.out.2
        rw [vl_dig_lt9 x _ (lt_nw9 x), vl_dig_lt9 y _ HY.out] at h9
        have h8 := lt_nw9 x
        rcases (by omega : q = 0 ∨ q = 1) with h7 | h7
        · subst h7; omega
        · subst h7; omega
      have HG : Hid (x - y < B9 ^ nw9 x) := by
        show _ < _
        rw [← hval.1]; exact hl
      have hown2 := hown.congr (g := dig9 (x - y)) fun j hj => by rw [← hval.1, dig_vl9 _ _ HF.out.1 j hj]
      obtain ⟨A2, c2', rfl, h5, h6, h7⟩ := hown2.out
      have HD := Lib.hid h7
      have HB := Lib.hid hb
      clear hown hown2 h7 hval hb HD1 HD2 HF HY hl
      unfold maxLen at h6
      go_wp2_with fail
      refine (r_trim _ wr.heap.size _ _ _ (x - y) HD.out HG.out h5 (by omega)).mono ?_
      rintro e w' ⟨rfl, rfl⟩
      go_wp2
      go_ret
      exact ⟨_, rfl, ⟨A2, c2', rfl, Nat.le_trans ((nw_le9 _ _).2 HG.out) h5, by omega, HD.out.take ((nw_le9 _ _).2 HG.out)⟩, HB.out⟩
end Go.Proofs.YtoippldgoehpcaaGreatDoor
end

/- Comparing the reference's natural numbers. -/
section
namespace Go.Proofs.YtoippldgoehpcaaGreatDoor
open Go.RowKit Go.Deep

set_option maxHeartbeats 400000 in
theorem r_compare (w : World) (B : Nat) (A A' : Option Addr) (c c' x y : Nat) (h : D9 w B A (nw9 x) (dig9 x)) (h' : D9 w B A' (nw9 y) (dig9 y)) (hn : nw9 x ≤ 9223372036854775807) :
    Calls Tryz.prog 188 #[.slice A (nw9 x) c, .slice A' (nw9 y) c'] w fun e w' => e = .returned (.int .i64 (cmpN x y)) ∧ ∃ n, w' = w.drewN n := by
  rcases Nat.lt_trichotomy (nw9 x) (nw9 y) with hlt | heq | hgt
  · have H : Hid (cmpN x y = -1) := cmpN_lt (lt_of_nw9 hlt)
    have h2 : ((nw9 x : Int) != (nw9 y : Int)) = true := by rw [bne_iff_ne]; omega
    generalize nw9 x = m at *
    generalize nw9 y = m' at *
    clear h h'
    go_enter Tryz.func188, Tryz.ntmps188
    go_wp2
    go_ret
    exact ⟨by rw [H.out]; rfl, 0, rfl⟩
  · rw [← heq] at h' ⊢
    have HX : Hid (x < B9 ^ nw9 x) := lt_nw9 x
    have HY : Hid (y < B9 ^ nw9 x) := by show y < B9 ^ nw9 x; rw [heq]; exact lt_nw9 y
    clear heq
    generalize nw9 x = m at *
    have h2 : ((m : Int) != (m : Int)) = false := by simp
    go_enter Tryz.func188, Tryz.ntmps188
    go_wp2
    go_loopw [5] (fun i wr => (i = .int .i64 (-1) ∧ x = y ∧ ∃ n, wr = w.drewN n) ∨ ∃ j : Nat, j < m ∧ i = .int .i64 j ∧ x / B9 ^ (j + 1) = y / B9 ^ (j + 1) ∧ ∃ n, wr = w.drewN n) (fun i _ => (intOf i + 1).toNat)
    case atStart =>
      by_cases hm : m = 0
      · subst hm
        have := HX.out
        have := HY.out
        refine .inl ⟨by simp, ?_, 0, rfl⟩
        simp at *
        omega
      · refine .inr ⟨m - 1, by omega, by rw [show ((m - 1 : Nat) : Int) = (m : Int) - 1 by omega], ?_, 0, rfl⟩
        rw [show m - 1 + 1 = m by omega, Nat.div_eq_of_lt HX.out, Nat.div_eq_of_lt HY.out]
    case round =>
      rcases hrel with ⟨rfl, hxy, n, rfl⟩ | ⟨j, hj, rfl, hd, n, rfl⟩
      · have H : Hid (cmpN x y = 0) := by show cmpN x y = 0; rw [hxy]; exact cmpN_eq y
        clear hxy
        go_wp2
        go_ret
        exact ⟨by rw [H.out]; rfl, n, rfl⟩
      · obtain ⟨b, o, rfl, hc⟩ := h.at_ hj
        obtain ⟨b', o', rfl, hc'⟩ := h'.at_ hj
        have HD := Lib.hid hd; clear hd
        rcases Nat.lt_trichotomy (dig9 x j) (dig9 y j) with hl | he | hl
        · have H : Hid (cmpN x y = -1) := cmpN_lt (lt_of_dig9 x y j HD.out hl)
          generalize dig9 x j = u at *
          generalize dig9 y j = v at *
          clear h h'
          go_wp2
          go_quiet (fail)
          go_wp2
          go_ret
          exact ⟨by rw [H.out]; rfl, by first | exact ⟨_, rfl⟩ | exact dr2 _ _ _ | exact dr3 _ _ _ _⟩
        · have HE := Lib.hid (div_of_dig9 x y j HD.out he)
          rw [← he] at hc'
          clear he
          generalize dig9 x j = u at *
          clear h h'
          go_wp2
          go_quiet (fail)
          go_wp2
          go_quiet (fail)
          go_wp2
          go_roundw
          case rel =>
            by_cases hj0 : j = 0
            · subst hj0
              exact .inl ⟨by simp, by simpa using HE.out, by first | exact ⟨_, rfl⟩ | exact dr2 _ _ _ | exact dr3 _ _ _ _⟩
            · refine .inr ⟨j - 1, by omega, by rw [show ((j - 1 : Nat) : Int) = (j : Int) - 1 by omega], ?_, by first | exact ⟨_, rfl⟩ | exact dr2 _ _ _ | exact dr3 _ _ _ _⟩
              rw [show j - 1 + 1 = j by omega]
              exact HE.out
          case measure => simp [intOf]
        · have H : Hid (cmpN x y = 1) := by
            show cmpN x y = 1
            exact cmpN_gt (lt_of_dig9 y x j HD.out.symm hl)
          generalize dig9 x j = u at *
          generalize dig9 y j = v at *
          clear h h'
          go_wp2
          go_quiet (fail)
          go_wp2
          go_quiet (fail)
          go_wp2
          go_ret
          exact ⟨by rw [H.out]; rfl, by first | exact ⟨_, rfl⟩ | exact dr2 _ _ _ | exact dr3 _ _ _ _⟩
  · have H : Hid (cmpN x y = 1) := cmpN_gt (lt_of_nw9 hgt)
    have h2 : ((nw9 x : Int) != (nw9 y : Int)) = true := by rw [bne_iff_ne]; omega
    generalize nw9 x = m at *
    generalize nw9 y = m' at *
    clear h h'
    go_enter Tryz.func188, Tryz.ntmps188
    go_wp2
    go_ret
    exact ⟨by rw [H.out]; rfl, 0, rfl⟩

theorem r_cmpN (w : World) (u v : Value) (x y : Nat) (hu : N9At w u x) (hv : N9At w v y) :
    Calls Tryz.prog 188 #[u, v] w fun e w' => e = .returned (.int .i64 (cmpN x y)) ∧ ∃ n, w' = w.drewN n := by
  obtain ⟨A, c, rfl, h1, h2, h3⟩ := hu
  obtain ⟨A', c', rfl, h1', h2', h3'⟩ := hv
  exact r_compare w _ A A' c c' x y h3 h3' (by omega)
end Go.Proofs.YtoippldgoehpcaaGreatDoor
end

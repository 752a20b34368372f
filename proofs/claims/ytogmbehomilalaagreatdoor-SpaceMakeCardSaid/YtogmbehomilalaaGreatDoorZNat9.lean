/- The reference's Of. -/
import Derived.Test.YtogmbehomilalaaGreatDoorZSmA
import Derived.Test.YtogmbehomilalaaGreatDoorZCmpS
import Derived.Test.YtogmbehomilalaaGreatDoorZSpH
import Derived.Test.YtogmbehomilalaaGreatDoorZGcd
import Derived.Laws.AppendOwn
import Derived.Lib.AppendZeros

/- The reference's Of. -/
section
namespace Go.Proofs.YtogmbehomilalaaGreatDoor
open Go Go.RowKit Go.Deep

def ofB (lo hi xs : Nat → Int) (n m : Nat) : Bool := n == m && inTo lo hi xs n
set_option maxRecDepth 100000 in
set_option maxHeartbeats 4000000 in
theorem r_Of (w : World) (A X : Option Addr) (n cap m cap' : Nat) (nm : Nat → ByteArray) (lo hi xs : Nat → Int) (hd : DimsAt w A n nm lo hi) (hx : IntsAt w X m xs) (hn : n ≤ 1000) (hm : m ≤ 1000) :
    Calls Tryz.prog 72 #[.slice A n cap, .slice X m cap'] w fun e w' => e = .returned (.bool (ofB lo hi xs n m)) ∧ Below w.heap.size w w' := by
  by_cases hnm : n = m
  · subst hnm
    have e1 : ofB lo hi xs n n = inTo lo hi xs n := by rw [ofB, beq_self_eq_true, Bool.true_and]
    rw [e1]
    clear e1
    have HD := Lib.hid hd
    have HX := Lib.hid hx
    have HL := Lib.hid r_Last
    clear hd hx
    go_enter Tryz.func72, Tryz.ntmps72
    go_wp2
    go_loopw [5] (fun i wr => ∃ k : Nat, k ≤ n ∧ i = .int .i64 k ∧ Hid (inTo lo hi xs k = true ∧ Below w.heap.size w wr)) (fun i _ => n - (intOf i).toNat)
    case atStart => exact ⟨0, Nat.zero_le _, rfl, rfl, Below.refl _ _⟩
    case round =>
      obtain ⟨k, hk, rfl, HK⟩ := hrel
      by_cases hlt : k < n
      · obtain ⟨bd, o, rfl, hbd, hc⟩ := (HD.out.below HK.out.2) (by omega)
        obtain ⟨c0, c1, c2⟩ := hc k hlt
        clear hc
        obtain ⟨bx, ox, rfl, hbx, hcx⟩ := (HX.out.below HK.out.2) (by omega)
        have x0 := hcx k hlt
        clear hcx
        have HS : Hid (inTo lo hi xs (k + 1) = (decide (lo k ≤ xs k) && decide (xs k ≤ lastZ (hi k)))) := by show _ = _; rw [inTo, HK.out.1]; rfl
        have HF : Hid ((decide (lo k ≤ xs k) && decide (xs k ≤ lastZ (hi k))) = false → inTo lo hi xs n = false) := fun h => inTo_le (k := k + 1) (by rw [HS.out, h]) (by omega)
        have HB := Lib.hid HK.out.2
        have HCC : Hid (∀ W, Below wr.heap.size wr W → W.cell? ⟨bx, ox + k, none⟩ = some (.int .i64 (xs k)) ∧ W.cell? ⟨bd, o + k * 3, none⟩ = some (.string (nm k)) ∧ W.cell? ⟨bd, o + k * 3 + 1, none⟩ = some (.int .i64 (lo k)) ∧ W.cell? ⟨bd, o + k * 3 + 2, none⟩ = some (.int .i64 (hi k))) := fun W hW =>
          ⟨(hW.cell (p := ⟨bx, ox + k, none⟩) hbx).trans x0, (hW.cell (p := ⟨bd, o + k * 3, none⟩) hbd).trans c0, (hW.cell (p := ⟨bd, o + k * 3 + 1, none⟩) hbd).trans c1, (hW.cell (p := ⟨bd, o + k * 3 + 2, none⟩) hbd).trans c2⟩
        have HLk := Lib.hid (fun W => HL.out (nm k) (lo k) (hi k) W)
        generalize nm k = s at *
        generalize lo k = l0 at *
        generalize hi k = h0 at *
        generalize xs k = z at *
        generalize lastZ h0 = L at *
        by_cases g1 : z < l0
        · have HR : Hid (inTo lo hi xs n = false) := HF.out (by rw [decide_eq_false (by omega)]; rfl)
          go_wp2
          go_quiet (fail)
          go_wp2
          go_ret
          exact ⟨by rw [HR.out]; rfl, drewB HB.out _⟩
        · have r1 : decide (z < l0) = ltC z l0 := rfl
          have a1 : ltC z l0 = false := decide_eq_false g1
          have r2 : decide (L < z) = ltC L z := rfl
          have B0d : Below wr.heap.size wr wr.drew := Below.drew (Below.refl _ _)
          by_cases g2 : L < z
          · have HR : Hid (inTo lo hi xs n = false) := HF.out (by rw [decide_eq_false (by omega : ¬ z ≤ L), Bool.and_false])
            have a2 : ltC L z = true := decide_eq_true g2
            go_wp2_with fail
            go_region_held3 (fun W => W.cell? ⟨bx, ox + k, none⟩ = some (.int .i64 z) ∧ W.cell? ⟨bd, o + k * 3, none⟩ = some (.string s) ∧ W.cell? ⟨bd, o + k * 3 + 1, none⟩ = some (.int .i64 l0) ∧ W.cell? ⟨bd, o + k * 3 + 2, none⟩ = some (.int .i64 h0))
              (first | exact HCC.out _ B1 | exact HCC.out _ B0d | exact HCC.out _ (Below.refl _ _))
              (first
                | (go_at_call 110; refine (HLk.out _).mono ?_; rintro e w1 ⟨rfl, hb1⟩; have B1 : Below wr.heap.size wr w1 := st B0d hb1))
            all_goals
              have HB1 : Hid (Below w.heap.size w w1) := st HB.out B1
              go_wp2
              go_ret
              exact ⟨by rw [HR.out]; rfl, HB1.out⟩
          · have HR : Hid (inTo lo hi xs (k + 1) = true) := by show _ = _; rw [HS.out, decide_eq_true (by omega : l0 ≤ z), decide_eq_true (by omega : z ≤ L)]; rfl
            have a2 : ltC L z = false := decide_eq_false g2
            go_wp2_with fail
            go_region_held3 (fun W => W.cell? ⟨bx, ox + k, none⟩ = some (.int .i64 z) ∧ W.cell? ⟨bd, o + k * 3, none⟩ = some (.string s) ∧ W.cell? ⟨bd, o + k * 3 + 1, none⟩ = some (.int .i64 l0) ∧ W.cell? ⟨bd, o + k * 3 + 2, none⟩ = some (.int .i64 h0))
              (first | exact HCC.out _ B1 | exact HCC.out _ B0d | exact HCC.out _ (Below.refl _ _))
              (first
                | (go_at_call 110; refine (HLk.out _).mono ?_; rintro e w1 ⟨rfl, hb1⟩; have B1 : Below wr.heap.size wr w1 := st B0d hb1))
            all_goals
              have HB1 : Hid (Below w.heap.size w w1) := st HB.out B1
              go_wp2
              go_roundw
              case rel => exact ⟨k + 1, by omega, by go_num, HR.out, HB1.out⟩
              case measure => simp [intOf]; omega
      · obtain rfl : k = n := by omega
        go_wp2
        go_ret
        exact ⟨by rw [HK.out.1]; rfl, HK.out.2⟩
  · have e1 : ofB lo hi xs n m = false := by rw [ofB, beq_false_of_ne hnm, Bool.false_and]
    have h1 : ((m : Int) != (n : Int)) = true := by rw [bne_iff_ne]; omega
    rw [e1]
    clear e1 hnm
    go_enter Tryz.func72, Tryz.ntmps72
    go_wp2
    go_ret
    exact ⟨rfl, Below.refl _ _⟩
end Go.Proofs.YtogmbehomilalaaGreatDoor
end

/- Plain numbers: digits to the base 10^9, their values, and how many of them a natural number has. No condition. -/
section
namespace Go.Proofs.YtogmbehomilalaaGreatDoor
def B9 : Nat := 1000000000
theorem B9_pos : 0 < B9 := by decide
theorem B9_pow_pos (k : Nat) : 0 < B9 ^ k := Nat.pow_pos B9_pos

/-- The word number k of x. -/
def dig9 (x k : Nat) : Nat := x / B9 ^ k % B9
/-- The value of the first n words. -/
def vl9 (g : Nat → Nat) : Nat → Nat
  | 0 => 0
  | n + 1 => vl9 g n + g n * B9 ^ n
/-- How many words x has. -/
def nw9 (x : Nat) : Nat := if x = 0 then 0 else nw9 (x / B9) + 1
termination_by x
decreasing_by exact Nat.div_lt_self (by omega) (by decide)

theorem dig_lt9 (x k : Nat) : dig9 x k < B9 := Nat.mod_lt _ B9_pos
theorem vl_succ9 (g : Nat → Nat) (n : Nat) : vl9 g (n + 1) = vl9 g n + g n * B9 ^ n := rfl
theorem vl_lt9 (g : Nat → Nat) (n : Nat) (h : ∀ k, k < n → g k < B9) : vl9 g n < B9 ^ n := by
  induction n with
  | zero => simp [vl9]
  | succ n ih =>
    have h1 := ih fun k hk => h k (by omega)
    have h2 := h n (by omega)
    rw [vl_succ9, Nat.pow_succ]
    have : g n * B9 ^ n ≤ (B9 - 1) * B9 ^ n := Nat.mul_le_mul_right _ (by omega)
    have e : (B9 - 1) * B9 ^ n + B9 ^ n = B9 ^ n * B9 := by
      rw [Nat.mul_comm (B9 ^ n) B9, ← Nat.succ_mul]; congr 1
    omega
theorem vl_congr9 (g f : Nat → Nat) (n : Nat) (h : ∀ k, k < n → g k = f k) : vl9 g n = vl9 f n := by
  induction n with
  | zero => rfl
  | succ n ih => rw [vl_succ9, vl_succ9, ih fun k hk => h k (by omega), h n (by omega)]
theorem vl_dig9 (x n : Nat) : vl9 (dig9 x) n = x % B9 ^ n := by
  induction n with
  | zero => simp [vl9, Nat.mod_one]
  | succ n ih =>
    rw [vl_succ9, ih]
    unfold dig9
    rw [Nat.pow_succ, Nat.mod_mul, Nat.mul_comm (x / B9 ^ n % B9)]
theorem vl_dig_lt9 (x n : Nat) (h : x < B9 ^ n) : vl9 (dig9 x) n = x := by rw [vl_dig9, Nat.mod_eq_of_lt h]
theorem dig_vl9 (g : Nat → Nat) (n : Nat) (h : ∀ k, k < n → g k < B9) (k : Nat) (hk : k < n) : dig9 (vl9 g n) k = g k := by
  induction n with
  | zero => omega
  | succ n ih =>
    have h1 := vl_lt9 g n fun k hk => h k (by omega)
    rw [vl_succ9]
    rcases Nat.lt_or_ge k n with hlt | hge
    · rw [← ih (fun k hk => h k (by omega)) hlt]
      unfold dig9
      have e : B9 ^ n = B9 ^ k * (B9 * B9 ^ (n - k - 1)) := by
        rw [← Nat.pow_succ', ← Nat.pow_add]; congr 1; omega
      have e2 : (vl9 g n + g n * B9 ^ n) / B9 ^ k = vl9 g n / B9 ^ k + B9 * (B9 ^ (n - k - 1) * g n) := by
        rw [e, show g n * (B9 ^ k * (B9 * B9 ^ (n - k - 1))) = B9 ^ k * (B9 * (B9 ^ (n - k - 1) * g n)) by
          rw [← Nat.mul_assoc, ← Nat.mul_assoc, Nat.mul_comm (g n), Nat.mul_assoc, Nat.mul_assoc, Nat.mul_comm (g n), Nat.mul_assoc]]
        exact Nat.add_mul_div_left _ _ (B9_pow_pos k)
      rw [e2, Nat.add_mul_mod_self_left]
    · have : k = n := by omega
      subst this
      unfold dig9
      rw [Nat.add_mul_div_right _ _ (B9_pow_pos k), Nat.div_eq_of_lt h1, Nat.zero_add, Nat.mod_eq_of_lt (h k (by omega))]
theorem nw_zero9 : nw9 0 = 0 := by rw [nw9]; rfl
theorem nw_step9 (x : Nat) (h : x ≠ 0) : nw9 x = nw9 (x / B9) + 1 := by rw [nw9, if_neg h]
theorem nw_le9 (x n : Nat) : nw9 x ≤ n ↔ x < B9 ^ n := by
  induction n generalizing x with
  | zero =>
    by_cases h : x = 0
    · subst h; simp [nw_zero9]
    · rw [nw_step9 x h]; simp; omega
  | succ n ih =>
    by_cases h : x = 0
    · subst h; simp [nw_zero9]; exact B9_pow_pos _
    · rw [nw_step9 x h, Nat.add_le_add_iff_right, ih, Nat.pow_succ, Nat.div_lt_iff_lt_mul B9_pos]
theorem lt_nw9 (x : Nat) : x < B9 ^ nw9 x := (nw_le9 x _).1 (Nat.le_refl _)
theorem nw_of9 (x n : Nat) (h1 : x < B9 ^ n) (h2 : n = 0 ∨ B9 ^ (n - 1) ≤ x) : nw9 x = n := by
  have a := (nw_le9 x n).2 h1
  rcases h2 with h2 | h2
  · omega
  · have b : ¬ nw9 x ≤ n - 1 := by rw [nw_le9]; omega
    omega
theorem nw_eq_zero9 (x : Nat) : nw9 x = 0 ↔ x = 0 := by
  have := nw_le9 x 0
  simp at this
  omega
theorem nw_pos9 (x : Nat) : 0 < nw9 x ↔ 0 < x := by have := nw_eq_zero9 x; omega
theorem nw_mono9 {x y : Nat} (h : x ≤ y) : nw9 x ≤ nw9 y := (nw_le9 x _).2 (Nat.lt_of_le_of_lt h (lt_nw9 y))
theorem lt_of_nw9 {x y : Nat} (h : nw9 x < nw9 y) : x < y := by
  rcases Nat.lt_or_ge x y with h1 | h1
  · exact h1
  · have := nw_mono9 h1; omega
theorem dig_ge9 (x n k : Nat) (h : x < B9 ^ n) (hk : n ≤ k) : dig9 x k = 0 := by
  unfold dig9
  have : B9 ^ n ≤ B9 ^ k := Nat.pow_le_pow_right B9_pos hk
  rw [Nat.div_eq_of_lt (by omega), Nat.zero_mod]
/-- x has fewer than n words if the last of n is 0. -/
theorem lt_pred9 (x n : Nat) (h : x < B9 ^ (n + 1)) (h0 : dig9 x n = 0) : x < B9 ^ n := by
  unfold dig9 at h0
  rw [Nat.pow_succ] at h
  have h3 : x / B9 ^ n < B9 := by rw [Nat.div_lt_iff_lt_mul (B9_pow_pos _), Nat.mul_comm]; exact h
  rw [Nat.mod_eq_of_lt h3] at h0
  rcases Nat.lt_or_ge x (B9 ^ n) with h4 | h4
  · exact h4
  · have := Nat.div_pos h4 (B9_pow_pos n); omega
theorem ge_of_dig9 (x n : Nat) (h0 : dig9 x n ≠ 0) : B9 ^ n ≤ x := by
  rcases Nat.lt_or_ge x (B9 ^ n) with h4 | h4
  · exact absurd (dig_ge9 x n n h4 (Nat.le_refl _)) h0
  · exact h4
theorem dig_zero9 (x : Nat) : dig9 x 0 = x % B9 := by simp [dig9]
theorem nw_le_one9 (x : Nat) : nw9 x ≤ 1 ↔ x < B9 := by rw [nw_le9, Nat.pow_one]
/-- The digits above agree: comparing by the next one. -/
theorem div_step9 (x n : Nat) : x / B9 ^ n = x / B9 ^ (n + 1) * B9 + dig9 x n := by
  unfold dig9
  rw [Nat.pow_succ, ← Nat.div_div_eq_div_mul, Nat.mul_comm, Nat.div_add_mod]
theorem lt_of_dig9 (x y n : Nat) (h : x / B9 ^ (n + 1) = y / B9 ^ (n + 1)) (hd : dig9 x n < dig9 y n) : x < y := by
  rcases Nat.lt_or_ge x y with h1 | h1
  · exact h1
  · have h2 : y / B9 ^ n ≤ x / B9 ^ n := Nat.div_le_div_right h1
    rw [div_step9 x n, div_step9 y n, h] at h2
    omega
theorem div_of_dig9 (x y n : Nat) (h : x / B9 ^ (n + 1) = y / B9 ^ (n + 1)) (hd : dig9 x n = dig9 y n) : x / B9 ^ n = y / B9 ^ n := by
  rw [div_step9 x n, div_step9 y n, h, hd]
theorem mod_div_mul9 (s P : Nat) : s % B9 * P + s / B9 * (P * B9) = s * P := by
  have h := Nat.div_add_mod s B9
  conv => rhs; rw [← h]
  generalize s / B9 = q; generalize s % B9 = r
  grind
end Go.Proofs.YtogmbehomilalaaGreatDoor
end

/- Numbers of the reference: slices of digits to the base 10^9; their reading, and appending to a row of one's own. -/
section
namespace Go.Proofs.YtogmbehomilalaaGreatDoor
open Go.RowKit Go.Deep

def lenV9 (v : Value) : Nat := match v with | .slice _ n _ => n | _ => 0
abbrev U9 (x : Nat) : Value := .int .u32 (x : Int)
theorem info_u32 : (Tryz.prog.info? 169).map (fun i => (i.zero, i.size, i.bytes)) = some (some (.int .u32 0), 1, 4) := by kernel_rfl

/-- A slice of n digits, digit k being g k; its block lies below B. -/
def D9 (w : World) (B : Nat) (A : Option Addr) (n : Nat) (g : Nat → Nat) : Prop :=
  0 < n → ∃ b o, A = some ⟨b, o, none⟩ ∧ b < B ∧ ∀ k, k < n → w.cell? ⟨b, o + k, none⟩ = some (U9 (g k))
theorem D9.zero {w : World} {B : Nat} {A : Option Addr} {g : Nat → Nat} : D9 w B A 0 g := fun h => absurd h (by omega)
theorem D9.at_ {w : World} {B : Nat} {A : Option Addr} {n k : Nat} {g : Nat → Nat} (h : D9 w B A n g) (hk : k < n) :
    ∃ b o, A = some ⟨b, o, none⟩ ∧ w.cell? ⟨b, o + k, none⟩ = some (U9 (g k)) := by
  obtain ⟨b, o, h1, _, h3⟩ := h (by omega)
  exact ⟨b, o, h1, h3 k hk⟩
theorem D9.below {w w' : World} {B : Nat} {A : Option Addr} {n : Nat} {g : Nat → Nat} (h : D9 w B A n g) (hb : Below B w w') : D9 w' B A n g := fun hn => by
  obtain ⟨b, o, h1, h2, h3⟩ := h hn
  exact ⟨b, o, h1, h2, fun k hk => (hb.cell (p := ⟨b, o + k, none⟩) h2).trans (h3 k hk)⟩
theorem D9.more {w : World} {B B' : Nat} {A : Option Addr} {n : Nat} {g : Nat → Nat} (h : D9 w B A n g) (hb : B ≤ B') : D9 w B' A n g := fun hn => by
  obtain ⟨b, o, h1, h2, h3⟩ := h hn
  exact ⟨b, o, h1, by omega, h3⟩
theorem D9.drewN {w : World} {B : Nat} {A : Option Addr} {n : Nat} {g : Nat → Nat} (h : D9 w B A n g) (m : Nat) : D9 (w.drewN m) B A n g := h
theorem D9.congr {w : World} {B : Nat} {A : Option Addr} {n : Nat} {g f : Nat → Nat} (h : D9 w B A n g) (e : ∀ k, k < n → g k = f k) : D9 w B A n f := fun hn => by
  obtain ⟨b, o, h1, h2, h3⟩ := h hn
  exact ⟨b, o, h1, h2, fun k hk => by rw [h3 k hk, e k hk]⟩
theorem D9.take {w : World} {B : Nat} {A : Option Addr} {n m : Nat} {g : Nat → Nat} (h : D9 w B A n g) (e : m ≤ n) : D9 w B A m g := fun hn => by
  obtain ⟨b, o, h1, h2, h3⟩ := h (by omega)
  exact ⟨b, o, h1, h2, fun k hk => h3 k (by omega)⟩
theorem D9.row {w : World} {b t n : Nat} {f : Nat → Value} {g : Nat → Nat} (h : w.rowIs b t n f) (e : ∀ k, k < n → f k = U9 (g k)) : D9 w w.heap.size (some ⟨b, 0, none⟩) n g := fun _ =>
  ⟨b, 0, rfl, h.lt, fun k hk => by rw [Nat.zero_add, h.cell hk, e k hk]⟩

/-- A row of the call's own with n digits. -/
def Own9 (w : World) (base : Nat) (v : Value) (n : Nat) (f : Nat → Nat) : Prop :=
  ∃ xs, w.ownsRow base 169 1 v n xs ∧ ∀ k, k < n → xs[k]? = some (U9 (f k))
theorem Own9.nil (w : World) (base : Nat) (f : Nat → Nat) : Own9 w base (.slice none 0 0) 0 f := ⟨[], World.ownsRow_nil _ _ _ _, fun _ h => absurd h (by omega)⟩
theorem Own9.out {w : World} {base n : Nat} {v : Value} {f : Nat → Nat} (h : Own9 w base v n f) : ∃ A c, v = .slice A n c ∧ n ≤ c ∧ c ≤ maxLen ∧ D9 w w.heap.size A n f := by
  obtain ⟨xs, h1, h2⟩ := h
  rcases h1.2 with ⟨rfl, rfl⟩ | ⟨g, cap, cur, rfl, _, hg, hnc, hcm, _, _⟩
  · exact ⟨none, 0, rfl, Nat.le_refl _, by decide, D9.zero⟩
  · refine ⟨_, cap, rfl, hnc, hcm, fun _ => ⟨g, 0, rfl, (Array.getElem?_eq_some_iff.1 hg).1, fun k hk => ?_⟩⟩
    have h3 := h1.cells (g := g) rfl k _ (h2 k hk)
    rw [Addr.add_lit, Nat.zero_add] at h3
    rw [Nat.zero_add]
    exact h3
theorem Own9.lo {w : World} {base n c : Nat} {A : Option Addr} {f : Nat → Nat} (h : Own9 w base (.slice A n c) n f) : ∀ a, A = some a → base ≤ a.block := by
  rintro a rfl
  obtain ⟨xs, h1, h2⟩ := h
  exact (h1.lt a.block rfl).1
theorem Own9.below {w w' : World} {base n : Nat} {v : Value} {f : Nat → Nat} (h : Own9 w base v n f) (hb : Below w.heap.size w w') : Own9 w' base v n f := by
  obtain ⟨xs, h1, h2⟩ := h
  refine ⟨xs, ⟨h1.1, ?_⟩, h2⟩
  rcases h1.2 with h3 | ⟨g, cap, cur, h3, h4, h5, h6⟩
  · exact .inl h3
  · exact .inr ⟨g, cap, cur, h3, h4, (hb.block g (Array.getElem?_eq_some_iff.1 h5).1).trans h5, h6⟩

/-- One digit more: the walk's append of a literal with one element, W being the world ahead of the literal. -/
theorem wpList_app9 {w : World} {ops : Array Oper} {rest : List Oper} {o : Oper} {a : Act} {Q : Exit → Act → World → Prop} (hgd : o.guard = none) (s x : Operand)
    (ho : o.op = .call { callee := .builtin .append, args := #[s, x], argTypes := #[183, 183] })
    (W : World) (u : Value) (d : Nat) (hw : w = W.alloc (.cells #[u] 169)) (hu : u = U9 d) (base : Nat) (v : Value) (n : Nat) (f : Nat → Nat) (hs : a.eval s = v) (hx : a.eval x = .slice (some ⟨W.heap.size, 0, none⟩) 1 1)
    (hown : Own9 W base v n f) (h63 : n < 10000000000) (hbase : base ≤ W.heap.size)
    (h : ∀ v' w', Own9 w' base v' (n + 1) (upd f n d) → Below base W w' → wpList Tryz.prog ops Q rest (a.put o.dst v') w') : wpList Tryz.prog ops Q (o :: rest) a w := by
  subst hu hw
  obtain ⟨xs, h1, h2⟩ := hown
  have h1' : (W.alloc (.cells #[U9 d] 169)).ownsRow base 169 1 v n xs := h1.alloc _
  obtain ⟨i0, hi, hii⟩ : ∃ i, Tryz.prog.info? 169 = some i ∧ (i.zero, i.size, i.bytes) = (some (.int .u32 0), 1, 4) := by
    have := info_u32
    rcases hc : Tryz.prog.info? 169 with _ | i
    · rw [hc] at this; cases this
    · rw [hc] at this; exact ⟨i, rfl, by simpa using this⟩
  simp only [Prod.mk.injEq] at hii
  have hnew : ∀ j u, [U9 d][j]? = some u → (W.alloc (.cells #[U9 d] 169)).cell? ((⟨W.heap.size, 0, none⟩ : Addr).add j) = some u := by
    intro j u hu
    have hj : j = 0 := by
      rcases j with _ | j
      · rfl
      · simp at hu
    subst hj
    have hu' : u = U9 d := by simpa using hu.symm
    subst hu'
    exact (World.rowIs_alloc W #[U9 d] 169 (fun _ => U9 d) (fun i hi => by
      have h9 : i = 0 := by simpa using hi
      subst h9
      rfl)).cell (i := 0) (by simp)
  refine wpList_append_own _ hgd s x 183 ho base 169 i0 (.int .u32 0) 1 4 Tryz.underlying183 hi hii.1 hii.2.1 hii.2.2 rfl Nat.zero_lt_one v n xs hs h1' ⟨W.heap.size, 0, none⟩ 1 1 [U9 d] hx rfl hnew
    (fun u hu => by have h9 : u = U9 d := by simpa using hu
                    subst h9; rfl) (by unfold maxLen; omega) (by omega) (by simp; omega) ?_
  intro v' w' g1 g2 _
  refine h v' w' ⟨xs ++ [U9 d], g1, fun k hk => ?_⟩ (((Below.refl base W).alloc hbase _).grown g2 (by simp; omega) fun k hk => (h1'.lt k hk).1)
  have hl : xs.length = n := by rw [h1.1, Nat.mul_one]
  by_cases hkn : k = n
  · subst hkn
    rw [upd_same, ← hl, List.getElem?_concat_length]
  · rw [upd_ne _ _ _ _ hkn, List.getElem?_append_left (by omega)]
    exact h2 k (by omega)

theorem append_none {P : Program} (w : World) (t ty e : TypeId) (i : TypeInfo) (ht : P.underlying t = some (.slice e)) (hi : P.info? e = some i) (a : Addr) (n cap c : Nat) (h : n ≤ cap) :
    (Builtin.append_ #[t, t] ty #[.slice (some a) n cap, .slice none 0 c]).run P w = .ok (.slice (some a) n cap) w := by
  simp [Builtin.append_, run_underlying ht, sizeOf, typeInfo, hi, Builtin.lenOf, Builtin.firstCells, loadCells, h, storeCells]

/-- A digit ahead of others: the walk's append of a slice to a literal with one element, W being the world ahead of the literal. -/
theorem wpList_cons9 {w : World} {ops : Array Oper} {rest : List Oper} {o : Oper} {a : Act} {Q : Exit → Act → World → Prop} (hgd : o.guard = none) (s x : Operand)
    (ho : o.op = .call { callee := .builtin .append, args := #[s, x], argTypes := #[183, 183] })
    (W : World) (u : Value) (d : Nat) (hw : w = W.alloc (.cells #[u] 169)) (hu : u = U9 d) (A : Option Addr) (m c : Nat) (g : Nat → Nat) (hs : a.eval s = .slice (some ⟨W.heap.size, 0, none⟩) 1 1) (hx : a.eval x = .slice A m c)
    (hD : D9 W W.heap.size A m g) (h63 : m < 10000000000)
    (h : ∀ v' w', Own9 w' W.heap.size v' (m + 1) (fun k => if k = 0 then d else g (k - 1)) → Below W.heap.size W w' → wpList Tryz.prog ops Q rest (a.put o.dst v') w') : wpList Tryz.prog ops Q (o :: rest) a w := by
  subst hu hw
  have h1 : (W.alloc (.cells #[U9 d] 169)).ownsRow W.heap.size 169 1 (.slice (some ⟨W.heap.size, 0, none⟩) 1 1) 1 [U9 d] :=
    ⟨rfl, .inr ⟨W.heap.size, 1, #[U9 d], rfl, Nat.le_refl _, heap_alloc_new W _, Nat.le_refl _, by decide, rfl, rfl⟩⟩
  obtain ⟨i0, hi, hii⟩ : ∃ i, Tryz.prog.info? 169 = some i ∧ (i.zero, i.size, i.bytes) = (some (.int .u32 0), 1, 4) := by
    have := info_u32
    rcases hc : Tryz.prog.info? 169 with _ | i
    · rw [hc] at this; cases this
    · rw [hc] at this; exact ⟨i, rfl, by simpa using this⟩
  simp only [Prod.mk.injEq] at hii
  have hB : Below W.heap.size W (W.alloc (.cells #[U9 d] 169)) := (Below.refl _ W).alloc (Nat.le_refl _) _
  rcases Nat.eq_zero_or_pos m with h0 | h0
  · subst h0
    rcases A with _ | A
    · refine Lib.wpList_append_run _ hgd s x 183 183 ho _ _ hs hx _ _ (append_none _ 183 _ 169 i0 Tryz.underlying183 hi _ 1 1 c (Nat.le_refl _)) ?_
      refine h _ _ ⟨_, h1, fun k hk => ?_⟩ hB
      obtain rfl : k = 0 := by omega
      rfl
    · refine wpList_append_own _ hgd s x 183 ho W.heap.size 169 i0 (.int .u32 0) 1 4 Tryz.underlying183 hi hii.1 hii.2.1 hii.2.2 rfl Nat.zero_lt_one _ 1 _ hs h1 A 0 c [] hx rfl (fun j u hj => by simp at hj)
        (fun u hu => by simp at hu) (by decide) (by decide) (by simp) ?_
      intro v' w' g1 g2 _
      refine h v' w' ⟨_, g1, fun k hk => ?_⟩ (hB.grown g2 (by simp) fun k hk => (h1.lt k hk).1)
      obtain rfl : k = 0 := by omega
      rfl
  · obtain ⟨b, o', rfl, hb, hc⟩ := hD h0
    have hlen : ((List.range m).map fun k => U9 (g k)).length = m * 1 := by simp
    refine wpList_append_own _ hgd s x 183 ho W.heap.size 169 i0 (.int .u32 0) 1 4 Tryz.underlying183 hi hii.1 hii.2.1 hii.2.2 rfl Nat.zero_lt_one _ 1 _ hs h1 ⟨b, o', none⟩ m c ((List.range m).map fun k => U9 (g k)) hx hlen
      (fun j u hj => ?_) (fun u hu => ?_) (by unfold maxLen; omega) (by omega) (by simp) ?_
    · rw [List.getElem?_map] at hj
      rcases Nat.lt_or_ge j m with hjm | hjm
      · rw [List.getElem?_range hjm] at hj
        simp only [Option.map_some, Option.some.injEq] at hj
        subst hj
        rw [Addr.add_lit]
        exact (hB.cell (p := ⟨b, o' + j, none⟩) hb).trans (hc j hjm)
      · rw [List.getElem?_eq_none (by simpa using hjm)] at hj
        simp at hj
    · simp only [List.mem_map] at hu
      obtain ⟨k, _, rfl⟩ := hu
      rfl
    · intro v' w' g1 g2 _
      rw [Nat.add_comm] at g1
      refine h v' w' ⟨_, g1, fun k hk => ?_⟩ (hB.grown g2 (by simp) fun k hk => (h1.lt k hk).1)
      rcases k with _ | k
      · rfl
      · have hkm : k < m := by omega
        show (((List.range m).map fun k => U9 (g k)))[k]? = _
        rw [List.getElem?_map, List.getElem?_range hkm]
        rfl

/-- The value v is a slice with the digits of x. -/
def N9At (w : World) (v : Value) (x : Nat) : Prop := ∃ A c, v = .slice A (nw9 x) c ∧ nw9 x ≤ c ∧ c ≤ 9223372036854775807 ∧ D9 w w.heap.size A (nw9 x) (dig9 x)
theorem N9At.below {w w' : World} {v : Value} {x : Nat} (h : N9At w v x) (hb : Below w.heap.size w w') : N9At w' v x := by
  obtain ⟨A, c, e, h1, h2, h3⟩ := h
  exact ⟨A, c, e, h1, h2, (h3.below hb).more hb.size⟩
theorem N9At.drewN {w : World} {v : Value} {x : Nat} (h : N9At w v x) (n : Nat) : N9At (w.drewN n) v x := h
/-- A call that returned a slice with the digits of x, in memory that existed or is new; what existed has not changed. -/
def Nat9 (x : Nat) (w : World) (e : Ending) (w' : World) : Prop := ∃ v, e = .returned v ∧ N9At w' v x ∧ Below w.heap.size w w'
theorem below_drewN {B : Nat} {a w : World} (h : Below B a w) (n : Nat) : Below B a (w.drewN n) := ⟨h.os, h.tape, h.output, h.size, h.block⟩

set_option maxHeartbeats 400000 in
theorem r_digit (w : World) (B : Nat) (A : Option Addr) (n c i : Nat) (g : Nat → Nat) (hg : ∀ k, g k < B9) (h : D9 w B A n g) :
    Calls Tryz.prog 212 #[.slice A n c, .int .i64 i] w fun e w' => e = .returned (U (if i < n then g i else 0)) ∧ w = w' := by
  by_cases hi : i < n
  · obtain ⟨b, o, rfl, hc⟩ := h.at_ hi
    rw [if_pos hi]
    have hgi := hg i
    clear h hg
    generalize g i = z at *
    go_enter Tryz.func212, Tryz.ntmps212
    go_wp2
    go_ret
    exact ⟨ret_i (by simp only [IntKind.wrap_u64] at *; unfold B9 at hgi; omega), rfl⟩
  · rw [if_neg hi]
    clear h
    go_enter Tryz.func212, Tryz.ntmps212
    go_wp2
    go_ret
    exact ⟨rfl, rfl⟩
theorem r_digitN (w : World) (v : Value) (i x : Nat) (h : N9At w v x) :
    Calls Tryz.prog 212 #[v, .int .i64 i] w fun e w' => e = .returned (U (dig9 x i)) ∧ w = w' := by
  obtain ⟨A, c, rfl, h1, h2, h3⟩ := h
  refine (r_digit w _ A _ c i _ (dig_lt9 x) h3).mono ?_
  rintro e w' ⟨rfl, rfl⟩
  refine ⟨ret_i ?_, rfl⟩
  by_cases hi : i < nw9 x
  · rw [if_pos hi]
  · rw [if_neg hi, dig_ge9 x _ i (lt_nw9 x) (by omega)]

set_option maxHeartbeats 400000 in
theorem r_trim (w : World) (B : Nat) (A : Option Addr) (m c x : Nat) (h : D9 w B A m (dig9 x)) (hx : x < B9 ^ m) (hm : m ≤ c) (hc : c ≤ 9223372036854775807) :
    Calls Tryz.prog 195 #[.slice A m c] w fun e w' => e = .returned (.slice A (nw9 x) c) ∧ w = w' := by
  have HN : Hid (nw9 x ≤ m) := (nw_le9 x m).2 hx
  clear hx
  go_enter Tryz.func195, Tryz.ntmps195
  go_wp2
  go_loop [0] (fun v => ∃ k : Nat, k ≤ m ∧ nw9 x ≤ k ∧ v = .slice A k c) (fun v => lenV9 v)
  case atStart => exact ⟨m, Nat.le_refl _, HN.out, rfl⟩
  case round =>
    obtain ⟨k, hk, hn, rfl⟩ := hrel
    by_cases h0 : k = 0
    · subst h0
      have hn0 : nw9 x = 0 := by omega
      have H := Lib.hid hn0
      clear hn hn0 h
      go_wp2
      go_ret
      exact ⟨by rw [H.out]; rfl, rfl⟩
    · obtain ⟨j, rfl⟩ : ∃ j, k = j + 1 := ⟨k - 1, by omega⟩
      obtain ⟨b, o, rfl, hcell⟩ := h.at_ (k := j) (by omega)
      by_cases hd : dig9 x j = 0
      · have HL : Hid (nw9 x ≤ j) := (nw_le9 x j).2 (lt_pred9 x j ((nw_le9 x (j + 1)).1 hn) hd)
        rw [hd] at hcell
        clear hd hn h
        go_wp2
        go_round
        case rel => exact ⟨j, by omega, HL.out, by go_num⟩
        case measure => simp [lenV9]
      · have he : nw9 x = j + 1 := nw_of9 x (j + 1) ((nw_le9 x (j + 1)).1 hn) (.inr (by simpa using ge_of_dig9 x j hd))
        have h2 : ((dig9 x j : Int) == 0) = false := by rw [beq_eq_false_iff_ne]; omega
        have H := Lib.hid he
        clear he hn h
        generalize dig9 x j = u at *
        go_wp2
        go_ret
        exact ⟨by rw [H.out]; rfl, rfl⟩
end Go.Proofs.YtogmbehomilalaaGreatDoor
end

/- Plain numbers: subtracting, multiplying and dividing digits to the base 10^9. No condition. -/
section
namespace Go.Proofs.YtogmbehomilalaaGreatDoor
theorem sub_mod9 (a b q : Nat) (ha : a < B9) (hb : b < B9) (hq : q ≤ 1) :
    (a + B9 - b - q) % B9 + b + q = a + (1 - (a + B9 - b - q) / B9) * B9 ∧ (a + B9 - b - q) / B9 ≤ 1 := by
  unfold B9 at *
  omega
theorem sub_step9 (f gx gy f' : Nat → Nat) (k q : Nat) (hf : ∀ j, j < k → f' j = f j) (h1 : f' k = (gx k + B9 - gy k - q) % B9) (hx : gx k < B9) (hy : gy k < B9) (hq : q ≤ 1)
    (h : vl9 f k + vl9 gy k = vl9 gx k + q * B9 ^ k) : vl9 f' (k + 1) + vl9 gy (k + 1) = vl9 gx (k + 1) + (1 - (gx k + B9 - gy k - q) / B9) * B9 ^ (k + 1) := by
  rw [vl_succ9, vl_succ9, vl_succ9, vl_congr9 f' f k hf, h1, Nat.pow_succ]
  have h2 := (sub_mod9 (gx k) (gy k) q hx hy hq).1
  generalize (gx k + B9 - gy k - q) % B9 = r at *
  generalize (1 - (gx k + B9 - gy k - q) / B9) = c at *
  generalize B9 ^ k = P at *
  have h3 : (r + gy k + q) * P = (gx k + c * B9) * P := by rw [h2]
  have h4 : c * (P * B9) = c * B9 * P := by rw [Nat.mul_comm P, Nat.mul_assoc]
  rw [Nat.add_mul, Nat.add_mul, Nat.add_mul] at h3
  omega
theorem vl_add9 (f : Nat → Nat) (i n : Nat) : vl9 f (i + n) = vl9 f i + B9 ^ i * vl9 (fun j => f (i + j)) n := by
  induction n with
  | zero => simp [vl9]
  | succ n ih =>
    rw [← Nat.add_assoc, vl_succ9, ih, vl_succ9, Nat.mul_add, Nat.pow_add]
    generalize B9 ^ i = P; generalize B9 ^ n = Q
    grind
theorem mul_lt9 (a b c d : Nat) (ha : a < B9) (hb : b < B9) (hc : c < B9) (hd : d < B9) : d + a * b + c < B9 * B9 := by
  have h1 : a * b ≤ (B9 - 1) * (B9 - 1) := Nat.mul_le_mul (by omega) (by omega)
  unfold B9 at *
  omega
theorem mul_carry9 (a b c d : Nat) (ha : a < B9) (hb : b < B9) (hc : c < B9) (hd : d < B9) : (d + a * b + c) / B9 < B9 := by
  rw [Nat.div_lt_iff_lt_mul B9_pos]
  exact mul_lt9 a b c d ha hb hc hd
theorem mul_step9 (f f' F gy : Nat → Nat) (k c a : Nat) (hf : ∀ j, j < k → F j = f' j) (h1 : F k = (f k + a * gy k + c) % B9)
    (h : vl9 f' k + c * B9 ^ k = vl9 f k + a * vl9 gy k) : vl9 F (k + 1) + (f k + a * gy k + c) / B9 * B9 ^ (k + 1) = vl9 f (k + 1) + a * vl9 gy (k + 1) := by
  rw [vl_succ9, vl_succ9, vl_succ9, vl_congr9 F f' k hf, h1, Nat.pow_succ]
  have h2 := mod_div_mul9 (f k + a * gy k + c) (B9 ^ k)
  generalize (f k + a * gy k + c) % B9 = r at *
  generalize (f k + a * gy k + c) / B9 = q at *
  generalize B9 ^ k = P at *
  rw [Nat.add_mul, Nat.add_mul] at h2
  have h3 : a * (vl9 gy k + gy k * P) = a * vl9 gy k + a * gy k * P := by rw [Nat.mul_add, Nat.mul_assoc]
  omega
theorem times_step9 (f F gx : Nat → Nat) (i n y : Nat) (hlow : ∀ j, j < i → F j = f j)
    (h1 : vl9 (fun j => F (i + j)) (n + 1) = vl9 (fun j => f (i + j)) n + gx i * y) (h2 : vl9 f (i + n) = vl9 gx i * y) :
    vl9 F (i + 1 + n) = vl9 gx (i + 1) * y := by
  rw [show i + 1 + n = i + (n + 1) by omega, vl_add9, h1, vl_succ9, vl_congr9 F f i hlow, Nat.add_mul, ← h2, vl_add9]
  generalize vl9 (fun j => f (i + j)) n = b
  generalize B9 ^ i = P
  grind
/-- The number with one digit more below. -/
theorem dig_cons_zero9 (r d : Nat) (hd : d < B9) : dig9 (r * B9 + d) 0 = d := by
  rw [dig_zero9, Nat.mul_add_mod_of_lt hd]
theorem dig_cons_succ9 (r d k : Nat) (hd : d < B9) : dig9 (r * B9 + d) (k + 1) = dig9 r k := by
  unfold dig9
  rw [Nat.pow_succ', ← Nat.div_div_eq_div_mul, Nat.add_comm, Nat.add_mul_div_right _ _ B9_pos, Nat.div_eq_of_lt hd, Nat.zero_add]
theorem cons_lt9 (r d n : Nat) (hr : r < B9 ^ n) (hd : d < B9) : r * B9 + d < B9 ^ (n + 1) := by
  rw [Nat.pow_succ]
  have : (r + 1) * B9 ≤ B9 ^ n * B9 := Nat.mul_le_mul_right _ hr
  rw [Nat.add_mul] at this
  omega
theorem over_parts (a d y : Nat) (hy : 0 < y) (hd : d < B9) : (a * B9 + d) / y = a / y * B9 + (a % y * B9 + d) / y ∧ (a * B9 + d) % y = (a % y * B9 + d) % y ∧ (a % y * B9 + d) / y < B9 := by
  have h1 := Nat.div_add_mod a y
  have h2 : a * B9 + d = (a % y * B9 + d) + y * (a / y * B9) := by
    conv => lhs; rw [← h1]
    rw [Nat.add_mul, Nat.mul_assoc]; omega
  have hr := Nat.mod_lt a hy
  refine ⟨?_, ?_, ?_⟩
  · rw [h2, Nat.add_mul_div_left _ _ hy]; omega
  · rw [h2, Nat.add_mul_mod_self_left]
  · rw [Nat.div_lt_iff_lt_mul hy, Nat.mul_comm B9]
    have : (a % y + 1) * B9 ≤ y * B9 := Nat.mul_le_mul_right _ hr
    rw [Nat.add_mul] at this
    omega
theorem over_digit9 (x y i : Nat) (hy : 0 < y) : (x / B9 ^ (i + 1) % y * B9 + dig9 x i) / y = dig9 (x / y) i := by
  have h1 := over_parts (x / B9 ^ (i + 1)) (dig9 x i) y hy (dig_lt9 x i)
  have h2 : x / y / B9 ^ i = x / B9 ^ i / y := by rw [Nat.div_div_eq_div_mul, Nat.div_div_eq_div_mul, Nat.mul_comm]
  rw [show dig9 (x / y) i = x / y / B9 ^ i % B9 from rfl, h2, div_step9 x i, h1.1, Nat.mul_add_mod_of_lt h1.2.2]
theorem over_rest9 (x y i : Nat) (hy : 0 < y) : (x / B9 ^ (i + 1) % y * B9 + dig9 x i) % y = x / B9 ^ i % y := by
  rw [div_step9 x i]
  exact (over_parts (x / B9 ^ (i + 1)) (dig9 x i) y hy (dig_lt9 x i)).2.1.symm
end Go.Proofs.YtogmbehomilalaaGreatDoor
end

/- The reference's natural numbers: of a word. -/
section
namespace Go.Proofs.YtogmbehomilalaaGreatDoor
open Go.RowKit Go.Deep

theorem own_nat9 {w w' : World} {v : Value} {x n : Nat} (h : Own9 w' w.heap.size v n (dig9 x)) (hn : nw9 x = n) (hb : Below w.heap.size w w') : Nat9 x w (.returned v) w' := by
  obtain ⟨A, c, rfl, h1, h2, h3⟩ := h.out
  subst hn
  exact ⟨_, rfl, ⟨A, c, rfl, h1, by unfold maxLen at h2; omega, h3⟩, hb⟩
theorem Own9.congr {w : World} {base n : Nat} {v : Value} {f g : Nat → Nat} (h : Own9 w base v n f) (e : ∀ k, k < n → f k = g k) : Own9 w base v n g := by
  obtain ⟨xs, h1, h2⟩ := h
  exact ⟨xs, h1, fun k hk => by rw [h2 k hk, e k hk]⟩

set_option maxHeartbeats 1000000 in
theorem r_natural (w : World) (x : Nat) (hx : x < W64) : Calls Tryz.prog 136 #[U x] w (Nat9 x w) := by
  go_enter Tryz.func136, Tryz.ntmps136
  go_wp2
  go_loopw [0, 3] (fun v out wr => ∃ k q : Nat, v = U q ∧ q < W64 ∧ Hid (q = x / B9 ^ k) ∧ k ≤ 64 ∧ Own9 wr w.heap.size out k (dig9 x) ∧ Below w.heap.size w wr ∧ Hid (q * 2 ^ k < 2 ^ 64) ∧ Hid (k = 0 ∨ B9 ^ (k - 1) ≤ x)) (fun v _ _ => (intOf v).toNat)
  case atStart => exact ⟨0, x, rfl, hx, by show x = x / 1; simp, by omega, Own9.nil _ _ _, Below.refl _ _, by show x * 1 < _; unfold W64 at hx; omega, .inl rfl⟩
  case round =>
    obtain ⟨k, q, rfl, hq, HQ, hk, hown, hb, HL, HK⟩ := hrel
    have hown' := hown
    obtain ⟨A, c, rfl, -, -, -⟩ := hown'.out
    by_cases h0 : q = 0
    · subst h0
      have hlt : x < B9 ^ k := by
        have h1 := HQ.out
        rcases Nat.lt_or_ge x (B9 ^ k) with h2 | h2
        · exact h2
        · have := Nat.div_pos h2 (B9_pow_pos k); omega
      have R := Lib.hid (own_nat9 hown ((nw_of9 x k hlt (HK.out)) ) hb)
      clear hq hown hown' hb HQ HL HK hlt hk
      go_wp2
      go_ret
      exact R.out
    · have hq0 : (0 : Int) < (q : Int) := by omega
      have HD : Hid (dig9 x k = q % 1000000000) := by show x / B9 ^ k % B9 = _; rw [← HQ.out]; rfl
      have HN : Hid (q / 1000000000 = x / B9 ^ (k + 1)) := by show _ = _; rw [Nat.pow_succ, ← Nat.div_div_eq_div_mul, ← HQ.out]; rfl
      have HK' : Hid (k + 1 = 0 ∨ B9 ^ (k + 1 - 1) ≤ x) := .inr (by
        rw [Nat.add_sub_cancel]
        rcases Nat.lt_or_ge x (B9 ^ k) with h2 | h2
        · have h1 := HQ.out; rw [Nat.div_eq_of_lt h2] at h1; omega
        · exact h2)
      have HL' : Hid (q / 1000000000 * 2 ^ (k + 1) < 2 ^ 64) := by
        show _ < _
        have h1 := HL.out
        have h2 : q / 1000000000 * 2 ≤ q := by omega
        have h3 : q / 1000000000 * 2 * 2 ^ k ≤ q * 2 ^ k := Nat.mul_le_mul_right _ h2
        rw [Nat.pow_succ, Nat.mul_comm (2 ^ k), ← Nat.mul_assoc]
        omega
      have hk' : k < 64 := by
        rcases Nat.lt_or_ge k 64 with h1 | h1
        · exact h1
        · have h2 : 2 ^ 64 ≤ 2 ^ k := Nat.pow_le_pow_right (by decide) h1
          have h3 : 1 * 2 ^ k ≤ q * 2 ^ k := Nat.mul_le_mul_right _ (by omega)
          have h4 := HL.out
          omega
      have Hq := Lib.hid hq
      have HWn := Lib.hid hown
      have HB := Lib.hid hb
      have hsz := hb.size
      clear hq hown hown' hb HQ HL HK
      go_wp2_with (at_builtin; refine wpList_app9 rfl _ _ rfl wr _ (dig9 x k) rfl ?_ w.heap.size _ k (dig9 x) rfl rfl HWn.out (by omega) hsz ?_; (focus (rw [HD.out]; exact congrArg (Value.int .u32) (by omega))); intro v' w' hown2 hb2)
      go_roundw
      case rel =>
        have Hq2 := Hq.out
        refine ⟨k + 1, q / 1000000000, by unfold W64 at Hq2; exact congrArg (Value.int .u64) (by rw [IntKind.wrap_u64]; omega), Nat.lt_of_le_of_lt (Nat.div_le_self _ _) Hq2, HN, by omega, hown2.congr fun j hj => ?_, HB.out.trans hb2, HL', HK'⟩
        by_cases e : j = k
        · subst e; rw [upd_same]
        · rw [upd_ne _ _ _ _ e]
      case measure =>
        have Hq2 := Hq.out
        unfold W64 at Hq2
        simp only [intOf, IntKind.wrap_u64]
        omega
end Go.Proofs.YtogmbehomilalaaGreatDoor
end

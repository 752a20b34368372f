/- Different coordinates have different Hilbert keys. -/
import Derived.Test.YthddlbngjhkhhaaGreatDoorZSeq
import Derived.Test.YthddlbngjhkhhaaGreatDoorZBldK
import Derived.Lib.ItoaNum
import Derived.Test.YthddlbngjhkhhaaGreatDoorProg
import Derived.Test.YthddlbngjhkhhaaGreatDoorZInl

/- Different coordinates have different Hilbert keys. -/
section
namespace Go.Proofs.YthddlbngjhkhhaaGreatDoor

theorem bit_test (y q : Nat) : (bitN y q == 1) = y.testBit q := by
  unfold bitN
  rw [Nat.testBit_eq_decide_div_mod_eq]
  by_cases h : y / 2 ^ q % 2 = 1 <;> simp [h]
/-- Two lists of numbers agree at the first n places. -/
def AgN (n : Nat) (Y Z : Nat → Nat) : Prop := ∀ j, j < n → Y j = Z j
theorem low_test (q : Nat) : (2 ^ q - 1).testBit q = false := by rw [Nat.testBit_two_pow_sub_one]; simp
theorem bit_keep {x d q : Nat} (h : d.testBit q = false) : (bitN (x ^^^ d) q == 1) = (bitN x q == 1) := by
  rw [bit_test, bit_test, Nat.testBit_xor, h, Bool.xor_false]
theorem xor_back (x d : Nat) : x ^^^ d ^^^ d = x := by rw [Nat.xor_assoc, Nat.xor_self, Nat.xor_zero]
theorem updN_self (f : Nat → Nat) (k v : Nat) : updN f k v k = v := if_pos rfl
theorem updN_ne (f : Nat → Nat) {k j : Nat} (v : Nat) (h : j ≠ k) : updN f k v j = f j := if_neg h
theorem stepH_yes {q k : Nat} {Y : Nat → Nat} (h : (bitN (Y k) q == 1) = true) : stepH q Y k = updN Y 0 (Y 0 ^^^ (2 ^ q - 1)) := by
  unfold stepH; rw [h]; rfl
theorem stepH_no {q k : Nat} {Y : Nat → Nat} (h : (bitN (Y k) q == 1) = false) (hk : k ≠ 0) : ∀ j, stepH q Y k j = if j = k then Y k ^^^ ((Y 0 ^^^ Y k) &&& (2 ^ q - 1)) else if j = 0 then Y 0 ^^^ ((Y 0 ^^^ Y k) &&& (2 ^ q - 1)) else Y j := by
  intro j
  unfold stepH
  rw [h, cond_false]
  unfold updN
  by_cases e : j = k
  · rw [if_pos e, if_pos e, if_neg hk]
  · rw [if_neg e, if_neg e]
theorem stepH_zero {q : Nat} {Y : Nat → Nat} (h : (bitN (Y 0) q == 1) = false) : ∀ j, stepH q Y 0 j = Y j := by
  intro j
  unfold stepH
  rw [h, cond_false]
  unfold updN
  by_cases e : j = 0
  · rw [if_pos e, if_pos rfl, Nat.xor_self, Nat.zero_and, Nat.xor_zero, Nat.xor_zero, e]
  · rw [if_neg e, if_neg e]
/-- A turn's step undoes itself. -/
theorem stepH_inv (q k : Nat) (Y : Nat → Nat) : ∀ j, stepH q (stepH q Y k) k j = Y j := by
  intro j
  cases h : (bitN (Y k) q == 1)
  · by_cases hk : k = 0
    · subst hk
      have h1 := stepH_zero h
      have h2 : (bitN (stepH q Y 0 0) q == 1) = false := by rw [h1]; exact h
      rw [stepH_zero h2, h1]
    · have h1 := stepH_no h hk
      have hl : ((Y 0 ^^^ Y k) &&& (2 ^ q - 1)).testBit q = false := by rw [Nat.testBit_and, low_test, Bool.and_false]
      have a0 : stepH q Y k 0 = Y 0 ^^^ ((Y 0 ^^^ Y k) &&& (2 ^ q - 1)) := by rw [h1, if_neg (fun e => hk e.symm), if_pos rfl]
      have ak : stepH q Y k k = Y k ^^^ ((Y 0 ^^^ Y k) &&& (2 ^ q - 1)) := by rw [h1, if_pos rfl]
      have h2 : (bitN (stepH q Y k k) q == 1) = false := by rw [ak, bit_keep hl]; exact h
      rw [stepH_no h2 hk, a0, ak]
      have hd : (Y 0 ^^^ ((Y 0 ^^^ Y k) &&& (2 ^ q - 1))) ^^^ (Y k ^^^ ((Y 0 ^^^ Y k) &&& (2 ^ q - 1))) = Y 0 ^^^ Y k := by
        generalize (Y 0 ^^^ Y k) &&& (2 ^ q - 1) = d
        apply Nat.eq_of_testBit_eq
        intro i
        simp only [Nat.testBit_xor]
        cases (Y 0).testBit i <;> cases (Y k).testBit i <;> cases d.testBit i <;> rfl
      rw [hd, xor_back, xor_back]
      by_cases e : j = k
      · rw [if_pos e, e]
      · rw [if_neg e]
        by_cases e0 : j = 0
        · rw [if_pos e0, e0]
        · rw [if_neg e0, h1, if_neg e, if_neg e0]
  · have h1 := stepH_yes h
    have hk : stepH q Y k k = if k = 0 then Y 0 ^^^ (2 ^ q - 1) else Y k := by rw [h1]; rfl
    have h2 : (bitN (stepH q Y k k) q == 1) = true := by
      rw [hk]
      by_cases e : k = 0
      · subst e; rw [if_pos rfl, bit_keep (low_test q)]; exact h
      · rw [if_neg e]; exact h
    rw [stepH_yes h2, h1]
    by_cases e : j = 0
    · subst e; rw [updN_self, updN_self, xor_back]
    · rw [updN_ne _ _ e, updN_ne _ _ e]
theorem stepH_congr {q k n : Nat} {Y Z : Nat → Nat} (hk : k < n) (h : AgN n Y Z) : AgN n (stepH q Y k) (stepH q Z k) := by
  intro j hj
  have h0 := h 0 (by omega)
  have hk' := h k hk
  have hj' := h j hj
  unfold stepH updN
  rw [hk', h0]
  cases (bitN (Z k) q == 1) <;> simp only [cond_true, cond_false] <;> rw [hj']
theorem stepH_inj {q k n : Nat} {Y Z : Nat → Nat} (hk : k < n) (h : AgN n (stepH q Y k) (stepH q Z k)) : AgN n Y Z := fun j hj => by
  rw [← stepH_inv q k Y j, ← stepH_inv q k Z j]
  exact stepH_congr hk h j hj
theorem turnTo_inj {q n : Nat} {Y Z : Nat → Nat} : ∀ k, k ≤ n → AgN n (turnTo q Y k) (turnTo q Z k) → AgN n Y Z
  | 0, _, h => h
  | k + 1, hk, h => turnTo_inj k (by omega) (stepH_inj (by omega) h)
theorem turnsW_inj {n : Nat} : ∀ (q : Nat) {Y Z : Nat → Nat}, AgN n (turnsW n q Y) (turnsW n q Z) → AgN n Y Z
  | 0, _, _, h => h
  | q + 1, _, _, h => turnTo_inj n (Nat.le_refl _) (turnsW_inj q h)
theorem xor_cancel {a b c : Nat} (h : a ^^^ c = b ^^^ c) : a = b := by rw [← xor_back a c, h, xor_back]
theorem grayTo_inj {n : Nat} {Y Z : Nat → Nat} : ∀ k, k < n → AgN n (grayTo Y k) (grayTo Z k) → AgN n Y Z
  | 0, _, h => h
  | k + 1, hk, h => grayTo_inj k (by omega) fun j hj => by
    have hkk := h k (by omega)
    rw [grayTo, grayTo, updN_ne _ _ (by omega), updN_ne _ _ (by omega)] at hkk
    by_cases e : j = k + 1
    · subst e
      have h1 := h (k + 1) hj
      rw [grayTo, grayTo, updN_self, updN_self, hkk] at h1
      exact xor_cancel h1
    · have h1 := h j hj
      rw [grayTo, grayTo, updN_ne _ _ e, updN_ne _ _ e] at h1
      exact h1
theorem xorTo_at (t : Nat) (Y : Nat → Nat) : ∀ k j, xorTo t Y k j = if j < k then Y j ^^^ t else Y j
  | 0, j => by rw [if_neg (Nat.not_lt_zero j)]; rfl
  | k + 1, j => by
    rw [xorTo]
    by_cases e : j = k
    · subst e
      rw [updN_self, xorTo_at t Y j j, if_neg (Nat.lt_irrefl j), if_pos (Nat.lt_succ_self j)]
    · rw [updN_ne _ _ e, xorTo_at t Y k j]
      by_cases h : j < k
      · rw [if_pos h, if_pos (by omega)]
      · rw [if_neg h, if_neg (by omega)]
theorem tW_bit {y z i : Nat} (h : ∀ q, i < q → y.testBit q = z.testBit q) : ∀ p t u, t.testBit i = u.testBit i → (tW y p t).testBit i = (tW z p u).testBit i
  | 0, _, _, ht => ht
  | p + 1, t, u, ht => by
    rw [tW, tW]
    apply tW_bit h
    rw [bit_test, bit_test]
    by_cases hi : i < p + 1
    · rw [h (p + 1) hi]
      cases z.testBit (p + 1)
      · exact ht
      · rw [cond_true, cond_true, Nat.testBit_xor, Nat.testBit_xor, ht]
    · have hz : (2 ^ (p + 1) - 1).testBit i = false := by rw [Nat.testBit_two_pow_sub_one]; simpa using hi
      have : ∀ (b : Bool) (x : Nat), (bif b then x ^^^ (2 ^ (p + 1) - 1) else x).testBit i = x.testBit i := fun b x => by
        cases b
        · rfl
        · rw [cond_true, Nat.testBit_xor, hz, Bool.xor_false]
      rw [this, this, ht]
theorem tW_high {y i : Nat} : ∀ p t, p ≤ i → (tW y p t).testBit i = t.testBit i
  | 0, _, _ => rfl
  | p + 1, t, hi => by
    rw [tW, tW_high p _ (by omega)]
    have hz : (2 ^ (p + 1) - 1).testBit i = false := by rw [Nat.testBit_two_pow_sub_one]; simpa using hi
    cases (bitN y (p + 1) == 1)
    · rfl
    · rw [cond_true, Nat.testBit_xor, hz, Bool.xor_false]
theorem tW_inj {y z p : Nat} (h : y ^^^ tW y p 0 = z ^^^ tW z p 0) : y = z := by
  have key : ∀ m i, p ≤ i + m → y.testBit i = z.testBit i := by
    intro m
    induction m with
    | zero =>
      intro i hi
      have h1 := congrArg (fun x => Nat.testBit x i) h
      simp only [Nat.testBit_xor] at h1
      rw [tW_high p 0 (by omega), tW_high p 0 (by omega)] at h1
      simpa using h1
    | succ m ih =>
      intro i hi
      have h1 := congrArg (fun x => Nat.testBit x i) h
      simp only [Nat.testBit_xor] at h1
      rw [tW_bit (z := z) (fun q hq => ih q (by omega)) p 0 0 rfl] at h1
      cases hy : y.testBit i <;> cases hz : z.testBit i <;> rw [hy, hz] at h1 <;> cases hT : (tW z p 0).testBit i <;> rw [hT] at h1 <;> first | rfl | (exact absurd h1 (by decide))
  exact Nat.eq_of_testBit_eq fun i => key p i (by omega)
theorem intl_inj {Y Z : Nat → Nat} {q : Nat} : ∀ {n a b : Nat}, intl Y q a n = intl Z q b n → a = b ∧ ∀ k, k < n → bitN (Y k) q = bitN (Z k) q
  | 0, _, _, h => ⟨h, fun k hk => absurd hk (Nat.not_lt_zero k)⟩
  | n + 1, a, b, h => by
    rw [intl, intl] at h
    have h1 := bitN_lt (Y n) q
    have h2 := bitN_lt (Z n) q
    obtain ⟨h3, h4⟩ := intl_inj (n := n) (a := a) (b := b) (show intl Y q a n = intl Z q b n by omega)
    refine ⟨h3, fun k hk => ?_⟩
    by_cases e : k = n
    · subst e; omega
    · exact h4 k (by omega)
theorem intlW_inj {Y Z : Nat → Nat} {n : Nat} : ∀ {w a b : Nat}, intlW Y n w a = intlW Z n w b → a = b ∧ ∀ q, q < w → ∀ k, k < n → bitN (Y k) q = bitN (Z k) q
  | 0, _, _, h => ⟨h, fun q hq => absurd hq (Nat.not_lt_zero q)⟩
  | w + 1, a, b, h => by
    rw [intlW, intlW] at h
    obtain ⟨h1, h2⟩ := intlW_inj h
    obtain ⟨h3, h4⟩ := intl_inj h1
    refine ⟨h3, fun q hq k hk => ?_⟩
    by_cases e : q = w
    · subst e; exact h4 k hk
    · exact h2 q (by omega) k hk
def LtN (n w : Nat) (Y : Nat → Nat) : Prop := ∀ j, j < n → Y j < 2 ^ w
theorem low_le {q w : Nat} (h : q ≤ w) : 2 ^ q - 1 < 2 ^ w := Nat.lt_of_lt_of_le (Nat.sub_lt (Nat.two_pow_pos q) (by decide)) (Nat.pow_le_pow_right (by decide) h)
theorem updN_ltN {n w k v : Nat} {Y : Nat → Nat} (h : LtN n w Y) (hv : v < 2 ^ w) : LtN n w (updN Y k v) := fun j hj => by
  unfold updN
  split
  · exact hv
  · exact h j hj
theorem stepH_ltN {n w q k : Nat} {Y : Nat → Nat} (h : LtN n w Y) (hq : q ≤ w) (hk : k < n) : LtN n w (stepH q Y k) := by
  have h0 := h 0 (by omega)
  have hk' := h k hk
  have hd : (Y 0 ^^^ Y k) &&& (2 ^ q - 1) < 2 ^ w := Nat.lt_of_le_of_lt Nat.and_le_right (low_le hq)
  unfold stepH
  cases bitN (Y k) q == 1
  · rw [cond_false]
    have h1 : LtN n w (updN Y 0 (Y 0 ^^^ ((Y 0 ^^^ Y k) &&& (2 ^ q - 1)))) := updN_ltN h (Nat.xor_lt_two_pow h0 hd)
    exact updN_ltN h1 (Nat.xor_lt_two_pow (h1 k hk) hd)
  · rw [cond_true]
    exact updN_ltN h (Nat.xor_lt_two_pow h0 (low_le hq))
theorem turnTo_ltN {n w q : Nat} {Y : Nat → Nat} (h : LtN n w Y) (hq : q ≤ w) : ∀ k, k ≤ n → LtN n w (turnTo q Y k)
  | 0, _ => h
  | k + 1, hk => stepH_ltN (turnTo_ltN h hq k (by omega)) hq (by omega)
theorem turnsW_ltN {n w : Nat} : ∀ (q : Nat) {Y : Nat → Nat}, LtN n w Y → q ≤ w → LtN n w (turnsW n q Y)
  | 0, _, h, _ => h
  | q + 1, _, h, hq => turnsW_ltN q (turnTo_ltN h hq n (Nat.le_refl _)) (by omega)
theorem grayTo_ltN {n w : Nat} {Y : Nat → Nat} (h : LtN n w Y) : ∀ k, k < n → LtN n w (grayTo Y k)
  | 0, _ => h
  | k + 1, hk => by
    have ih := grayTo_ltN h k (by omega)
    exact updN_ltN ih (Nat.xor_lt_two_pow (ih (k + 1) hk) (ih k (by omega)))
theorem tW_lt {y w : Nat} : ∀ p t, p ≤ w → t < 2 ^ w → tW y p t < 2 ^ w
  | 0, _, _, h => h
  | p + 1, t, hp, h => by
    rw [tW]
    apply tW_lt p _ (by omega)
    cases bitN y (p + 1) == 1
    · exact h
    · exact Nat.xor_lt_two_pow h (low_le hp)
theorem bits_all {a b w : Nat} (ha : a < 2 ^ w) (hb : b < 2 ^ w) (h : ∀ q, q < w → bitN a q = bitN b q) : a = b := by
  apply Nat.eq_of_testBit_eq
  intro i
  by_cases hi : i < w
  · rw [← bit_test, ← bit_test, h i hi]
  · rw [Nat.testBit_lt_two_pow (Nat.lt_of_lt_of_le ha (Nat.pow_le_pow_right (by decide) (by omega))), Nat.testBit_lt_two_pow (Nat.lt_of_lt_of_le hb (Nat.pow_le_pow_right (by decide) (by omega)))]
/-- The key determines the numbers. -/
theorem hilN_inj {n wd : Nat} {Y Z : Nat → Nat} (hn : 1 ≤ n) (hY : LtN n wd Y) (hZ : LtN n wd Z) (h : hilN n wd Y = hilN n wd Z) : AgN n Y Z := by
  unfold hilN at h
  have gY := grayTo_ltN (turnsW_ltN (wd - 1) hY (by omega)) (n - 1) (by omega)
  have gZ := grayTo_ltN (turnsW_ltN (wd - 1) hZ (by omega)) (n - 1) (by omega)
  refine turnsW_inj (wd - 1) (grayTo_inj (n - 1) (by omega) ?_)
  generalize grayTo (turnsW n (wd - 1) Y) (n - 1) = A at *
  generalize grayTo (turnsW n (wd - 1) Z) (n - 1) = B at *
  have hb := (intlW_inj h).2
  have hx : ∀ j, j < n → A j ^^^ tW (A (n - 1)) (wd - 1) 0 = B j ^^^ tW (B (n - 1)) (wd - 1) 0 := fun j hj => by
    have tl : ∀ y, tW y (wd - 1) 0 < 2 ^ wd := fun y => tW_lt _ _ (by omega) (Nat.two_pow_pos wd)
    refine bits_all (Nat.xor_lt_two_pow (gY j hj) (tl _)) (Nat.xor_lt_two_pow (gZ j hj) (tl _)) fun q hq => ?_
    have h1 := hb q hq j hj
    rw [xorTo_at, xorTo_at, if_pos hj, if_pos hj] at h1
    exact h1
  have he : A (n - 1) = B (n - 1) := tW_inj (hx (n - 1) (by omega))
  intro j hj
  have h1 := hx j hj
  rw [he] at h1
  exact xor_cancel h1
theorem intlW_lt {Y : Nat → Nat} {n : Nat} : ∀ {w e key : Nat}, key < 2 ^ e → intlW Y n w key < 2 ^ (e + n * w)
  | 0, _, _, h => h
  | w + 1, e, key, h => by
    rw [intlW]
    have := intlW_lt (Y := Y) (n := n) (w := w) (intl_lt (Y := Y) (q := w) h n)
    rwa [Nat.add_assoc, show n + n * w = n * (w + 1) by rw [Nat.mul_succ, Nat.add_comm]] at this
theorem hilN_lt (n wd : Nat) (Y : Nat → Nat) : hilN n wd Y < 2 ^ (n * wd) := by
  have := intlW_lt (Y := xorTo (tW (grayTo (turnsW n (wd - 1) Y) (n - 1) (n - 1)) (wd - 1) 0) (grayTo (turnsW n (wd - 1) Y) (n - 1)) n) (n := n) (w := wd) (e := 0) (key := 0) (by decide)
  rwa [Nat.zero_add] at this
end Go.Proofs.YthddlbngjhkhhaaGreatDoor
end

/- The keys of the row-major and of the tiled order. -/
section
namespace Go.Proofs.YthddlbngjhkhhaaGreatDoor
open Go Go.RowKit Go.Deep

theorem frm_box (w : World) (L H : Value) (tile wd : Int) (W : World) (hW : Below (w.alloc (.cells #[L, H, .int .i64 tile, .int .i64 wd] 101)).heap.size (w.alloc (.cells #[L, H, .int .i64 tile, .int .i64 wd] 101)) W) :
    W.cell? ⟨w.heap.size, 0, none⟩ = some L ∧ W.cell? ⟨w.heap.size, 1, none⟩ = some H ∧ W.cell? ⟨w.heap.size, 2, none⟩ = some (.int .i64 tile) ∧ W.cell? ⟨w.heap.size, 3, none⟩ = some (.int .i64 wd) := by
  have h := (hW.block w.heap.size (by simp)).trans (heap_alloc_new w _)
  refine ⟨?_, ?_, ?_, ?_⟩ <;> (rw [cell_of_row _ _ _ _ _ _ h]; rfl)
def extB (lo hi : Nat → Int) (n : Nat) : Prop := ∀ k, k < n → -1073741824 ≤ lo k ∧ lo k ≤ hi k ∧ hi k ≤ 1073741824 ∧ hi k - lo k < 4096
set_option maxRecDepth 100000 in
set_option maxHeartbeats 1000000 in
theorem s_fextent (w : World) (L H : Option Addr) (n cl ch : Nat) (tile wd : Int) (lo hi : Nat → Int) (k : Nat) (hl : IntsAt w L n lo) (hh : IntsAt w H n hi) (hk : k < n) (hb : extB lo hi n) :
    Calls Tryz.prog 60 #[FrmV L n cl H n ch tile wd, .int .i64 k] w fun e w' => e = .returned (.int .i64 (hi k - lo k + 1)) ∧ Below w.heap.size w w' := by
  have KB := Lib.hid (frm_box w (.slice L n cl) (.slice H n ch) tile wd)
  have HB : Hid (Below w.heap.size w (w.alloc (.cells #[.slice L n cl, .slice H n ch, .int .i64 tile, .int .i64 wd] 101))) := (Below.refl _ _).alloc (Nat.le_refl _) _
  have HL := Lib.hid (hl.below HB.out)
  have HH := Lib.hid (hh.below HB.out)
  obtain ⟨q1, q2, q3, q4⟩ := hb k hk
  clear hl hh hb
  go_enter Tryz.func60, Tryz.ntmps60
  go_wp2_with fail
  generalize w.alloc (.cells #[.slice L n cl, .slice H n ch, .int .i64 tile, .int .i64 wd] 101) = W0 at *
  obtain ⟨b1, o1, rfl, h1, hc1⟩ := HL.out (by omega)
  obtain ⟨b2, o2, rfl, h2, hc2⟩ := HH.out (by omega)
  have x0 := hc1 k hk
  have y0 := hc2 k hk
  obtain ⟨m0, m1, -, -⟩ := KB.out _ (Below.refl _ _)
  clear hc1 hc2
  go_wp2_with fail
  go_quiet (fail)
  go_wp2
  go_ret
  exact ⟨rfl, drewB HB.out _⟩

/-- The number of coordinates, row by row. -/
def rmZ (lo hi xs : Nat → Int) : Nat → Int
  | 0 => 0
  | k + 1 => rmZ lo hi xs k * (hi k - lo k + 1) + (xs k - lo k)
def tlZ (lo hi xs : Nat → Int) (tile : Int) : Nat → Int
  | 0 => 0
  | k + 1 => tlZ lo hi xs tile k * (hi k - lo k + 1) + (xs k - lo k) / tile
def inB (lo hi xs : Nat → Int) (n : Nat) : Prop := ∀ k, k < n → lo k ≤ xs k ∧ xs k ≤ hi k
theorem num_next {P p e y : Int} (h0 : 0 ≤ p) (h1 : p < P) (he : 1 ≤ e) (h4 : e ≤ 4096) (hy : 0 ≤ y) (h2 : y < e) : 0 ≤ p * e ∧ 0 ≤ p * e + y ∧ p * e + y < P * e ∧ p * e + y < P * 4096 := by
  have a := Int.mul_nonneg h0 (show 0 ≤ e by omega)
  have b : (p + 1) * e ≤ P * e := Int.mul_le_mul_of_nonneg_right (by omega) (by omega)
  have c : P * e ≤ P * 4096 := Int.mul_le_mul_of_nonneg_left h4 (by omega)
  rw [Int.add_mul, Int.one_mul] at b
  omega
theorem pow_next (k : Nat) : (4096 : Int) ^ (k + 1) = 4096 ^ k * 4096 := by rw [Int.pow_succ]
theorem rmZ_bound {lo hi xs : Nat → Int} {n : Nat} (hb : extB lo hi n) (hx : inB lo hi xs n) : ∀ k, k ≤ n → 0 ≤ rmZ lo hi xs k ∧ rmZ lo hi xs k < 4096 ^ k
  | 0, _ => by show (0 : Int) ≤ 0 ∧ (0 : Int) < 4096 ^ 0; decide
  | k + 1, hk => by
    have ih := rmZ_bound hb hx k (by omega)
    have h1 := hb k (by omega)
    have h2 := hx k (by omega)
    have h3 := num_next ih.1 ih.2 (e := hi k - lo k + 1) (y := xs k - lo k) (by omega) (by omega) (by omega) (by omega)
    rw [rmZ, pow_next]
    exact ⟨h3.2.1, h3.2.2.2⟩
theorem quo_small {y e t : Int} (h0 : 0 ≤ y) (h1 : y < e) (ht : 1 ≤ t) : 0 ≤ y / t ∧ y / t < e := by
  refine ⟨Int.ediv_nonneg h0 (by omega), Int.lt_of_le_of_lt ?_ h1⟩
  exact Int.ediv_le_self _ h0
theorem tlZ_bound {lo hi xs : Nat → Int} {tile : Int} {n : Nat} (hb : extB lo hi n) (hx : inB lo hi xs n) (ht : 1 ≤ tile) : ∀ k, k ≤ n → 0 ≤ tlZ lo hi xs tile k ∧ tlZ lo hi xs tile k < 4096 ^ k
  | 0, _ => by show (0 : Int) ≤ 0 ∧ (0 : Int) < 4096 ^ 0; decide
  | k + 1, hk => by
    have ih := tlZ_bound hb hx ht k (by omega)
    have h1 := hb k (by omega)
    have h2 := hx k (by omega)
    have h4 := quo_small (y := xs k - lo k) (e := hi k - lo k + 1) (t := tile) (by omega) (by omega) ht
    have h3 := num_next ih.1 ih.2 (e := hi k - lo k + 1) (y := (xs k - lo k) / tile) (by omega) (by omega) h4.1 h4.2
    rw [tlZ, pow_next]
    exact ⟨h3.2.1, h3.2.2.2⟩
theorem pow4 {k : Nat} (h : k ≤ 4) : (4096 : Int) ^ k ≤ 281474976710656 := by
  rcases (by omega : k = 0 ∨ k = 1 ∨ k = 2 ∨ k = 3 ∨ k = 4) with rfl | rfl | rfl | rfl | rfl <;> decide
theorem key_wrap {p x l I : Int} (h : I = p + (x - l)) (h0 : 0 ≤ p) (h1 : p ≤ 1152921504606846976) (h3 : -1073741824 ≤ l) (h5 : l ≤ x) (h6 : x ≤ 1073741824) : IntKind.i64.wrap (IntKind.i64.wrap (IntKind.i64.wrap p + x) - l) = I := by
  rw [w64 (n := p) (by omega) (by omega), w64 (n := p + x) (by omega) (by omega), w64 (by omega) (by omega)]
  omega
set_option maxRecDepth 100000 in
set_option maxHeartbeats 4000000 in
theorem s_rowMajor (w : World) (L H X : Option Addr) (n cl ch cx : Nat) (tile wd : Int) (lo hi xs : Nat → Int) (hl : IntsAt w L n lo) (hh : IntsAt w H n hi) (hx : IntsAt w X n xs) (hn : n ≤ 4) (hb : extB lo hi n) (hi2 : inB lo hi xs n) :
    Calls Tryz.prog 45 #[FrmV L n cl H n ch tile wd, .slice X n cx] w fun e w' => e = .returned (.int .i64 (rmZ lo hi xs n)) ∧ Below w.heap.size w w' := by
  have KB := Lib.hid (frm_box w (.slice L n cl) (.slice H n ch) tile wd)
  have HL := Lib.hid hl
  have HX := Lib.hid hx
  have HE : Hid (∀ W k, Below w.heap.size w W → k < n → Calls Tryz.prog 60 #[FrmV L n cl H n ch tile wd, .int .i64 k] W fun e w' => e = .returned (.int .i64 (hi k - lo k + 1)) ∧ Below W.heap.size W w') := fun W k hW hk => s_fextent W L H n cl ch tile wd lo hi k (hl.below hW) (hh.below hW) hk hb
  have HN : Hid (∀ k, k ≤ n → 0 ≤ rmZ lo hi xs k ∧ rmZ lo hi xs k < 4096 ^ k) := rmZ_bound hb hi2
  have HB : Hid (extB lo hi n ∧ inB lo hi xs n) := ⟨hb, hi2⟩
  have HW0 : Hid (Below w.heap.size w (w.alloc (.cells #[.slice L n cl, .slice H n ch, .int .i64 tile, .int .i64 wd] 101))) := (Below.refl _ _).alloc (Nat.le_refl _) _
  have hz0 : (w.alloc (.cells #[.slice L n cl, .slice H n ch, .int .i64 tile, .int .i64 wd] 101)).heap.size = w.heap.size + 1 := by simp
  clear hl hh hx hb hi2
  go_enter Tryz.func45, Tryz.ntmps45
  go_wp2
  rw [hz0] at KB
  generalize w.alloc (.cells #[.slice L n cl, .slice H n ch, .int .i64 tile, .int .i64 wd] 101) = W0 at *
  have HBA : Hid (∀ W, Below (w.heap.size + 1) W0 W → Below w.heap.size w W) := fun W hW => HW0.out.trans (hW.mono (by omega))
  go_loopw [5, 6, 7, 10] (fun v _ _ i wr => ∃ k : Nat, k ≤ n ∧ i = .int .i64 k ∧ v = .int .i64 (rmZ lo hi xs k) ∧ Hid (Below (w.heap.size + 1) W0 wr)) (fun _ _ _ i _ => n - (intOf i).toNat)
  case atStart => exact ⟨0, Nat.zero_le _, rfl, rfl, (Below.refl _ _)⟩
  case round =>
    obtain ⟨k, hk, rfl, rfl, HBr⟩ := hrel
    have HBw := Lib.hid (HBA.out wr HBr.out)
    by_cases hlt : k < n
    · obtain ⟨bl, ol, rfl, hbl, hcl⟩ := (HL.out.below HBw.out) (by omega)
      obtain ⟨bx, ox, rfl, hbx, hcx⟩ := (HX.out.below HBw.out) (by omega)
      have x0 := hcx k hlt
      have HKq : Hid (∀ W, Below wr.heap.size wr W → (W.cell? ⟨w.heap.size, 0, none⟩ = some (.slice (some ⟨bl, ol, none⟩) n cl) ∧ W.cell? ⟨w.heap.size, 1, none⟩ = some (.slice H n ch) ∧ W.cell? ⟨w.heap.size, 2, none⟩ = some (.int .i64 tile) ∧ W.cell? ⟨w.heap.size, 3, none⟩ = some (.int .i64 wd)) ∧ W.cell? ⟨bl, ol + k, none⟩ = some (.int .i64 (lo k))) := fun W hW =>
        ⟨KB.out W (HBr.out.trans (hW.mono (by have := HBr.out.size; omega))), (hW.cell (p := ⟨bl, ol + k, none⟩) hbl).trans (hcl k hlt)⟩
      have HEk : Hid (∀ W, Below wr.heap.size wr W → Calls Tryz.prog 60 #[FrmV (some ⟨bl, ol, none⟩) n cl H n ch tile wd, .int .i64 k] W fun e w' => e = .returned (.int .i64 (hi k - lo k + 1)) ∧ Below W.heap.size W w') := fun W hW => HE.out W k (st HBw.out hW) hlt
      have HS : Hid (rmZ lo hi xs (k + 1) = rmZ lo hi xs k * (hi k - lo k + 1) + (xs k - lo k)) := rfl
      have HN1 := Lib.hid (HN.out (k + 1) (by omega))
      have HN0 := Lib.hid (HN.out k (by omega))
      have HP := Lib.hid (pow4 (k := k) (by omega))
      have HQ := Lib.hid (And.intro (HB.out.1 k hlt) (HB.out.2 k hlt))
      have HPB : Hid (0 ≤ rmZ lo hi xs k * (hi k - lo k + 1) ∧ rmZ lo hi xs k * (hi k - lo k + 1) ≤ 1152921504606846976) := by
        have a := num_next HN0.out.1 HN0.out.2 (e := hi k - lo k + 1) (y := 0) (by have := HQ.out; omega) (by have := HQ.out; omega) (by omega) (by have := HQ.out; omega)
        have := HP.out
        exact ⟨a.1, by have := a.2.2.2; omega⟩
      have hbnd : -9223372036854775808 ≤ hi k - lo k + 1 ∧ hi k - lo k + 1 ≤ 9223372036854775807 := by have := HQ.out; omega
      clear hcl hcx hbx HN1 HN0 HP
      have B0d : Below wr.heap.size wr wr.drew := Below.drew (Below.refl _ _)
      obtain ⟨I', hI⟩ : ∃ I', rmZ lo hi xs (k + 1) = I' := ⟨_, rfl⟩
      have HI2 := Lib.hid hI
      rw [hI] at HS
      clear hI
      generalize rmZ lo hi xs k = I at *
      generalize hi k - lo k + 1 = E at *
      obtain ⟨⟨m0, m1, m2, m3⟩, y0⟩ := HKq.out wr (Below.refl _ _)
      generalize xs k = z at *
      generalize lo k = l0 at *
      go_wp2_with fail
      go_region_held3 (fun W => (W.cell? ⟨w.heap.size, 0, none⟩ = some (.slice (some ⟨bl, ol, none⟩) n cl) ∧ W.cell? ⟨w.heap.size, 1, none⟩ = some (.slice H n ch) ∧ W.cell? ⟨w.heap.size, 2, none⟩ = some (.int .i64 tile) ∧ W.cell? ⟨w.heap.size, 3, none⟩ = some (.int .i64 wd)) ∧ W.cell? ⟨bl, ol + k, none⟩ = some (.int .i64 l0))
        (first | exact HKq.out _ B1 | exact HKq.out _ B0d | exact HKq.out _ (Below.refl _ _))
        (first
          | (go_at_call 60; refine (HEk.out _ B0d).mono ?_; rintro e w3 ⟨rfl, hb3⟩; have B1 : Below wr.heap.size wr w3 := st B0d hb3))
      all_goals
        go_wp2
        go_roundw
        case rel => exact ⟨k + 1, by omega, by go_num, (by rw [HI2.out]; have := HPB.out; have := HQ.out; exact congrArg _ (key_wrap HS.out (by omega) (by omega) (by omega) (by omega) (by omega))), HBr.out.trans (B1.mono (by have := HBr.out.size; omega))⟩
        case measure => simp [intOf]; omega
    · obtain rfl : k = n := by omega
      go_wp2
      go_ret
      exact ⟨rfl, HBw.out⟩
/-- The tiled order's key. -/
theorem ord_tile {tile : Int} (h : ordB 3 tile = true) : 1 ≤ tile ∧ tile ≤ 64 := by
  unfold ordB at h
  simpa using h
/-- The keys of the t-th coordinates. -/
def rmK (n : Nat) (lo hi : Nat → Int) (e : Nat → Nat) (t : Nat) : Int := rmZ lo hi (fun k => crdZ lo e n t k) n
def tlK (n : Nat) (lo hi : Nat → Int) (tile : Int) (e : Nat → Nat) (t : Nat) : Int := tlZ lo hi (fun k => crdZ lo e n t k) tile n * 4096 + rmZ lo hi (fun k => crdZ lo e n t k) n
end Go.Proofs.YthddlbngjhkhhaaGreatDoor
end

/- Numbers of coordinates: volumes, widths, and that the keys of an order differ. -/
section
namespace Go.Proofs.YthddlbngjhkhhaaGreatDoor
open Go Go.RowKit Go.Deep Go.Shelf

theorem volO_volC {lo hi : Nat → Int} {e : Nat → Nat} {n : Nat} (he : ∀ k, k < n → 1 ≤ e k ∧ hi k = lo k + e k - 1) : ∀ k, k ≤ n → volO lo hi k * volC e n k = volC e n 0
  | 0, _ => by show 1 * _ = _; rw [Nat.one_mul]
  | k + 1, hk => by
    have ih := volO_volC he k (by omega)
    have h1 := he k (by omega)
    have h2 : (hi k - lo k + 1).toNat = e k := by omega
    rw [volC_step (k := k) (by omega)] at ih
    show volO lo hi k * (hi k - lo k + 1).toNat * _ = _
    rw [h2, Nat.mul_assoc]
    exact ih
theorem volO_all {lo hi : Nat → Int} {e : Nat → Nat} {n : Nat} (he : ∀ k, k < n → 1 ≤ e k ∧ hi k = lo k + e k - 1) : volO lo hi n = volC e n 0 := by
  have := volO_volC he n (Nat.le_refl _)
  rwa [volC_end, Nat.mul_one] at this
theorem bit_len_lt {x : Nat} (h : x < 2 ^ 64) : x < 2 ^ Lib.bitLen x := by
  by_cases h0 : x = 0
  · subst h0; exact Nat.two_pow_pos _
  · exact (Lib.bitLenAux_bounds 64 x h h0).2.2
theorem wd_ge {lo hi : Nat → Int} : ∀ {n k : Nat}, k < n → Lib.bitLen (hi k - lo k).toNat ≤ wdTo lo hi n
  | 0, _, h => absurd h (Nat.not_lt_zero _)
  | n + 1, k, h => by
    rw [wdTo]
    by_cases e : k = n
    · subst e; exact Nat.le_max_right _ _
    · exact Nat.le_trans (wd_ge (show k < n by omega)) (Nat.le_max_left _ _)
theorem wd_le {lo hi : Nat → Int} {b : Nat} (hb : b ≤ 64) : ∀ {n : Nat}, (∀ k, k < n → (hi k - lo k).toNat < 2 ^ b) → wdTo lo hi n ≤ b
  | 0, _ => Nat.zero_le _
  | n + 1, h => by
    rw [wdTo]
    exact Nat.max_le.2 ⟨wd_le hb fun k hk => h k (by omega), Lib.bitLen_le _ _ hb (h n (Nat.lt_succ_self n))⟩
theorem crd_dig {lo : Nat → Int} {e : Nat → Nat} {n t k : Nat} : (crdZ lo e n t k - lo k).toNat = digC e n t k := by unfold crdZ; omega
/-- The row-major key is the number itself. -/
theorem rm_num {lo hi : Nat → Int} {e : Nat → Nat} {n t : Nat} (he : ∀ k, k < n → 1 ≤ e k ∧ hi k = lo k + e k - 1) (ht : t < volC e n 0) : ∀ k, k ≤ n → rmZ lo hi (fun k => crdZ lo e n t k) k = (t / volC e n k : Nat)
  | 0, _ => by rw [Nat.div_eq_of_lt ht]; rfl
  | k + 1, hk => by
    have ih := rm_num he ht k (by omega)
    obtain ⟨h1, h2⟩ := he k (by omega)
    have hv := volC_step (e := e) (n := n) (k := k) (by omega)
    have hd : crdZ lo e n t k - lo k = (t / volC e n (k + 1) % e k : Nat) := by unfold crdZ digC; omega
    have hdm : e k * (t / volC e n (k + 1) / e k) + t / volC e n (k + 1) % e k = t / volC e n (k + 1) := Nat.div_add_mod _ _
    rw [rmZ, ih, hd, show hi k - lo k + 1 = (e k : Int) by omega, hv, Nat.mul_comm (e k), ← Nat.div_div_eq_div_mul]
    rw [← Int.natCast_mul, ← Int.natCast_add, Nat.mul_comm]
    exact congrArg _ hdm
theorem rmK_num {lo hi : Nat → Int} {e : Nat → Nat} {n t : Nat} (he : ∀ k, k < n → 1 ≤ e k ∧ hi k = lo k + e k - 1) (ht : t < volC e n 0) : rmK n lo hi e t = t := by
  unfold rmK
  rw [rm_num he ht n (Nat.le_refl _), volC_end, Nat.div_one]
theorem rmK_inj {lo hi : Nat → Int} {e : Nat → Nat} {n : Nat} (he : ∀ k, k < n → 1 ≤ e k ∧ hi k = lo k + e k - 1) : ∀ s t, s < volC e n 0 → t < volC e n 0 → rmK n lo hi e s = rmK n lo hi e t → s = t := fun s t hs ht h => by
  rw [rmK_num he hs, rmK_num he ht] at h
  omega
theorem tlK_inj {lo hi : Nat → Int} {tile : Int} {e : Nat → Nat} {n : Nat} (he : ∀ k, k < n → 1 ≤ e k ∧ hi k = lo k + e k - 1) (hv : volC e n 0 ≤ 4096) : ∀ s t, s < volC e n 0 → t < volC e n 0 → tlK n lo hi tile e s = tlK n lo hi tile e t → s = t := fun s t hs ht h => by
  have h1 := rmK_num he hs
  have h2 := rmK_num he ht
  unfold rmK at h1 h2
  unfold tlK at h
  rw [h1, h2] at h
  omega
theorem dig_inj {e : Nat → Nat} {n s t : Nat} (hs : s < volC e n 0) (ht : t < volC e n 0) (h : ∀ k, k < n → digC e n s k = digC e n t k) : s = t := by
  have key : ∀ k, k ≤ n → s / volC e n k = t / volC e n k := by
    intro k
    induction k with
    | zero => intro _; rw [Nat.div_eq_of_lt hs, Nat.div_eq_of_lt ht]
    | succ k ih =>
      intro hk
      have h1 := ih (by omega)
      have h2 := h k (by omega)
      unfold digC at h2
      rw [volC_step (k := k) (by omega), Nat.mul_comm, ← Nat.div_div_eq_div_mul, ← Nat.div_div_eq_div_mul] at h1
      rw [← Nat.div_add_mod (s / volC e n (k + 1)) (e k), ← Nat.div_add_mod (t / volC e n (k + 1)) (e k), h1, h2]
  have := key n (Nat.le_refl _)
  rwa [volC_end, Nat.div_one, Nat.div_one] at this
theorem hilK_inj {lo hi : Nat → Int} {e : Nat → Nat} {n : Nat} (hn : 1 ≤ n) (he : ∀ k, k < n → 1 ≤ e k ∧ hi k = lo k + e k - 1 ∧ e k ≤ 4096) : ∀ s t, s < volC e n 0 → t < volC e n 0 → hilK n (wdTo lo hi n) lo e s = hilK n (wdTo lo hi n) lo e t → s = t := fun s t hs ht h => by
  have hl : ∀ t, LtN n (wdTo lo hi n) (fun k => if k < n then (crdZ lo e n t k - lo k).toNat else 0) := fun t k hk => by
    show (if k < n then _ else 0) < _
    rw [if_pos hk, crd_dig]
    have h1 := he k hk
    have h2 := digC_lt (t := t) (fun k hk => (he k hk).1) hk
    have h3 : (hi k - lo k).toNat < 2 ^ Lib.bitLen (hi k - lo k).toNat := bit_len_lt (Nat.lt_of_le_of_lt (show _ ≤ 4096 by omega) (by decide))
    have h4 := Nat.pow_le_pow_right (n := 2) (by decide) (wd_ge (lo := lo) (hi := hi) hk)
    omega
  unfold hilK at h
  have ha := hilN_inj hn (hl s) (hl t) (by exact_mod_cast h)
  refine dig_inj hs ht fun k hk => ?_
  have := ha k hk
  simp only [if_pos hk, crd_dig] at this
  exact this
end Go.Proofs.YthddlbngjhkhhaaGreatDoor
end

/- How many numbers are asked for, and which. -/
section
namespace Go.Proofs.YthddlbngjhkhhaaGreatDoor

/-- How many numbers below k are asked for, and the one at a place. -/
def cntTo (p : Nat → Bool) (k : Nat) : Nat := ((List.range k).filter p).length
def pickI (p : Nat → Bool) (N j : Nat) : Nat := ((List.range N).filter p).getD j 0
theorem filt_succ (p : Nat → Bool) (k : Nat) : (List.range (k + 1)).filter p = (List.range k).filter p ++ (if p k = true then [k] else []) := by
  rw [List.range_succ, List.filter_append]
  cases h : p k <;> simp [h]
theorem cntTo_yes {p : Nat → Bool} {k : Nat} (h : p k = true) : cntTo p (k + 1) = cntTo p k + 1 := by simp [cntTo, filt_succ, h]
theorem cntTo_no {p : Nat → Bool} {k : Nat} (h : p k = false) : cntTo p (k + 1) = cntTo p k := by simp [cntTo, filt_succ, h]
theorem cntTo_le (p : Nat → Bool) (k : Nat) : cntTo p k ≤ k := by
  have := List.length_filter_le p (List.range k)
  simpa [cntTo] using this
theorem cntTo_mono (p : Nat → Bool) {k m : Nat} (h : k ≤ m) : cntTo p k ≤ cntTo p m := by
  induction m with
  | zero => obtain rfl : k = 0 := by omega
            exact Nat.le_refl _
  | succ m ih =>
    by_cases e : k = m + 1
    · rw [e]; exact Nat.le_refl _
    · refine Nat.le_trans (ih (by omega)) ?_
      cases h : p m
      · rw [cntTo_no h]; exact Nat.le_refl _
      · rw [cntTo_yes h]; exact Nat.le_succ _
theorem pickI_at {p : Nat → Bool} {N k : Nat} (hk : k < N) (hp : p k = true) : pickI p N (cntTo p k) = k := by
  induction N with
  | zero => omega
  | succ N ih =>
    unfold pickI
    rw [filt_succ]
    by_cases e : k = N
    · subst e
      simp [hp, cntTo, List.getD_eq_getElem?_getD]
    · have h1 : cntTo p k < cntTo p N := by
        have := cntTo_mono p (show k + 1 ≤ N by omega)
        rw [cntTo_yes hp] at this
        omega
      have h2 := ih (by omega)
      unfold pickI at h2
      rw [List.getD_eq_getElem?_getD] at h2 ⊢
      rw [List.getElem?_append_left (show cntTo p k < ((List.range N).filter p).length from h1)]
      exact h2
theorem pickI_mem {p : Nat → Bool} {N j : Nat} (hj : j < cntTo p N) : pickI p N j < N ∧ p (pickI p N j) = true := by
  have h : pickI p N j ∈ (List.range N).filter p := by
    unfold pickI
    rw [List.getD_eq_getElem?_getD, List.getElem?_eq_getElem (show j < ((List.range N).filter p).length from hj)]
    exact List.getElem_mem _
  rw [List.mem_filter, List.mem_range] at h
  exact h
end Go.Proofs.YthddlbngjhkhhaaGreatDoor
end

/- The sorted pairs: each of them once, in the order of their keys. -/
section
namespace Go.Proofs.YthddlbngjhkhhaaGreatDoor
open Go Go.RowKit Go.Deep Go.Shelf Go.Lib Go.Sort

theorem pair_facts (ky : Nat → Int) (N : Nat) : (pairR ky N).size = N ∧ (pairR ky N).toList.Perm (pairD ky N).toList ∧ ∀ i j, i < j → j < N → ((pairR ky N)[i]!).1 ≤ ((pairR ky N)[j]!).1 := by
  have hds : (pairD ky N).size = N := by simp [pairD]
  obtain ⟨⟨h1, _, h3⟩, h4⟩ := pdq_sorts (ltOf fun x y : Int × Nat => Lib.compareInt x.1 y.1) swo_key (pairD ky N) 0 N (Lib.bitLen N) true true (Nat.zero_le _) (by rw [hds]; exact Nat.le_refl _) (Or.inl rfl)
  have hs : (pairR ky N).size = N := h1.trans hds
  refine ⟨hs, ?_, fun i j hij hj => ?_⟩
  · have e1 : (pdq (ltOf fun x y : Int × Nat => Lib.compareInt x.1 y.1) (pairD ky N) 0 N (Lib.bitLen N) true true).extract 0 N = pairR ky N := by
      have : (pairR ky N).extract 0 N = pairR ky N := by
        conv => lhs; rw [← hs]
        rw [hs]
        simp [hs]
      exact this
    have e2 : (pairD ky N).extract 0 N = pairD ky N := by simp [hds]
    rw [e1, e2] at h3
    exact h3
  · have h := h4 i j (Nat.zero_le _) hij hj
    rw [lt_key] at h
    have := of_decide_eq_false h
    exact Int.not_lt.1 this
theorem pairD_list (ky : Nat → Int) (N : Nat) : (pairD ky N).toList = (List.range N).map fun t => (ky t, t) := by simp [pairD]
theorem pair_get {ky : Nat → Int} {N j : Nat} (hj : j < (pairR ky N).toList.length) : (pairR ky N).toList[j] = (pairR ky N)[j]! := by
  simp at hj
  simp [hj]
/-- As many keys are less than that of the i-th pair as pairs stand ahead of it. -/
theorem rank_at {ky : Nat → Int} {N : Nat} (hinj : ∀ s t, s < N → t < N → ky s = ky t → s = t) {i : Nat} (hi : i < N) : cntTo (fun t => decide (ky t < ky ((pairR ky N)[i]!).2)) N = i := by
  obtain ⟨hs, hp, hle⟩ := pair_facts ky N
  have hlen : (pairR ky N).toList.length = N := by simpa using hs
  have hk : ∀ j, j < N → ((pairR ky N)[j]!).1 = ky ((pairR ky N)[j]!).2 ∧ ((pairR ky N)[j]!).2 < N := fun j hj => by
    obtain ⟨t, ht, e⟩ := pairR_of ky N j hj
    rw [e]; exact ⟨rfl, ht⟩
  have hnd : (pairR ky N).toList.Nodup := by
    refine hp.nodup_iff.2 ?_
    rw [pairD_list]
    refine List.Pairwise.map _ (fun a b h e => h ?_) (List.nodup_range (n := N))
    exact congrArg Prod.snd e
  have hne : ∀ a b, a < b → b < N → ((pairR ky N)[a]!).1 ≠ ((pairR ky N)[b]!).1 := fun a b hab hb e => by
    rw [(hk a (by omega)).1, (hk b hb).1] at e
    have e2 := hinj _ _ (hk a (by omega)).2 (hk b hb).2 e
    have e3 : (pairR ky N)[a]! = (pairR ky N)[b]! := Prod.ext (by rw [(hk a (by omega)).1, (hk b hb).1, e2]) e2
    have := List.pairwise_iff_getElem.1 hnd a b (by omega) (by omega) hab
    rw [pair_get, pair_get] at this
    exact this e3
  have hlt : ∀ a b, a < b → b < N → ((pairR ky N)[a]!).1 < ((pairR ky N)[b]!).1 := fun a b hab hb => by
    have h1 := hle a b hab hb
    have h2 := hne a b hab hb
    omega
  have own := (hk i hi).1
  have hc : cntTo (fun t => decide (ky t < ky ((pairR ky N)[i]!).2)) N = (pairR ky N).toList.countP fun x => decide (x.1 < ((pairR ky N)[i]!).1) := by
    rw [hp.countP_eq, pairD_list, List.countP_map, List.countP_eq_length_filter, own]
    rfl
  rw [hc]
  have hsplit : (pairR ky N).toList = (pairR ky N).toList.take i ++ (pairR ky N).toList.drop i := (List.take_append_drop _ _).symm
  rw [hsplit, List.countP_append]
  have h1 : ((pairR ky N).toList.take i).countP (fun x => decide (x.1 < ((pairR ky N)[i]!).1)) = i := by
    have : ((pairR ky N).toList.take i).countP (fun x => decide (x.1 < ((pairR ky N)[i]!).1)) = ((pairR ky N).toList.take i).length := by
      rw [List.countP_eq_length]
      intro x hx
      obtain ⟨j, hj, rfl⟩ := List.getElem_of_mem hx
      rw [List.getElem_take]
      rw [List.length_take] at hj
      rw [pair_get]
      exact decide_eq_true (hlt j i (by omega) hi)
    rw [this, List.length_take]
    omega
  have h2 : ((pairR ky N).toList.drop i).countP (fun x => decide (x.1 < ((pairR ky N)[i]!).1)) = 0 := by
    rw [List.countP_eq_zero]
    intro x hx
    obtain ⟨j, hj, rfl⟩ := List.getElem_of_mem hx
    rw [List.getElem_drop, pair_get]
    rw [List.length_drop] at hj
    simp only [decide_eq_true_eq]
    by_cases e : j = 0
    · subst e; simp
    · have := hlt i (i + j) (by omega) (by omega)
      omega
  rw [h1, h2, Nat.add_zero]
end Go.Proofs.YthddlbngjhkhhaaGreatDoor
end

/- From the row's condition to the walk: a layout. -/
import Derived.Test.YtogmbehomilalaaGreatDoorZOpB
import Derived.Test.YtogmbehomilalaaGreatDoorZChB
import Derived.Test.YtogmbehomilalaaGreatDoorZSeq
import Derived.Test.YtogmbehomilalaaGreatDoorZCmpS
import Derived.Test.YtogmbehomilalaaGreatDoorZInl
import Derived.Test.YtogmbehomilalaaGreatDoorZRangeOwn
import Derived.Test.YtogmbehomilalaaGreatDoorZSpH
import Derived.Test.YtogmbehomilalaaGreatDoorZBldK
import Derived.Maps.AppendAt
import Derived.Test.YtogmbehomilalaaGreatDoorZSpE
import Derived.Test.YtogmbehomilalaaGreatDoorZSch
import Derived.Test.YtogmbehomilalaaGreatDoorZMathT

/- From the row's condition to the walk: a layout. -/
section
namespace Go.Proofs.YtogmbehomilalaaGreatDoor
open Go Go.ChangeShapes Go.WideShapes Go.ChangeAt Go.RowKit

theorem lay_fields : ∃ f0 f1 f2 f3 f4 f5 : Field, Tryz.prog.underlying 43 = some (.struct #[f0, f1, f2, f3, f4, f5]) ∧ (f0.type = 35 ∧ f0.offset = 0) ∧ (f1.type = 35 ∧ f1.offset = 1) ∧ (f2.type = 3 ∧ f2.offset = 2) ∧ (f3.type = 3 ∧ f3.offset = 3) ∧ (f4.type = 3 ∧ f4.offset = 4) ∧ (f5.type = 3 ∧ f5.offset = 5) :=
  ⟨_, _, _, _, _, _, Tryz.underlying43, ⟨rfl, rfl⟩, ⟨rfl, rfl⟩, ⟨rfl, rfl⟩, ⟨rfl, rfl⟩, ⟨rfl, rfl⟩, ⟨rfl, rfl⟩⟩
section
variable {H : Type} {enc : TypeId × Value → H} {w : World} {base : Nat} {spare : Nat → Bool} {held : Bool}
set_option maxRecDepth 100000 in
theorem open_layA {r : Reach} {b0 : Nat} {v : Value} {dt : DataW H} {ps : List MemPlace} (hval : Value.okWide Tryz.prog w r b0 43 v) (hd : DataW.Trod enc Tryz.prog w base spare held 43 v dt ps) :
    ∃ (S O : Option Addr) (s sc o oc : Nat) (sd ov : Nat → Int) (ord tile form codec : Int), v = LayV S s sc O o oc ord tile form codec ∧ IntsAt w S s sd ∧ IntsAt w O o ov := by
  obtain ⟨f0, f1, f2, f3, f4, f5, hu, ⟨t0, o0⟩, ⟨t1, o1⟩, ⟨t2, o2⟩, ⟨t3, o3⟩, ⟨t4, o4⟩, ⟨t5, o5⟩⟩ := lay_fields
  obtain ⟨cs, rfl, hsz⟩ := okWide_struct hu hval
  have c2 : Tryz.prog.cellsOf 43 = 6 := by kernel_rfl
  have cl : Tryz.prog.cellsOf 35 = 1 := by kernel_rfl
  have ci : Tryz.prog.cellsOf 3 = 1 := by kernel_rfl
  rw [c2] at hsz
  obtain ⟨fuel, hf⟩ := hd
  obtain ⟨l⟩ := cs
  match l, hsz with
  | [c0, c1, c2, c3, c4, c5], _ =>
    have hf' : DataW.trod enc Tryz.prog w base spare held fuel 43 [c0, c1, c2, c3, c4, c5] = some (dt, ps) := hf
    obtain ⟨xs, n, _, _, _, hlen, hfl⟩ := DataW.trod_struct hu hf'
    have l0 : 0 < xs.length := by rw [hlen]; simp
    have l1 : 1 < xs.length := by rw [hlen]; simp
    have l2 : 2 < xs.length := by rw [hlen]; simp
    have l3 : 3 < xs.length := by rw [hlen]; simp
    have l4 : 4 < xs.length := by rw [hlen]; simp
    have l5 : 5 < xs.length := by rw [hlen]; simp
    have q0 := hfl 0 f0 rfl
    have q1 := hfl 1 f1 rfl
    have q2 := hfl 2 f2 rfl
    have q3 := hfl 3 f3 rfl
    have q4 := hfl 4 f4 rfl
    have q5 := hfl 5 f5 rfl
    rw [t0, o0, cl, List.getElem?_eq_getElem l0] at q0
    rw [t1, o1, cl, List.getElem?_eq_getElem l1] at q1
    rw [t2, o2, ci, List.getElem?_eq_getElem l2] at q2
    rw [t3, o3, ci, List.getElem?_eq_getElem l3] at q3
    rw [t4, o4, ci, List.getElem?_eq_getElem l4] at q4
    rw [t5, o5, ci, List.getElem?_eq_getElem l5] at q5
    have q0' : DataW.trod enc Tryz.prog w base spare held n 35 [c0] = some xs[0] := by simpa using q0
    have q1' : DataW.trod enc Tryz.prog w base spare held n 35 [c1] = some xs[1] := by simpa using q1
    obtain ⟨A, n0, k0, x0, rfl, i0, _⟩ := open_ints1 q0'
    obtain ⟨B, n1, k1, x1, rfl, i1, _⟩ := open_ints1 q1'
    obtain ⟨z2, e2, _, _⟩ := DataW.trod_int Tryz.underlying3 q2
    obtain ⟨z3, e3, _, _⟩ := DataW.trod_int Tryz.underlying3 q3
    obtain ⟨z4, e4, _, _⟩ := DataW.trod_int Tryz.underlying3 q4
    obtain ⟨z5, e5, _, _⟩ := DataW.trod_int Tryz.underlying3 q5
    obtain rfl : c2 = .int .i64 z2 := by simpa using e2
    obtain rfl : c3 = .int .i64 z3 := by simpa using e3
    obtain rfl : c4 = .int .i64 z4 := by simpa using e4
    obtain rfl : c5 = .int .i64 z5 := by simpa using e5
    exact ⟨A, B, n0, k0, n1, k1, x0, x1, z2, z3, z4, z5, rfl, i0, i1⟩
end
end Go.Proofs.YtogmbehomilalaaGreatDoor
end

/- From the row's condition to the walk: a box, and how large its integers are. -/
section
namespace Go.Proofs.YtogmbehomilalaaGreatDoor
open Go Go.ChangeShapes Go.WideShapes Go.ChangeAt Go.RowKit

section
variable {H : Type} {enc : TypeId × Value → H} {w : World} {base : Nat} {spare : Nat → Bool} {held : Bool}
theorem open_ints1b {fuel : Nat} {c0 : Value} {x : DataW H × List MemPlace} (h : DataW.trod enc Tryz.prog w base spare held fuel 35 [c0] = some x) :
    ∃ (A : Option Addr) (n cap : Nat) (xs : Nat → Int), c0 = .slice A n cap ∧ IntsAt w A n xs ∧ ∀ k, k < n → -9223372036854775808 ≤ xs k ∧ xs k ≤ 9223372036854775807 := by
  have h' := h
  have c1 : Tryz.prog.cellsOf 3 = 1 := by kernel_rfl
  rcases open_ints Tryz.underlying35 Tryz.underlying3 c1 h with ⟨hcs, _⟩ | ⟨a, len, cap', zs, hcs, _⟩
  · obtain rfl : c0 = .slice none 0 0 := by simpa using hcs
    obtain ⟨xs, h1, _, h2⟩ := open_intsAt h'
    exact ⟨_, _, _, xs, rfl, h1, h2⟩
  · obtain rfl : c0 = .slice (some a) len cap' := by simpa using hcs
    obtain ⟨xs, h1, _, h2⟩ := open_intsAt h'
    exact ⟨_, _, _, xs, rfl, h1, h2⟩
set_option maxRecDepth 100000 in
theorem open_boxB {r : Reach} {b0 : Nat} {v : Value} {dt : DataW H} {ps : List MemPlace} (hval : Value.okWide Tryz.prog w r b0 45 v) (hd : DataW.Trod enc Tryz.prog w base spare held 45 v dt ps) :
    ∃ (A B : Option Addr) (n c m d : Nat) (l h : Nat → Int), v = BoxW A B n c m d ∧ IntsAt w A n l ∧ IntsAt w B m h ∧ (∀ k, k < n → -9223372036854775808 ≤ l k ∧ l k ≤ 9223372036854775807) ∧ ∀ k, k < m → -9223372036854775808 ≤ h k ∧ h k ≤ 9223372036854775807 := by
  obtain ⟨f0, f1, hu, t0, o0, t1, o1⟩ := box_fields
  obtain ⟨cs, rfl, hsz⟩ := okWide_struct hu hval
  have c2 : Tryz.prog.cellsOf 45 = 2 := by kernel_rfl
  have ci : Tryz.prog.cellsOf 35 = 1 := by kernel_rfl
  rw [c2] at hsz
  obtain ⟨fuel, hf⟩ := hd
  obtain ⟨l⟩ := cs
  match l, hsz with
  | [c0, c1], _ =>
    have hf' : DataW.trod enc Tryz.prog w base spare held fuel 45 [c0, c1] = some (dt, ps) := hf
    obtain ⟨xs, n, _, _, _, hlen, hfl⟩ := DataW.trod_struct hu hf'
    have l0 : 0 < xs.length := by rw [hlen]; simp
    have l1 : 1 < xs.length := by rw [hlen]; simp
    have q0 := hfl 0 f0 rfl
    have q1 := hfl 1 f1 rfl
    rw [t0, o0, ci, List.getElem?_eq_getElem l0] at q0
    rw [t1, o1, ci, List.getElem?_eq_getElem l1] at q1
    have q0' : DataW.trod enc Tryz.prog w base spare held n 35 [c0] = some xs[0] := by simpa using q0
    have q1' : DataW.trod enc Tryz.prog w base spare held n 35 [c1] = some xs[1] := by simpa using q1
    obtain ⟨A, n0, k0, x0, rfl, i0, j0⟩ := open_ints1b q0'
    obtain ⟨B, n1, k1, x1, rfl, i1, j1⟩ := open_ints1b q1'
    exact ⟨A, B, n0, k0, n1, k1, x0, x1, rfl, i0, i1, j0, j1⟩
end
end Go.Proofs.YtogmbehomilalaaGreatDoor
end

/- Different coordinates have different Hilbert keys. -/
section
namespace Go.Proofs.YtogmbehomilalaaGreatDoor

theorem bit_test (y q : Nat) : (bitN y q == 1) = y.testBit q := by
  unfold bitN
  rw [Nat.testBit_eq_decide_div_mod_eq]
  by_cases h : y / 2 ^ q % 2 = 1 <;> simp [h]
/-- Two lists of numbers agree at the first n places. -/
def AgN (n : Nat) (Y Z : Nat → Nat) : Prop := ∀ j, j < n → Y j = Z j
theorem low_test (q : Nat) : (2 ^ q - 1).testBit q = false := by rw [Nat.testBit_two_pow_sub_one]; simp
theorem bit_keep {x d q : Nat} (h : d.testBit q = false) : (bitN (x ^^^ d) q == 1) = (bitN x q == 1) := by
  rw [bit_test, bit_test, Nat.testBit_xor, h, Bool.xor_false]
theorem xor_back (x d : Nat) : x ^^^ d ^^^ d = x := by rw [Nat.xor_assoc, Nat.xor_self, Nat.xor_zero]
theorem updN_self (f : Nat → Nat) (k v : Nat) : updN f k v k = v := if_pos rfl
theorem updN_ne (f : Nat → Nat) {k j : Nat} (v : Nat) (h : j ≠ k) : updN f k v j = f j := if_neg h
theorem stepH_yes {q k : Nat} {Y : Nat → Nat} (h : (bitN (Y k) q == 1) = true) : stepH q Y k = updN Y 0 (Y 0 ^^^ (2 ^ q - 1)) := by
  unfold stepH; rw [h]; rfl
theorem stepH_no {q k : Nat} {Y : Nat → Nat} (h : (bitN (Y k) q == 1) = false) (hk : k ≠ 0) : ∀ j, stepH q Y k j = if j = k then Y k ^^^ ((Y 0 ^^^ Y k) &&& (2 ^ q - 1)) else if j = 0 then Y 0 ^^^ ((Y 0 ^^^ Y k) &&& (2 ^ q - 1)) else Y j := by
  intro j
  unfold stepH
  rw [h, cond_false]
  unfold updN
  by_cases e : j = k
  · rw [if_pos e, if_pos e, if_neg hk]
  · rw [if_neg e, if_neg e]
theorem stepH_zero {q : Nat} {Y : Nat → Nat} (h : (bitN (Y 0) q == 1) = false) : ∀ j, stepH q Y 0 j = Y j := by
  intro j
  unfold stepH
  rw [h, cond_false]
  unfold updN
  by_cases e : j = 0
  · rw [if_pos e, if_pos rfl, Nat.xor_self, Nat.zero_and, Nat.xor_zero, Nat.xor_zero, e]
  · rw [if_neg e, if_neg e]
/-- A turn's step undoes itself. -/
theorem stepH_inv (q k : Nat) (Y : Nat → Nat) : ∀ j, stepH q (stepH q Y k) k j = Y j := by
  intro j
  cases h : (bitN (Y k) q == 1)
  · by_cases hk : k = 0
    · subst hk
      have h1 := stepH_zero h
      have h2 : (bitN (stepH q Y 0 0) q == 1) = false := by rw [h1]; exact h
      rw [stepH_zero h2, h1]
    · have h1 := stepH_no h hk
      have hl : ((Y 0 ^^^ Y k) &&& (2 ^ q - 1)).testBit q = false := by rw [Nat.testBit_and, low_test, Bool.and_false]
      have a0 : stepH q Y k 0 = Y 0 ^^^ ((Y 0 ^^^ Y k) &&& (2 ^ q - 1)) := by rw [h1, if_neg (fun e => hk e.symm), if_pos rfl]
      have ak : stepH q Y k k = Y k ^^^ ((Y 0 ^^^ Y k) &&& (2 ^ q - 1)) := by rw [h1, if_pos rfl]
      have h2 : (bitN (stepH q Y k k) q == 1) = false := by rw [ak, bit_keep hl]; exact h
      rw [stepH_no h2 hk, a0, ak]
      have hd : (Y 0 ^^^ ((Y 0 ^^^ Y k) &&& (2 ^ q - 1))) ^^^ (Y k ^^^ ((Y 0 ^^^ Y k) &&& (2 ^ q - 1))) = Y 0 ^^^ Y k := by
        generalize (Y 0 ^^^ Y k) &&& (2 ^ q - 1) = d
        apply Nat.eq_of_testBit_eq
        intro i
        simp only [Nat.testBit_xor]
        cases (Y 0).testBit i <;> cases (Y k).testBit i <;> cases d.testBit i <;> rfl
      rw [hd, xor_back, xor_back]
      by_cases e : j = k
      · rw [if_pos e, e]
      · rw [if_neg e]
        by_cases e0 : j = 0
        · rw [if_pos e0, e0]
        · rw [if_neg e0, h1, if_neg e, if_neg e0]
  · have h1 := stepH_yes h
    have hk : stepH q Y k k = if k = 0 then Y 0 ^^^ (2 ^ q - 1) else Y k := by rw [h1]; rfl
    have h2 : (bitN (stepH q Y k k) q == 1) = true := by
      rw [hk]
      by_cases e : k = 0
      · subst e; rw [if_pos rfl, bit_keep (low_test q)]; exact h
      · rw [if_neg e]; exact h
    rw [stepH_yes h2, h1]
    by_cases e : j = 0
    · subst e; rw [updN_self, updN_self, xor_back]
    · rw [updN_ne _ _ e, updN_ne _ _ e]
theorem stepH_congr {q k n : Nat} {Y Z : Nat → Nat} (hk : k < n) (h : AgN n Y Z) : AgN n (stepH q Y k) (stepH q Z k) := by
  intro j hj
  have h0 := h 0 (by omega)
  have hk' := h k hk
  have hj' := h j hj
  unfold stepH updN
  rw [hk', h0]
  cases (bitN (Z k) q == 1) <;> simp only [cond_true, cond_false] <;> rw [hj']
theorem stepH_inj {q k n : Nat} {Y Z : Nat → Nat} (hk : k < n) (h : AgN n (stepH q Y k) (stepH q Z k)) : AgN n Y Z := fun j hj => by
  rw [← stepH_inv q k Y j, ← stepH_inv q k Z j]
  exact stepH_congr hk h j hj
theorem turnTo_inj {q n : Nat} {Y Z : Nat → Nat} : ∀ k, k ≤ n → AgN n (turnTo q Y k) (turnTo q Z k) → AgN n Y Z
  | 0, _, h => h
  | k + 1, hk, h => turnTo_inj k (by omega) (stepH_inj (by omega) h)
theorem turnsW_inj {n : Nat} : ∀ (q : Nat) {Y Z : Nat → Nat}, AgN n (turnsW n q Y) (turnsW n q Z) → AgN n Y Z
  | 0, _, _, h => h
  | q + 1, _, _, h => turnTo_inj n (Nat.le_refl _) (turnsW_inj q h)
theorem xor_cancel {a b c : Nat} (h : a ^^^ c = b ^^^ c) : a = b := by rw [← xor_back a c, h, xor_back]
theorem grayTo_inj {n : Nat} {Y Z : Nat → Nat} : ∀ k, k < n → AgN n (grayTo Y k) (grayTo Z k) → AgN n Y Z
  | 0, _, h => h
  | k + 1, hk, h => grayTo_inj k (by omega) fun j hj => by
    have hkk := h k (by omega)
    rw [grayTo, grayTo, updN_ne _ _ (by omega), updN_ne _ _ (by omega)] at hkk
    by_cases e : j = k + 1
    · subst e
      have h1 := h (k + 1) hj
      rw [grayTo, grayTo, updN_self, updN_self, hkk] at h1
      exact xor_cancel h1
    · have h1 := h j hj
      rw [grayTo, grayTo, updN_ne _ _ e, updN_ne _ _ e] at h1
      exact h1
theorem xorTo_at (t : Nat) (Y : Nat → Nat) : ∀ k j, xorTo t Y k j = if j < k then Y j ^^^ t else Y j
  | 0, j => by rw [if_neg (Nat.not_lt_zero j)]; rfl
  | k + 1, j => by
    rw [xorTo]
    by_cases e : j = k
    · subst e
      rw [updN_self, xorTo_at t Y j j, if_neg (Nat.lt_irrefl j), if_pos (Nat.lt_succ_self j)]
    · rw [updN_ne _ _ e, xorTo_at t Y k j]
      by_cases h : j < k
      · rw [if_pos h, if_pos (by omega)]
      · rw [if_neg h, if_neg (by omega)]
theorem tW_bit {y z i : Nat} (h : ∀ q, i < q → y.testBit q = z.testBit q) : ∀ p t u, t.testBit i = u.testBit i → (tW y p t).testBit i = (tW z p u).testBit i
  | 0, _, _, ht => ht
  | p + 1, t, u, ht => by
    rw [tW, tW]
    apply tW_bit h
    rw [bit_test, bit_test]
    by_cases hi : i < p + 1
    · rw [h (p + 1) hi]
      cases z.testBit (p + 1)
      · exact ht
      · rw [cond_true, cond_true, Nat.testBit_xor, Nat.testBit_xor, ht]
    · have hz : (2 ^ (p + 1) - 1).testBit i = false := by rw [Nat.testBit_two_pow_sub_one]; simpa using hi
      have : ∀ (b : Bool) (x : Nat), (bif b then x ^^^ (2 ^ (p + 1) - 1) else x).testBit i = x.testBit i := fun b x => by
        cases b
        · rfl
        · rw [cond_true, Nat.testBit_xor, hz, Bool.xor_false]
      rw [this, this, ht]
theorem tW_high {y i : Nat} : ∀ p t, p ≤ i → (tW y p t).testBit i = t.testBit i
  | 0, _, _ => rfl
  | p + 1, t, hi => by
    rw [tW, tW_high p _ (by omega)]
    have hz : (2 ^ (p + 1) - 1).testBit i = false := by rw [Nat.testBit_two_pow_sub_one]; simpa using hi
    cases (bitN y (p + 1) == 1)
    · rfl
    · rw [cond_true, Nat.testBit_xor, hz, Bool.xor_false]
theorem tW_inj {y z p : Nat} (h : y ^^^ tW y p 0 = z ^^^ tW z p 0) : y = z := by
  have key : ∀ m i, p ≤ i + m → y.testBit i = z.testBit i := by
    intro m
    induction m with
    | zero =>
      intro i hi
      have h1 := congrArg (fun x => Nat.testBit x i) h
      simp only [Nat.testBit_xor] at h1
      rw [tW_high p 0 (by omega), tW_high p 0 (by omega)] at h1
      simpa using h1
    | succ m ih =>
      intro i hi
      have h1 := congrArg (fun x => Nat.testBit x i) h
      simp only [Nat.testBit_xor] at h1
      rw [tW_bit (z := z) (fun q hq => ih q (by omega)) p 0 0 rfl] at h1
      cases hy : y.testBit i <;> cases hz : z.testBit i <;> rw [hy, hz] at h1 <;> cases hT : (tW z p 0).testBit i <;> rw [hT] at h1 <;> first | rfl | (exact absurd h1 (by decide))
  exact Nat.eq_of_testBit_eq fun i => key p i (by omega)
theorem intl_inj {Y Z : Nat → Nat} {q : Nat} : ∀ {n a b : Nat}, intl Y q a n = intl Z q b n → a = b ∧ ∀ k, k < n → bitN (Y k) q = bitN (Z k) q
  | 0, _, _, h => ⟨h, fun k hk => absurd hk (Nat.not_lt_zero k)⟩
  | n + 1, a, b, h => by
    rw [intl, intl] at h
    have h1 := bitN_lt (Y n) q
    have h2 := bitN_lt (Z n) q
    obtain ⟨h3, h4⟩ := intl_inj (n := n) (a := a) (b := b) (show intl Y q a n = intl Z q b n by omega)
    refine ⟨h3, fun k hk => ?_⟩
    by_cases e : k = n
    · subst e; omega
    · exact h4 k (by omega)
theorem intlW_inj {Y Z : Nat → Nat} {n : Nat} : ∀ {w a b : Nat}, intlW Y n w a = intlW Z n w b → a = b ∧ ∀ q, q < w → ∀ k, k < n → bitN (Y k) q = bitN (Z k) q
  | 0, _, _, h => ⟨h, fun q hq => absurd hq (Nat.not_lt_zero q)⟩
  | w + 1, a, b, h => by
    rw [intlW, intlW] at h
    obtain ⟨h1, h2⟩ := intlW_inj h
    obtain ⟨h3, h4⟩ := intl_inj h1
    refine ⟨h3, fun q hq k hk => ?_⟩
    by_cases e : q = w
    · subst e; exact h4 k hk
    · exact h2 q (by omega) k hk
def LtN (n w : Nat) (Y : Nat → Nat) : Prop := ∀ j, j < n → Y j < 2 ^ w
theorem low_le {q w : Nat} (h : q ≤ w) : 2 ^ q - 1 < 2 ^ w := Nat.lt_of_lt_of_le (Nat.sub_lt (Nat.two_pow_pos q) (by decide)) (Nat.pow_le_pow_right (by decide) h)
theorem updN_ltN {n w k v : Nat} {Y : Nat → Nat} (h : LtN n w Y) (hv : v < 2 ^ w) : LtN n w (updN Y k v) := fun j hj => by
  unfold updN
  split
  · exact hv
  · exact h j hj
theorem stepH_ltN {n w q k : Nat} {Y : Nat → Nat} (h : LtN n w Y) (hq : q ≤ w) (hk : k < n) : LtN n w (stepH q Y k) := by
  have h0 := h 0 (by omega)
  have hk' := h k hk
  have hd : (Y 0 ^^^ Y k) &&& (2 ^ q - 1) < 2 ^ w := Nat.lt_of_le_of_lt Nat.and_le_right (low_le hq)
  unfold stepH
  cases bitN (Y k) q == 1
  · rw [cond_false]
    have h1 : LtN n w (updN Y 0 (Y 0 ^^^ ((Y 0 ^^^ Y k) &&& (2 ^ q - 1)))) := updN_ltN h (Nat.xor_lt_two_pow h0 hd)
    exact updN_ltN h1 (Nat.xor_lt_two_pow (h1 k hk) hd)
  · rw [cond_true]
    exact updN_ltN h (Nat.xor_lt_two_pow h0 (low_le hq))
theorem turnTo_ltN {n w q : Nat} {Y : Nat → Nat} (h : LtN n w Y) (hq : q ≤ w) : ∀ k, k ≤ n → LtN n w (turnTo q Y k)
  | 0, _ => h
  | k + 1, hk => stepH_ltN (turnTo_ltN h hq k (by omega)) hq (by omega)
theorem turnsW_ltN {n w : Nat} : ∀ (q : Nat) {Y : Nat → Nat}, LtN n w Y → q ≤ w → LtN n w (turnsW n q Y)
  | 0, _, h, _ => h
  | q + 1, _, h, hq => turnsW_ltN q (turnTo_ltN h hq n (Nat.le_refl _)) (by omega)
theorem grayTo_ltN {n w : Nat} {Y : Nat → Nat} (h : LtN n w Y) : ∀ k, k < n → LtN n w (grayTo Y k)
  | 0, _ => h
  | k + 1, hk => by
    have ih := grayTo_ltN h k (by omega)
    exact updN_ltN ih (Nat.xor_lt_two_pow (ih (k + 1) hk) (ih k (by omega)))
theorem tW_lt {y w : Nat} : ∀ p t, p ≤ w → t < 2 ^ w → tW y p t < 2 ^ w
  | 0, _, _, h => h
  | p + 1, t, hp, h => by
    rw [tW]
    apply tW_lt p _ (by omega)
    cases bitN y (p + 1) == 1
    · exact h
    · exact Nat.xor_lt_two_pow h (low_le hp)
theorem bits_all {a b w : Nat} (ha : a < 2 ^ w) (hb : b < 2 ^ w) (h : ∀ q, q < w → bitN a q = bitN b q) : a = b := by
  apply Nat.eq_of_testBit_eq
  intro i
  by_cases hi : i < w
  · rw [← bit_test, ← bit_test, h i hi]
  · rw [Nat.testBit_lt_two_pow (Nat.lt_of_lt_of_le ha (Nat.pow_le_pow_right (by decide) (by omega))), Nat.testBit_lt_two_pow (Nat.lt_of_lt_of_le hb (Nat.pow_le_pow_right (by decide) (by omega)))]
/-- The key determines the numbers. -/
theorem hilN_inj {n wd : Nat} {Y Z : Nat → Nat} (hn : 1 ≤ n) (hY : LtN n wd Y) (hZ : LtN n wd Z) (h : hilN n wd Y = hilN n wd Z) : AgN n Y Z := by
  unfold hilN at h
  have gY := grayTo_ltN (turnsW_ltN (wd - 1) hY (by omega)) (n - 1) (by omega)
  have gZ := grayTo_ltN (turnsW_ltN (wd - 1) hZ (by omega)) (n - 1) (by omega)
  refine turnsW_inj (wd - 1) (grayTo_inj (n - 1) (by omega) ?_)
  generalize grayTo (turnsW n (wd - 1) Y) (n - 1) = A at *
  generalize grayTo (turnsW n (wd - 1) Z) (n - 1) = B at *
  have hb := (intlW_inj h).2
  have hx : ∀ j, j < n → A j ^^^ tW (A (n - 1)) (wd - 1) 0 = B j ^^^ tW (B (n - 1)) (wd - 1) 0 := fun j hj => by
    have tl : ∀ y, tW y (wd - 1) 0 < 2 ^ wd := fun y => tW_lt _ _ (by omega) (Nat.two_pow_pos wd)
    refine bits_all (Nat.xor_lt_two_pow (gY j hj) (tl _)) (Nat.xor_lt_two_pow (gZ j hj) (tl _)) fun q hq => ?_
    have h1 := hb q hq j hj
    rw [xorTo_at, xorTo_at, if_pos hj, if_pos hj] at h1
    exact h1
  have he : A (n - 1) = B (n - 1) := tW_inj (hx (n - 1) (by omega))
  intro j hj
  have h1 := hx j hj
  rw [he] at h1
  exact xor_cancel h1
end Go.Proofs.YtogmbehomilalaaGreatDoor
end

/- Keys that are lists, against keys that are numbers: arithmetic. -/
section
namespace Go.Proofs.YtogmbehomilalaaGreatDoor
open Go Go.RowKit

/-- The number with these digits, to these bases. -/
def radV (e a : Nat → Nat) : Nat → Nat
  | 0 => 0
  | k + 1 => radV e a k * e k + a k
theorem radV_congr {e a b : Nat → Nat} : ∀ L, (∀ k, k < L → a k = b k) → radV e a L = radV e b L
  | 0, _ => rfl
  | L + 1, h => by rw [radV, radV, radV_congr L (fun k hk => h k (by omega)), h L (by omega)]
theorem radV_congrE {e d a : Nat → Nat} : ∀ L, (∀ k, k < L → e k = d k) → radV e a L = radV d a L
  | 0, _ => rfl
  | L + 1, h => by rw [radV, radV, radV_congrE L (fun k hk => h k (by omega)), h L (by omega)]
theorem cmp_num {x y : Int} : (Lib.compareInt x y = -1 ↔ x < y) ∧ (Lib.compareInt x y = 0 ↔ x = y) ∧ (Lib.compareInt x y = 1 ↔ y < x) := by
  unfold Lib.compareInt
  by_cases h1 : x < y
  · rw [if_pos h1]
    exact ⟨⟨fun _ => h1, fun _ => rfl⟩, ⟨fun h => absurd h (by decide), fun h => by omega⟩, ⟨fun h => absurd h (by decide), fun h => by omega⟩⟩
  · rw [if_neg h1]
    by_cases h2 : x > y
    · rw [if_pos h2]
      exact ⟨⟨fun h => absurd h (by decide), fun h => by omega⟩, ⟨fun h => absurd h (by decide), fun h => by omega⟩, ⟨fun _ => h2, fun _ => rfl⟩⟩
    · rw [if_neg h2]
      exact ⟨⟨fun h => absurd h (by decide), fun h => by omega⟩, ⟨fun _ => by omega, fun _ => rfl⟩, ⟨fun h => absurd h (by decide), fun h => by omega⟩⟩
/-- Digits compared one after another, and the numbers. -/
theorem rad_cmp {e a b : Nat → Nat} {f g : Nat → Int} {m : Nat} : ∀ L, L ≤ m → (∀ k, k < L → a k < e k ∧ b k < e k ∧ f k = (a k : Int) ∧ g k = (b k : Int)) → cmpTo f g m L = Lib.compareInt (radV e a L : Nat) (radV e b L : Nat)
  | 0, _, _ => by rw [cmpTo, radV, radV]; exact (cmp_num.2.1.2 rfl).symm
  | L + 1, hL, h => by
    have ih := rad_cmp (m := m) (f := f) (g := g) L (by omega) (fun k hk => h k (by omega))
    obtain ⟨h1, h2, h3, h4⟩ := h L (by omega)
    rw [cmpTo, radV, radV, ih, if_neg (show ¬ m ≤ L by omega), h3, h4]
    generalize radV e a L = x
    generalize radV e b L = y
    rcases Nat.lt_trichotomy x y with h5 | h5 | h5
    · rw [if_neg (fun h9 => by have := cmp_num.2.1.1 h9; omega), cmp_num.1.2 (by omega)]
      refine (cmp_num.1.2 ?_).symm
      have : x * e L + e L ≤ y * e L := by rw [← Nat.succ_mul]; exact Nat.mul_le_mul_right _ h5
      omega
    · subst h5
      rw [if_pos (cmp_num.2.1.2 rfl)]
      rcases Int.lt_trichotomy (a L : Int) (b L) with h6 | h6 | h6
      · rw [cmp_num.1.2 h6]; exact (cmp_num.1.2 (by omega)).symm
      · rw [cmp_num.2.1.2 h6]; exact (cmp_num.2.1.2 (by omega)).symm
      · rw [cmp_num.2.2.2 h6]; exact (cmp_num.2.2.2 (by omega)).symm
    · rw [if_neg (fun h9 => by have := cmp_num.2.1.1 h9; omega), cmp_num.2.2.2 (by omega)]
      refine (cmp_num.2.2.2 ?_).symm
      have : y * e L + e L ≤ x * e L := by rw [← Nat.succ_mul]; exact Nat.mul_le_mul_right _ h5
      omega
theorem radV_lt {e a : Nat → Nat} {V : Nat → Nat} (h0 : V 0 = 1) : ∀ L, (∀ k, k < L → a k < e k ∧ V (k + 1) = V k * e k) → radV e a L < V L
  | 0, _ => by rw [radV, h0]; decide
  | L + 1, h => by
    have ih := radV_lt h0 L (fun k hk => h k (by omega))
    obtain ⟨h1, h2⟩ := h L (by omega)
    rw [radV, h2]
    have : radV e a L * e L + e L ≤ V L * e L := by rw [← Nat.succ_mul]; exact Nat.mul_le_mul_right _ ih
    omega
/-- Digits behind digits. -/
theorem radV_two {e a d b : Nat → Nat} {n : Nat} {V : Nat → Nat} (h0 : V 0 = 1) : ∀ m, (∀ k, k < m → V (k + 1) = V k * d k) → radV (fun j => if j < n then e j else d (j - n)) (fun j => if j < n then a j else b (j - n)) (n + m) = radV e a n * V m + radV d b m
  | 0, _ => by
    rw [h0, Nat.mul_one, Nat.add_zero, radV, Nat.add_zero]
    rw [radV_congr n (b := a) (fun k hk => if_pos hk), radV_congrE n (d := e) (fun k hk => if_pos hk)]
  | m + 1, h => by
    have ih := radV_two (n := n) (d := d) (b := b) (e := e) (a := a) h0 m (fun k hk => h k (by omega))
    rw [show n + (m + 1) = n + m + 1 by omega, radV, ih, h m (by omega), radV]
    rw [if_neg (show ¬ n + m < n by omega), if_neg (show ¬ n + m < n by omega), show n + m - n = m by omega, Nat.add_mul, Nat.mul_assoc, Nat.add_assoc]
/-- The bits of n numbers, the highest ones first, as digits. -/
def bitL (Y : Nat → Nat) (n k j : Nat) : Nat := bitN (Y (j % n)) (k - 1 - j / n)
theorem bitL_lt (Y : Nat → Nat) (n k j : Nat) : bitL Y n k j < 2 := Nat.mod_lt _ (by decide)
theorem radV_bits {Y : Nat → Nat} {n w p : Nat} (hp : p < w) : ∀ i, i ≤ n → radV (fun _ => 2) (bitL Y n w) (p * n + i) = intl Y (w - 1 - p) (radV (fun _ => 2) (bitL Y n w) (p * n)) i
  | 0, _ => rfl
  | i + 1, h => by
    rw [← Nat.add_assoc, radV, radV_bits hp i (by omega), intl]
    have e1 : bitL Y n w (p * n + i) = bitN (Y i) (w - 1 - p) := by
      unfold bitL
      rw [Nat.mul_comm p n, Nat.mul_add_mod, Nat.mod_eq_of_lt (by omega), Nat.mul_add_div (by omega), Nat.div_eq_of_lt (by omega), Nat.add_zero]
    rw [e1, Nat.mul_comm]
theorem intlW_rad {Y : Nat → Nat} {n w : Nat} : ∀ q p, p + q = w → intlW Y n q (radV (fun _ => 2) (bitL Y n w) (p * n)) = radV (fun _ => 2) (bitL Y n w) (w * n)
  | 0, p, h => by rw [intlW, show p = w by omega]
  | q + 1, p, h => by
    rw [intlW]
    have h1 := radV_bits (Y := Y) (n := n) (w := w) (p := p) (by omega) n (Nat.le_refl _)
    rw [show w - 1 - p = q by omega] at h1
    rw [← h1, ← Nat.succ_mul]
    exact intlW_rad q (p + 1) (by omega)
theorem bits_num (Y : Nat → Nat) (n w : Nat) : radV (fun _ => 2) (bitL Y n w) (w * n) = intlW Y n w 0 := by
  have h := intlW_rad (Y := Y) (n := n) (w := w) w 0 (by omega)
  rw [Nat.zero_mul] at h
  exact h.symm
end Go.Proofs.YtogmbehomilalaaGreatDoor
end

/- Arithmetic of the reference's keys. -/
section
namespace Go.Proofs.YtogmbehomilalaaGreatDoor
open Go Go.RowKit

/-- The low bits of two numbers, changed for one another. -/
theorem swap_low (x y q : Nat) : x - (x &&& (2 ^ q - 1)) + (y &&& (2 ^ q - 1)) = x ^^^ ((x ^^^ y) &&& (2 ^ q - 1)) := by
  rw [Nat.and_two_pow_sub_one_eq_mod, Nat.and_two_pow_sub_one_eq_mod]
  have h1 : x - x % 2 ^ q = 2 ^ q * (x / 2 ^ q) := by
    have := Nat.div_add_mod x (2 ^ q)
    omega
  rw [h1]
  apply Nat.eq_of_testBit_eq
  intro j
  rw [Nat.testBit_two_pow_mul_add _ (Nat.mod_lt _ (Nat.two_pow_pos q)), Nat.testBit_xor, Nat.testBit_and, Nat.testBit_xor, Nat.testBit_two_pow_sub_one]
  by_cases h : j < q
  · rw [if_pos h, Nat.testBit_mod_two_pow, decide_eq_true h]
    cases x.testBit j <;> cases y.testBit j <;> rfl
  · rw [if_neg h, decide_eq_false h, Nat.testBit_div_two_pow]
    rw [show j - q + q = j by omega]
    simp
/-- One digit more. -/
theorem cntC_last (e : Nat → Nat) : ∀ m k, cntC e k (m + 1) = cntC e k m * e (k + m)
  | 0, k => by simp [cntC]
  | m + 1, k => by
    have ih := cntC_last e m (k + 1)
    rw [cntC, ih, cntC, Nat.mul_assoc, show k + 1 + m = k + (m + 1) by omega]
theorem volC_last (e : Nat → Nat) {n k : Nat} (h : k ≤ n) : volC e (n + 1) k = volC e n k * e n := by
  unfold volC
  rw [show n + 1 - k = (n - k) + 1 by omega, cntC_last, show k + (n - k) = n by omega]
/-- The numbers of one digit more. -/
theorem dig_more {e : Nat → Nat} {i t x k : Nat} (hx : x < e i) (hk : k ≤ i) : digC e (i + 1) (t * e i + x) k = if k = i then x else digC e i t k := by
  unfold digC
  by_cases h : k = i
  · subst h
    rw [if_pos rfl]
    have h1 : volC e (k + 1) (k + 1) = 1 := by unfold volC; rw [Nat.sub_self]; rfl
    rw [h1, Nat.div_one, Nat.mul_comm, Nat.mul_add_mod, Nat.mod_eq_of_lt hx]
  · rw [if_neg h, volC_last e (show k + 1 ≤ i by omega)]
    have h2 : (t * e i + x) / (volC e i (k + 1) * e i) = t / volC e i (k + 1) := by
      rw [Nat.mul_comm (volC e i (k + 1)), ← Nat.div_div_eq_div_mul, Nat.mul_comm t, Nat.mul_add_div (by omega), Nat.div_eq_of_lt hx, Nat.add_zero]
    rw [h2]
end Go.Proofs.YtogmbehomilalaaGreatDoor
end

/- A list of integers that grows by append: where it lies. -/
section
namespace Go.Proofs.YtogmbehomilalaaGreatDoor
open Go Go.RowKit Go.Deep

/-- The slice v is the walk's own, from block B on, and holds n numbers. -/
def OwnI (w : World) (B : Nat) (v : Value) (n : Nat) (f : Nat → Int) : Prop := ∃ xs, w.ownsRow B 3 1 v n xs ∧ ∀ k, k < n → xs[k]? = some (.int .i64 (f k))
theorem OwnI.ints {w : World} {B n : Nat} {v : Value} {f : Nat → Int} (h : OwnI w B v n f) : ∃ P c, v = .slice P n c ∧ IntsAt w P n f := by
  obtain ⟨xs, ⟨hl, h1⟩, h2⟩ := h
  rcases h1 with ⟨rfl, rfl⟩ | ⟨g, cap, cur, rfl, _, hh, hcap, _, hs, ht⟩
  · exact ⟨none, 0, rfl, fun h => absurd h (by omega)⟩
  · refine ⟨_, _, rfl, fun hn => ⟨g, 0, rfl, (Array.getElem?_eq_some_iff.1 hh).1, fun k hk => ?_⟩⟩
    rw [Nat.mul_one] at ht
    have h3 : cur.toList[k]? = some (.int .i64 (f k)) := by
      rw [← List.getElem?_take_of_lt hk, ht]
      exact h2 k hk
    rw [Array.getElem?_toList] at h3
    rw [Nat.zero_add]
    simp [World.cell?, hh, h3]
theorem OwnI.nil (w : World) (B : Nat) (f : Nat → Int) : OwnI w B (.slice none 0 0) 0 f := ⟨[], ⟨rfl, .inl ⟨rfl, rfl⟩⟩, fun k hk => absurd hk (by omega)⟩
theorem OwnI.kept {w w' : World} {B n : Nat} {v : Value} {f : Nat → Int} {row : Option Nat} (h : OwnI w B v n f) (hg : w.grownBy w' row) (hne : v.ownBlock = none ∨ v.ownBlock ≠ row) : OwnI w' B v n f := by
  obtain ⟨xs, h1, h2⟩ := h
  exact ⟨xs, h1.kept hg hne, h2⟩
theorem OwnI.block {w : World} {B n : Nat} {v : Value} {f : Nat → Int} (h : OwnI w B v n f) {g : Nat} (hg : v.ownBlock = some g) : B ≤ g ∧ g < w.heap.size := by
  obtain ⟨xs, h1, _⟩ := h
  obtain ⟨a, cs, b⟩ := own_lt h1 g hg
  exact ⟨a, (Array.getElem?_eq_some_iff.1 b).1⟩
/-- One number more, behind a literal of one number: the list lies where it lay, or in a new block. -/
theorem wpList_appI {ops : Array Oper} {rest : List Oper} {o : Oper} {a : Act} {Q : Exit → Act → World → Prop} (hgd : o.guard = none) (s x : Operand)
    (ho : o.op = .call { callee := .builtin .append, args := #[s, x], argTypes := #[35, 35] })
    (W : World) (d : Int) (B : Nat) (v : Value) (n : Nat) (f : Nat → Int) (hs : a.eval s = v) (b : Nat) (hx : a.eval x = .slice (some ⟨b, 0, none⟩) 1 1) (hbW : b = W.heap.size)
    (hown : OwnI W B v n f) (hn : n ≤ 1000000) (hB : B ≤ W.heap.size)
    (h : ∀ v' w', OwnI w' B v' (n + 1) (updZ f n d) → W.grownBy w' v.ownBlock → (v'.ownBlock = v.ownBlock ∨ ∃ g, v'.ownBlock = some g ∧ W.heap.size ≤ g) → wpList Tryz.prog ops Q rest (a.put o.dst v') w') : wpList Tryz.prog ops Q (o :: rest) a (W.alloc (.cells #[.int .i64 d] 3)) := by
  subst hbW
  obtain ⟨xs, h1, h2⟩ := hown
  have h1' : (W.alloc (.cells #[.int .i64 d] 3)).ownsRow B 3 1 v n xs := h1.alloc _
  obtain ⟨i0, hi0, hz0, hz1, hz2⟩ := info_parts info_int
  have hnew : ∀ j u, [Value.int .i64 d][j]? = some u → (W.alloc (.cells #[.int .i64 d] 3)).cell? ((⟨W.heap.size, 0, none⟩ : Addr).add j) = some u := by
    intro j u hu
    have hj : j = 0 := by
      rcases j with _ | j
      · rfl
      · simp at hu
    subst hj
    have hu' : u = .int .i64 d := by simpa using hu.symm
    subst hu'
    exact (World.rowIs_alloc W #[.int .i64 d] 3 (fun _ => .int .i64 d) (fun i hi => by
      have h9 : i = 0 := by simpa using hi
      subst h9
      rfl)).cell (i := 0) (by simp)
  refine wpList_append_own_at _ hgd s x 35 ho B 3 i0 (.int .i64 0) 1 8 Tryz.underlying35 hi0 hz0 hz1 hz2 rfl Nat.zero_lt_one v n xs hs h1' ⟨W.heap.size, 0, none⟩ 1 1 [.int .i64 d] hx rfl hnew
    (fun u hu => by have h9 : u = .int .i64 d := by simpa using hu
                    subst h9; rfl) (by unfold maxLen; omega) (by omega) (by simp; omega) ?_
  intro v' w' g1 g2 _ g4
  refine h v' w' ⟨xs ++ [.int .i64 d], g1, fun k hk => ?_⟩ ((World.grownBy_alloc W _ _).trans g2) (g4.imp id fun h9 => ⟨_, h9, by simp⟩)
  have hl : xs.length = n := by rw [h1.1, Nat.mul_one]
  unfold updZ
  by_cases e : k = n
  · subst e
    rw [if_pos rfl, List.getElem?_append_right (by omega), hl, Nat.sub_self]
    rfl
  · rw [if_neg e, List.getElem?_append_left (by omega)]
    exact h2 k (by omega)
end Go.Proofs.YtogmbehomilalaaGreatDoor
end

/- The reference's names and bounds. -/
section
namespace Go.Proofs.YtogmbehomilalaaGreatDoor
open Go Go.RowKit Go.Deep

end Go.Proofs.YtogmbehomilalaaGreatDoor
end

/- The reference's error of dimensions. -/
section
namespace Go.Proofs.YtogmbehomilalaaGreatDoor
open Go Go.RowKit Go.Deep

end Go.Proofs.YtogmbehomilalaaGreatDoor
end

/- Lists of dimensions, attributes and values compared: what is asked, and the reference. -/
section
namespace Go.Proofs.YtogmbehomilalaaGreatDoor
open Go Go.RowKit Go.Deep

end Go.Proofs.YtogmbehomilalaaGreatDoor
end

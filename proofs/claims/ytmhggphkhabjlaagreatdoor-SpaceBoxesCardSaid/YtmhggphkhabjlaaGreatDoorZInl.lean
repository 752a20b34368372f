/- The bits of the Hilbert order's key. -/
import Derived.Test.YtmhggphkhabjlaaGreatDoorZCol

/- The bits of the Hilbert order's key. -/
section
namespace Go.Proofs.YtmhggphkhabjlaaGreatDoor
open Go Go.RowKit Go.Deep

theorem p62 : (2 : Nat) ^ 62 = 4611686018427387904 := by decide
theorem mod64 {a : Nat} (ha : a < 2 ^ 62) : a % 2 ^ IntKind.i64.bits = a := Nat.mod_eq_of_lt (Nat.lt_of_lt_of_le ha (Nat.pow_le_pow_right (by decide) (by decide)))
theorem wrap_n {a : Nat} (ha : a < 2 ^ 62) : IntKind.i64.wrap (a : Int) = a := by
  rw [p62] at ha
  exact w64 (by omega) (by omega)
theorem xor_i {a b : Nat} (ha : a < 2 ^ 62) (hb : b < 2 ^ 62) : bits .xor .i64 (a : Int) (b : Int) = ((a ^^^ b : Nat) : Int) := by
  have h := Nat.xor_lt_two_pow ha hb
  simp only [bits, BitVec.ofInt_natCast, BitVec.toNat_xor, BitVec.toNat_ofNat, mod64 ha, mod64 hb]
  exact wrap_n h
theorem and_i {a b : Nat} (ha : a < 2 ^ 62) (hb : b < 2 ^ 62) : bits .and .i64 (a : Int) (b : Int) = ((a &&& b : Nat) : Int) := by
  have h : a &&& b < 2 ^ 62 := Nat.and_lt_two_pow _ hb
  simp only [bits, BitVec.ofInt_natCast, BitVec.toNat_and, BitVec.toNat_ofNat, mod64 ha, mod64 hb]
  exact wrap_n h
theorem or_i {a b : Nat} (ha : a < 2 ^ 62) (hb : b < 2 ^ 62) : bits .or .i64 (a : Int) (b : Int) = ((a ||| b : Nat) : Int) := by
  have h := Nat.or_lt_two_pow ha hb
  simp only [bits, BitVec.ofInt_natCast, BitVec.toNat_or, BitVec.toNat_ofNat, mod64 ha, mod64 hb]
  exact wrap_n h
theorem div_i (y q : Nat) : (y : Int) / 2 ^ q = ((y / 2 ^ q : Nat) : Int) := by simp
/-- Bit q of y, as 0 or 1. -/
def bitN (y q : Nat) : Nat := y / 2 ^ q % 2
theorem bit_i {y q : Nat} (hy : y < 2 ^ 62) : bits .and .i64 ((y : Int) / 2 ^ q) 1 = ((bitN y q : Nat) : Int) := by
  have h : y / 2 ^ q < 2 ^ 62 := Nat.lt_of_le_of_lt (Nat.div_le_self _ _) hy
  rw [div_i, show (1 : Int) = ((1 : Nat) : Int) from rfl, and_i h (by decide), Nat.and_one_is_mod]
  rfl

theorem s_hasBit (w : World) (y q : Nat) (hy : y < 2 ^ 62) (hq : q < 62) : Calls Tryz.prog 107 #[.int .i64 y, .int .i64 q] w fun e w' => e = .returned (.bool (bitN y q == 1)) ∧ w' = w := by
  have HB : Hid (bits .and .i64 ((y : Int) / 2 ^ q) 1 = ((bitN y q : Nat) : Int)) := bit_i hy
  have hy' : y < 4611686018427387904 := by rw [← p62]; exact hy
  go_enter Tryz.func107, Tryz.ntmps107
  go_wp2
  go_ret
  refine ⟨?_, rfl⟩
  show Ending.returned (Value.bool (bits .and .i64 ((y : Int) / 2 ^ q) 1 == 1)) = _
  rw [HB.out]
  congr 2
  rw [Bool.eq_iff_iff, beq_iff_eq, beq_iff_eq]
  omega

def updN (f : Nat → Nat) (k v j : Nat) : Nat := if j = k then v else f j
def rowN (w : World) (b t n : Nat) (Y : Nat → Nat) : Prop := w.rowIs b t n fun j => .int .i64 (Y j : Nat)
theorem set_natH {w : World} {b t n : Nat} {f : Nat → Nat} (h : rowN w b t n f) (i v : Nat) : rowN (w.setCell ⟨b, i, none⟩ (.int .i64 v)) b t n (updN f i v) := by
  refine (h.set i _).congr fun j _ => ?_
  unfold updN
  by_cases e : j = i
  · simp only [if_pos e]
  · simp only [if_neg e]
theorem grown2 {w w1 w2 : World} {b : Nat} (h : w.grownBy w1 (some b)) (h2 : w1.grownBy w2 (some b)) : w.grownBy w2 (some b) :=
  ⟨h2.os.trans h.os, h2.tape.trans h.tape, h2.output.trans h.output, Nat.le_trans h.size h2.size, fun k hk he => (h2.block k (Nat.lt_of_lt_of_le hk h.size) he).trans (h.block k hk he)⟩
theorem grown1 {w w1 w2 : World} {b : Nat} (h : w.grownBy w1 (some b)) (h2 : w1.grownBy w2 none) : w.grownBy w2 (some b) :=
  ⟨h2.os.trans h.os, h2.tape.trans h.tape, h2.output.trans h.output, Nat.le_trans h.size h2.size, fun k hk he => (h2.block k (Nat.lt_of_lt_of_le hk h.size) (by simp)).trans (h.block k hk he)⟩
/-- One step of the turn. -/
def stepH (q : Nat) (Y : Nat → Nat) (k : Nat) : Nat → Nat :=
  bif bitN (Y k) q == 1 then updN Y 0 (Y 0 ^^^ (2 ^ q - 1))
  else updN (updN Y 0 (Y 0 ^^^ ((Y 0 ^^^ Y k) &&& (2 ^ q - 1)))) k (updN Y 0 (Y 0 ^^^ ((Y 0 ^^^ Y k) &&& (2 ^ q - 1))) k ^^^ ((Y 0 ^^^ Y k) &&& (2 ^ q - 1)))
def turnTo (q : Nat) (Y : Nat → Nat) : Nat → Nat → Nat
  | 0 => Y
  | k + 1 => stepH q (turnTo q Y k) k
theorem updN_lt {f : Nat → Nat} {k v B : Nat} {n : Nat} (h : ∀ j, j < n → f j < B) (hv : v < B) : ∀ j, j < n → updN f k v j < B := fun j hj => by
  unfold updN; split
  · exact hv
  · exact h j hj
theorem low_lt {q : Nat} (hq : q < 62) : 2 ^ q - 1 < 2 ^ 62 := Nat.lt_of_lt_of_le (Nat.sub_lt (Nat.two_pow_pos q) (by decide)) (Nat.pow_le_pow_right (by decide) (by omega))
theorem stepT_lt {q n k : Nat} {Y : Nat → Nat} (hq : q < 62) (hn : 1 ≤ n) (hk : k < n) (h : ∀ j, j < n → Y j < 2 ^ 62) : ∀ j, j < n → stepH q Y k j < 2 ^ 62 := by
  have h0 := h 0 (by omega)
  have hd : (Y 0 ^^^ Y k) &&& (2 ^ q - 1) < 2 ^ 62 := Nat.and_lt_two_pow _ (low_lt hq)
  unfold stepH
  cases bitN (Y k) q == 1
  · have h1 := updN_lt (k := 0) h (Nat.xor_lt_two_pow h0 hd)
    exact updN_lt h1 (Nat.xor_lt_two_pow (h1 k hk) hd)
  · exact updN_lt h (Nat.xor_lt_two_pow h0 (low_lt hq))
theorem turnTo_lt {q n : Nat} {Y : Nat → Nat} (hq : q < 62) (hn : 1 ≤ n) (h : ∀ j, j < n → Y j < 2 ^ 62) : ∀ k, k ≤ n → ∀ j, j < n → turnTo q Y k j < 2 ^ 62 := by
  intro k
  induction k with
  | zero => exact fun _ => h
  | succ k ih => exact fun hk => stepT_lt hq hn (by omega) (ih (by omega))

set_option maxRecDepth 100000 in
set_option maxHeartbeats 2000000 in
theorem s_turn (w : World) (b T N n c q : Nat) (Y : Nat → Nat) (h : rowN w b T N Y) (hn : 1 ≤ n) (hN : n ≤ N) (hN2 : N ≤ 1000) (hY : ∀ j, j < n → Y j < 2 ^ 62) (hq : q < 62) :
    Calls Tryz.prog 106 #[.slice (some ⟨b, 0, none⟩) n c, .int .i64 q] w fun e w' => e = .returned (.tuple #[]) ∧ rowN w' b T N (turnTo q Y n) ∧ w.grownBy w' (some b) := by
  have HT := Lib.hid (turnTo_lt hq hn hY)
  have HH := Lib.hid (fun W y hy => s_hasBit W y q hy hq)
  have hlow := low_lt hq
  clear hY
  have hp1 : 1 ≤ 2 ^ q := Nat.two_pow_pos q
  have hp2 : 2 ^ q < 4611686018427387904 := by rw [← p62]; exact Nat.pow_lt_pow_right (by decide) hq
  have hpc : ((2 ^ q : Nat) : Int) = 2 ^ q := Int.natCast_pow 2 q
  have hw1 : wrap64 (2 ^ q) = 2 ^ q := by rw [← hpc]; unfold wrap64; omega
  have hw2 : wrap64 (2 ^ q - 1) = ((2 ^ q - 1 : Nat) : Int) := by rw [← hpc]; unfold wrap64; omega
  clear hpc hp1 hp2
  have HS : Hid (∀ Z k, stepH q Z k = bif bitN (Z k) q == 1 then updN Z 0 (Z 0 ^^^ (2 ^ q - 1)) else updN (updN Z 0 (Z 0 ^^^ ((Z 0 ^^^ Z k) &&& (2 ^ q - 1)))) k (updN Z 0 (Z 0 ^^^ ((Z 0 ^^^ Z k) &&& (2 ^ q - 1))) k ^^^ ((Z 0 ^^^ Z k) &&& (2 ^ q - 1)))) := fun _ _ => rfl
  generalize 2 ^ q - 1 = low at *
  go_enter Tryz.func106, Tryz.ntmps106
  go_wp2
  rw [hw1, hw2]
  go_loopw [5, 6, 12] (fun _ _ i wr => ∃ k : Nat, k ≤ n ∧ i = .int .i64 k ∧ rowN wr b T N (turnTo q Y k) ∧ Hid (w.grownBy wr (some b))) (fun _ _ i _ => n - (intOf i).toNat)
  case atStart => exact ⟨0, Nat.zero_le _, rfl, h, ⟨rfl, rfl, rfl, Nat.le_refl _, fun _ _ _ => rfl⟩⟩
  case round =>
    obtain ⟨k, hk, rfl, hr, HG⟩ := hrel
    by_cases hlt : k < n
    · have hl0 := HT.out k hk 0 (by omega)
      have hlk := HT.out k hk k hlt
      have HR : Hid (turnTo q Y (k + 1) = stepH q (turnTo q Y k) k) := rfl
      rw [HS.out] at HR
      have HT2 := Lib.hid (HT.out k hk)
      generalize turnTo q Y k = Z at *
      have c0 := hr.cell (i := 0) (by omega)
      have ck := hr.cell (i := k) (by omega)
      have z0 := hr.frozen 0
      have zk := hr.frozen k
      cases hb : bitN (Z k) q == 1
      · rw [hb] at HR
        have hx := xor_i hl0 hlk
        have hd : (Z 0 ^^^ Z k) &&& low < 2 ^ 62 := Nat.and_lt_two_pow _ hlow
        have ha := and_i (Nat.xor_lt_two_pow hl0 hlk) hlow
        have hx0 := xor_i hl0 hd
        go_wp2_with (first | (go_at_call 107; refine (HH.out _ _ hlk).mono ?_; rintro e w1 ⟨rfl, rfl⟩; rw [hb]))
        go_quiet (fail)
        have hr2 : rowN (w1.drewN nq) b T N Z := hr
        have HG2 : Hid (w.grownBy (w1.drewN nq) (some b)) := grown1 HG.out (grown_drewN w1 nq)
        clear c0 ck z0 zk hr HG
        generalize w1.drewN nq = w2 at *
        have c0 := hr2.cell (i := 0) (by omega)
        have z0 := hr2.frozen 0
        have HR2 : Hid (turnTo q Y (k + 1) = updN (updN Z 0 (Z 0 ^^^ ((Z 0 ^^^ Z k) &&& low))) k (updN Z 0 (Z 0 ^^^ ((Z 0 ^^^ Z k) &&& low)) k ^^^ ((Z 0 ^^^ Z k) &&& low))) := HR.out
        clear HR ha hx
        generalize (Z 0 ^^^ Z k) &&& low = D at *
        have hr3 := set_natH hr2 0 (Z 0 ^^^ D)
        have c3 := hr3.cell (i := k) (by omega)
        have z3 := hr3.frozen k
        have hV : updN Z 0 (Z 0 ^^^ D) k < 2 ^ 62 := updN_lt (n := n) (fun j hj => by
          by_cases e : j = 0
          · rw [e]; exact hl0
          · exact HT2.out j hj) (Nat.xor_lt_two_pow hl0 hd) k hlt
        have hx3 := xor_i hV hd
        have HG3 : Hid (w.grownBy (w2.setCell ⟨b, 0, none⟩ (.int .i64 ((Z 0 ^^^ D : Nat) : Int))) (some b)) := grown2 HG2.out (grown_set _ b 0 _)
        go_wp2_with fail
        exact ⟨⟨k + 1, by omega, by go_num, by rw [HR2.out]; exact set_natH hr3 k _, grown2 HG3.out (grown_set _ b k _)⟩, by simp [intOf]; omega⟩
      · rw [hb] at HR
        have hx := xor_i hl0 hlow
        go_wp2_with (first | (go_at_call 107; refine (HH.out _ _ hlk).mono ?_; rintro e w1 ⟨rfl, rfl⟩; rw [hb]))
        exact ⟨⟨k + 1, by omega, by go_num, by rw [HR.out]; exact set_natH hr 0 _, grown2 HG.out (grown_set _ b 0 _)⟩, by simp [intOf]; omega⟩
    · obtain rfl : k = n := by omega
      go_wp2
      go_end0
      exact ⟨rfl, hr, HG.out⟩
end Go.Proofs.YtmhggphkhabjlaaGreatDoor
end

/- The bits of several numbers, interleaved. -/
section
namespace Go.Proofs.YtmhggphkhabjlaaGreatDoor
open Go Go.RowKit Go.Deep

/-- The digits of the first k numbers' bits q, behind a key. -/
def intl (Y : Nat → Nat) (q key : Nat) : Nat → Nat
  | 0 => key
  | k + 1 => 2 * intl Y q key k + bitN (Y k) q
/-- .. for the bits below w, the highest first. -/
def intlW (Y : Nat → Nat) (n : Nat) : Nat → Nat → Nat
  | 0, key => key
  | q + 1, key => intlW Y n q (intl Y q key n)
theorem bitN_lt (y q : Nat) : bitN y q < 2 := Nat.mod_lt _ (by decide)
theorem intl_lt {Y : Nat → Nat} {q key e : Nat} (h : key < 2 ^ e) : ∀ k, intl Y q key k < 2 ^ (e + k) := by
  intro k
  induction k with
  | zero => exact h
  | succ k ih =>
    have := bitN_lt (Y k) q
    rw [intl, ← Nat.add_assoc, Nat.pow_succ]
    omega
theorem or_bit {x b : Nat} (hb : b < 2) : (2 * x) ||| b = 2 * x + b := by
  rcases (by omega : b = 0 ∨ b = 1) with rfl | rfl
  · simp
  · have := Nat.two_pow_add_eq_or_of_lt (i := 1) (b := 1) (by decide) x
    rw [Nat.pow_one] at this
    exact this.symm

set_option maxRecDepth 100000 in
set_option maxHeartbeats 2000000 in
theorem s_interleaved (w : World) (b T N n c wd : Nat) (Y : Nat → Nat) (h : rowN w b T N Y) (hN : n ≤ N) (hN2 : N ≤ 1000) (hY : ∀ j, j < n → Y j < 2 ^ 62) (hw : n * wd ≤ 60) (hw2 : wd ≤ 60) :
    Calls Tryz.prog 108 #[.slice (some ⟨b, 0, none⟩) n c, .int .i64 wd] w fun e w' => e = .returned (.int .i64 (intlW Y n wd 0 : Nat)) ∧ ∃ k, w' = w.drewN k := by
  have HY := Lib.hid hY
  clear hY
  go_enter Tryz.func108, Tryz.ntmps108
  go_wp2
  go_loopw [5, 6] (fun ky q wr => ∃ (p key r : Nat), p ≤ wd ∧ ky = .int .i64 (key : Nat) ∧ q = .int .i64 ((p : Int) - 1) ∧ Hid (intlW Y n p key = intlW Y n wd 0) ∧ Hid (key < 2 ^ (n * (wd - p))) ∧ wr = w.drewN r) (fun _ q _ => (intOf q + 1).toNat)
  case atStart => exact ⟨wd, 0, 0, Nat.le_refl _, rfl, rfl, rfl, by show 0 < _; exact Nat.two_pow_pos _, rfl⟩
  case round =>
    obtain ⟨p, key, r, hp, rfl, rfl, HK, HL, rfl⟩ := hrel
    by_cases h0 : p = 0
    · subst h0
      have HK2 : Hid (key = intlW Y n wd 0) := HK.out
      go_wp2
      go_ret
      exact ⟨by rw [← HK2.out]; rfl, _, rfl⟩
    · obtain ⟨q, rfl⟩ : ∃ q, p = q + 1 := ⟨p - 1, by omega⟩
      rw [show (((q + 1 : Nat) : Int) - 1) = q by omega]
      have he1 : n * (wd - q) = n * (wd - (q + 1)) + n := by rw [show wd - q = (wd - (q + 1)) + 1 by omega, Nat.mul_succ]
      have he2 : n * (wd - q) ≤ n * wd := Nat.mul_le_mul_left n (by omega)
      have HX := Lib.hid (fun k => intl_lt (Y := Y) (q := q) HL.out k)
      have HK2 : Hid (intlW Y n q (intl Y q key n) = intlW Y n wd 0) := HK.out
      have HL2 : Hid (intl Y q key n < 2 ^ (n * (wd - q))) := by show _ < _; rw [he1]; exact HX.out n
      generalize n * (wd - (q + 1)) = e0 at *
      clear HK
      obtain ⟨w1, hw1⟩ : ∃ w1, w1 = w.drewN r := ⟨_, rfl⟩
      have HW := Lib.hid hw1
      have h1 : rowN w1 b T N Y := by rw [hw1]; exact h
      rw [← hw1]
      clear hw1
      go_wp2
      go_loopw [5, 8, 17] (fun ky _ i wr => ∃ k : Nat, k ≤ n ∧ ky = .int .i64 (intl Y q key k : Nat) ∧ i = .int .i64 k ∧ wr = w1) (fun _ _ i _ => n - (intOf i).toNat)
      case atStart => exact ⟨0, Nat.zero_le _, rfl, rfl, rfl⟩
      case round =>
        obtain ⟨k, hk, rfl, rfl, rfl⟩ := hrel
        by_cases hlt : k < n
        · have hc := h1.cell (i := k) (by omega)
          have hb := bit_i (y := Y k) (q := q) (HY.out k hlt)
          have hbl := bitN_lt (Y k) q
          have hkl := HX.out k
          have hk2 : intl Y q key k < 1152921504606846976 := Nat.lt_of_lt_of_le hkl (Nat.le_trans (Nat.pow_le_pow_right (by decide) (by omega : e0 + k ≤ 60)) (by decide))
          have HR : Hid (intl Y q key (k + 1) = 2 * intl Y q key k + bitN (Y k) q) := rfl
          clear hkl
          generalize intl Y q key k = z at *
          generalize hbe : bitN (Y k) q = bt at *
          have HO : Hid (bits .or .i64 ((2 * z : Nat) : Int) ((bt : Nat) : Int) = ((2 * z + bt : Nat) : Int)) := by
            show _ = _
            rw [or_i (by rw [p62]; omega) (by rw [p62]; omega), or_bit hbl]
          have hy := HY.out k hlt
          rw [p62] at hy
          generalize Y k = y at *
          clear hbe
          go_wp2_with fail
          have hz : ((z : Int) * 2) = ((2 * z : Nat) : Int) := by omega
          exact ⟨⟨k + 1, by omega, by rw [hz, HO.out, HR.out], by go_num, trivial⟩, by simp [intOf]; omega⟩
        · obtain rfl : k = n := by omega
          go_wp2_with fail
          exact ⟨⟨q, intl Y q key k, r, by omega, rfl, rfl, HK2.out, HL2.out, HW.out⟩, by simp [intOf]⟩
end Go.Proofs.YtmhggphkhabjlaaGreatDoor
end

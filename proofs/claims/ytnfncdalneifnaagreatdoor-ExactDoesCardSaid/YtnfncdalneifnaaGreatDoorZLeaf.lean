/- The leaves of the package's natural numbers: what each call returns, for slices that hold the words of a number. -/
import Derived.Test.YtnfncdalneifnaaGreatDoorProg
import Derived.Test.YtnfncdalneifnaaGreatDoorZMath
import Derived.WalkKit
import Derived.WalkSpells
import Derived.WalkLawsBesides
import Derived.Deep.QuietTactic
import Derived.BigQuiet
import Derived.Deep.OwnRows
import Derived.Lib.Hide

/- The leaves of the package's natural numbers: what each call returns, for slices that hold the words of a number. -/
section
namespace Go.Proofs.YtnfncdalneifnaaGreatDoor
open Go.RowKit

abbrev U (x : Nat) : Value := .int .u64 (x : Int)
def sbw (x y c : Nat) : Nat := if x < y + c then 1 else 0
theorem ret_i {k : IntKind} {a b : Int} (h : a = b) : Ending.returned (.int k a) = .returned (.int k b) := by rw [h]
theorem ret_ii {k k' : IntKind} {a b c d : Int} (h : a = b) (h' : c = d) : Ending.returned (.tuple #[.int k a, .int k' c]) = .returned (.tuple #[.int k b, .int k' d]) := by rw [h, h']

/-- A slice of n words, word k being g k; its block lies below B. -/
def Wd (w : World) (B : Nat) (A : Option Addr) (n : Nat) (g : Nat → Nat) : Prop :=
  0 < n → ∃ b o, A = some ⟨b, o, none⟩ ∧ b < B ∧ ∀ k, k < n → w.cell? ⟨b, o + k, none⟩ = some (U (g k))
theorem Wd.zero {w : World} {B : Nat} {A : Option Addr} {g : Nat → Nat} : Wd w B A 0 g := fun h => absurd h (by omega)
theorem Wd.at_ {w : World} {B : Nat} {A : Option Addr} {n k : Nat} {g : Nat → Nat} (h : Wd w B A n g) (hk : k < n) :
    ∃ b o, A = some ⟨b, o, none⟩ ∧ w.cell? ⟨b, o + k, none⟩ = some (U (g k)) := by
  obtain ⟨b, o, h1, _, h3⟩ := h (by omega)
  exact ⟨b, o, h1, h3 k hk⟩
theorem Wd.below {w w' : World} {B : Nat} {A : Option Addr} {n : Nat} {g : Nat → Nat} (h : Wd w B A n g) (hb : Below B w w') : Wd w' B A n g := fun hn => by
  obtain ⟨b, o, h1, h2, h3⟩ := h hn
  exact ⟨b, o, h1, h2, fun k hk => (hb.cell (p := ⟨b, o + k, none⟩) h2).trans (h3 k hk)⟩
theorem Wd.more {w : World} {B B' : Nat} {A : Option Addr} {n : Nat} {g : Nat → Nat} (h : Wd w B A n g) (hb : B ≤ B') : Wd w B' A n g := fun hn => by
  obtain ⟨b, o, h1, h2, h3⟩ := h hn
  exact ⟨b, o, h1, by omega, h3⟩
theorem Wd.drewN {w : World} {B : Nat} {A : Option Addr} {n : Nat} {g : Nat → Nat} (h : Wd w B A n g) (m : Nat) : Wd (w.drewN m) B A n g := h
theorem Wd.congr {w : World} {B : Nat} {A : Option Addr} {n : Nat} {g f : Nat → Nat} (h : Wd w B A n g) (e : ∀ k, k < n → g k = f k) : Wd w B A n f := fun hn => by
  obtain ⟨b, o, h1, h2, h3⟩ := h hn
  exact ⟨b, o, h1, h2, fun k hk => by rw [h3 k hk, e k hk]⟩
theorem Wd.take {w : World} {B : Nat} {A : Option Addr} {n m : Nat} {g : Nat → Nat} (h : Wd w B A n g) (e : m ≤ n) : Wd w B A m g := fun hn => by
  obtain ⟨b, o, h1, h2, h3⟩ := h (by omega)
  exact ⟨b, o, h1, h2, fun k hk => h3 k (by omega)⟩
theorem Wd.row {w : World} {b t n : Nat} {f : Nat → Value} {g : Nat → Nat} (h : w.rowIs b t n f) (e : ∀ k, k < n → f k = U (g k)) : Wd w w.heap.size (some ⟨b, 0, none⟩) n g := fun _ =>
  ⟨b, 0, rfl, h.lt, fun k hk => by rw [Nat.zero_add, h.cell hk, e k hk]⟩

set_option maxHeartbeats 400000 in
theorem c_addWords (x y c : Nat) (w : World) (hx : x < W64) (hy : y < W64) (hc : c ≤ 1) :
    Calls Tryz.prog 89 #[U x, U y, U c] w fun e w' => e = .returned (.tuple #[U ((x + y + c) % W64), U ((x + y + c) / W64)]) ∧ w = w' := by
  unfold W64 at *
  go_enter Tryz.func89, Tryz.ntmps89
  go_wp2
  all_goals (go_ret2; refine ⟨ret_ii ?_ ?_, rfl⟩ <;> (simp only [IntKind.wrap_u64] at *; omega))

set_option maxHeartbeats 400000 in
theorem c_subWords (x y c : Nat) (w : World) (hx : x < W64) (hy : y < W64) (hc : c ≤ 1) :
    Calls Tryz.prog 179 #[U x, U y, U c] w fun e w' => e = .returned (.tuple #[U ((x + 2 * W64 - y - c) % W64), U (sbw x y c)]) ∧ w = w' := by
  unfold W64 at *
  go_enter Tryz.func179, Tryz.ntmps179
  go_wp2
  all_goals (go_ret2; refine ⟨ret_ii ?_ ?_, rfl⟩ <;> (simp only [IntKind.wrap_u64] at *; first | omega | (unfold sbw; split <;> omega)))

theorem nat_abs_u64 (n : Int) (h0 : -9223372036854775808 ≤ n) (h1 : n < 0) : IntKind.u64.wrap (-IntKind.u64.wrap n) = (n.natAbs : Int) := by
  simp only [IntKind.wrap_u64]; omega
set_option maxHeartbeats 400000 in
theorem c_absolute (n : Int) (w : World) (h0 : -9223372036854775808 ≤ n) (h1 : n ≤ 9223372036854775807) :
    Calls Tryz.prog 38 #[.int .i64 n] w fun e w' => e = .returned (U n.natAbs) ∧ w = w' := by
  by_cases h : n < 0
  · go_enter Tryz.func38, Tryz.ntmps38
    go_wp2
    go_ret
    exact ⟨ret_i (nat_abs_u64 n h0 h), rfl⟩
  · go_enter Tryz.func38, Tryz.ntmps38
    go_wp2
    go_ret
    exact ⟨ret_i (by omega), rfl⟩

set_option maxHeartbeats 400000 in
theorem c_word0 (w : World) : Calls Tryz.prog 41 #[U 0] w fun e w' => e = .returned (.slice none 0 0) ∧ w = w' := by
  go_enter Tryz.func41, Tryz.ntmps41
  go_wp2
  go_ret
  exact ⟨rfl, rfl⟩

set_option maxHeartbeats 400000 in
theorem c_word1 (x : Nat) (w : World) (hx : 0 < x) : Calls Tryz.prog 41 #[U x] w fun e w' => e = .returned (.slice (some ⟨w.heap.size, 0, none⟩) 1 1) ∧ w.alloc (.cells #[U x] 71) = w' := by
  have h : ((x : Int) == 0) = false := by rw [beq_eq_false_iff_ne]; omega
  go_enter Tryz.func41, Tryz.ntmps41
  go_wp2
  go_ret
  exact ⟨rfl, rfl⟩

set_option maxHeartbeats 400000 in
theorem c_commonWord (a b : Nat) (w : World) :
    Calls Tryz.prog 39 #[U a, U b] w fun e w' => e = .returned (U (Nat.gcd a b)) ∧ ∃ n, w' = w.drewN n := by
  go_enter Tryz.func39, Tryz.ntmps39
  go_wp2
  go_loopw [0, 1] (fun s t wr => ∃ x y : Nat, s = U x ∧ t = U y ∧ Nat.gcd x y = Nat.gcd a b ∧ ∃ n, wr = w.drewN n) (fun _ t _ => (intOf t).toNat)
  case atStart => exact ⟨a, b, rfl, rfl, rfl, 0, rfl⟩
  case round =>
    obtain ⟨x, y, rfl, rfl, hg, n, rfl⟩ := hrel
    have HG := Lib.hid hg; clear hg
    by_cases hy : y = 0
    · subst hy
      go_wp2
      go_ret
      refine ⟨ret_i ?_, n, rfl⟩
      rw [← HG.out, Nat.gcd_zero_right]
    · have h1 : ((y : Int) != 0) = true := by rw [bne_iff_ne]; omega
      have h2 : ((y : Int) == 0) = false := by rw [beq_eq_false_iff_ne]; omega
      go_wp2
      go_quiet (fail)
      go_wp2
      go_roundw
      case rel => exact ⟨y, x % y, rfl, rfl, by rw [← HG.out, Nat.gcd_comm y, ← Nat.gcd_rec, Nat.gcd_comm], n + nq, by rw [World.drewN_drewN]⟩
      case measure =>
        have := Nat.mod_lt x (Nat.pos_of_ne_zero hy)
        simp [intOf]; omega

set_option maxHeartbeats 400000 in
theorem c_at (w : World) (B : Nat) (A : Option Addr) (n c i : Nat) (g : Nat → Nat) (h : Wd w B A n g) :
    Calls Tryz.prog 90 #[.slice A n c, .int .i64 i] w fun e w' => e = .returned (U (if i < n then g i else 0)) ∧ w = w' := by
  by_cases hi : i < n
  · obtain ⟨b, o, rfl, hc⟩ := h.at_ hi
    rw [if_pos hi]
    clear h
    go_enter Tryz.func90, Tryz.ntmps90
    go_wp2
    go_ret
    exact ⟨rfl, rfl⟩
  · rw [if_neg hi]
    clear h
    go_enter Tryz.func90, Tryz.ntmps90
    go_wp2
    go_ret
    exact ⟨rfl, rfl⟩

def isOneB (x : Nat) : Bool := x == 1
set_option maxHeartbeats 400000 in
theorem c_isOne (w : World) (B : Nat) (A : Option Addr) (c x : Nat) (h : Wd w B A (nw x) (dig x)) :
    Calls Tryz.prog 44 #[.slice A (nw x) c] w fun e w' => e = .returned (.bool (isOneB x)) ∧ w = w' := by
  by_cases hi : nw x = 1
  · obtain ⟨b, o, rfl, hc⟩ := h.at_ (k := 0) (by omega)
    have hx : x < W64 := (nw_le_one x).1 (by omega)
    rw [dig_small x hx, Nat.add_zero] at hc
    rw [hi] at h ⊢
    clear h
    have HI := Lib.hid hi; clear hi
    by_cases h1 : x = 1
    · subst h1
      go_enter Tryz.func44, Tryz.ntmps44
      go_wp2
      go_ret
      exact ⟨rfl, rfl⟩
    · have h2 : ((x : Int) == 1) = false := by rw [beq_eq_false_iff_ne]; omega
      have H3 : Hid (isOneB x = false) := by show (x == 1) = false; simp [h1]
      go_enter Tryz.func44, Tryz.ntmps44
      go_wp2
      go_ret
      exact ⟨by rw [H3.out]; rfl, rfl⟩
  · have h1 : x ≠ 1 := by
      rintro rfl
      exact hi (nw_one 1 (by omega) (by decide))
    have H3 : Hid (isOneB x = false) := by show (x == 1) = false; simp [h1]
    have h2 : ((nw x : Int) == 1) = false := by rw [beq_eq_false_iff_ne]; omega
    clear h
    generalize nw x = m at *
    go_enter Tryz.func44, Tryz.ntmps44
    go_wp2
    go_ret
    exact ⟨by rw [H3.out]; rfl, rfl⟩
end Go.Proofs.YtnfncdalneifnaaGreatDoor
end

/- Comparing, cutting zeros, adding and subtracting natural numbers: what each call returns, for slices that hold the words of a number. -/
section
namespace Go.Proofs.YtnfncdalneifnaaGreatDoor
open Go.RowKit

theorem dr2 (w : World) (a b : Nat) : ∃ n, (w.drewN a).drewN b = w.drewN n := ⟨a + b, World.drewN_drewN _ _ _⟩
theorem dr3 (w : World) (a b c : Nat) : ∃ n, ((w.drewN a).drewN b).drewN c = w.drewN n := ⟨a + b + c, by rw [World.drewN_drewN, World.drewN_drewN, Nat.add_assoc]⟩

set_option maxHeartbeats 400000 in
theorem c_compare (w : World) (B : Nat) (A A' : Option Addr) (c c' x y : Nat) (h : Wd w B A (nw x) (dig x)) (h' : Wd w B A' (nw y) (dig y)) (hn : nw x ≤ 9223372036854775807) :
    Calls Tryz.prog 87 #[.slice A (nw x) c, .slice A' (nw y) c'] w fun e w' => e = .returned (.int .i64 (cmpN x y)) ∧ ∃ n, w' = w.drewN n := by
  rcases Nat.lt_trichotomy (nw x) (nw y) with hlt | heq | hgt
  · have H : Hid (cmpN x y = -1) := cmpN_lt (lt_of_nw hlt)
    have h2 : ((nw x : Int) != (nw y : Int)) = true := by rw [bne_iff_ne]; omega
    generalize nw x = m at *
    generalize nw y = m' at *
    clear h h'
    go_enter Tryz.func87, Tryz.ntmps87
    go_wp2
    go_ret
    exact ⟨by rw [H.out]; rfl, 0, rfl⟩
  · rw [← heq] at h' ⊢
    have HX : Hid (x < W64 ^ nw x) := lt_nw x
    have HY : Hid (y < W64 ^ nw x) := by show y < W64 ^ nw x; rw [heq]; exact lt_nw y
    clear heq
    generalize nw x = m at *
    have h2 : ((m : Int) != (m : Int)) = false := by simp
    go_enter Tryz.func87, Tryz.ntmps87
    go_wp2
    go_loopw [5] (fun i wr => (i = .int .i64 (-1) ∧ x = y ∧ ∃ n, wr = w.drewN n) ∨ ∃ j : Nat, j < m ∧ i = .int .i64 j ∧ x / W64 ^ (j + 1) = y / W64 ^ (j + 1) ∧ ∃ n, wr = w.drewN n) (fun i _ => (intOf i + 1).toNat)
    case atStart =>
      by_cases hm : m = 0
      · subst hm
        have := HX.out
        have := HY.out
        refine .inl ⟨by simp, ?_, 0, rfl⟩
        simp at *
        omega
      · refine .inr ⟨m - 1, by omega, by rw [show ((m - 1 : Nat) : Int) = (m : Int) - 1 by omega], ?_, 0, rfl⟩
        rw [show m - 1 + 1 = m by omega, Nat.div_eq_of_lt HX.out, Nat.div_eq_of_lt HY.out]
    case round =>
      rcases hrel with ⟨rfl, hxy, n, rfl⟩ | ⟨j, hj, rfl, hd, n, rfl⟩
      · have H : Hid (cmpN x y = 0) := by show cmpN x y = 0; rw [hxy]; exact cmpN_eq y
        clear hxy
        go_wp2
        go_ret
        exact ⟨by rw [H.out]; rfl, n, rfl⟩
      · obtain ⟨b, o, rfl, hc⟩ := h.at_ hj
        obtain ⟨b', o', rfl, hc'⟩ := h'.at_ hj
        have HD := Lib.hid hd; clear hd
        rcases Nat.lt_trichotomy (dig x j) (dig y j) with hl | he | hl
        · have H : Hid (cmpN x y = -1) := cmpN_lt (lt_of_dig x y j HD.out hl)
          generalize dig x j = u at *
          generalize dig y j = v at *
          clear h h'
          go_wp2
          go_quiet (fail)
          go_wp2
          go_ret
          exact ⟨by rw [H.out]; rfl, by first | exact ⟨_, rfl⟩ | exact dr2 _ _ _ | exact dr3 _ _ _ _⟩
        · have HE := Lib.hid (div_of_dig x y j HD.out he)
          rw [← he] at hc'
          clear he
          generalize dig x j = u at *
          clear h h'
          go_wp2
          go_quiet (fail)
          go_wp2
          go_quiet (fail)
          go_wp2
          go_roundw
          case rel =>
            by_cases hj0 : j = 0
            · subst hj0
              exact .inl ⟨by simp, by simpa using HE.out, by first | exact ⟨_, rfl⟩ | exact dr2 _ _ _ | exact dr3 _ _ _ _⟩
            · refine .inr ⟨j - 1, by omega, by rw [show ((j - 1 : Nat) : Int) = (j : Int) - 1 by omega], ?_, by first | exact ⟨_, rfl⟩ | exact dr2 _ _ _ | exact dr3 _ _ _ _⟩
              rw [show j - 1 + 1 = j by omega]
              exact HE.out
          case measure => simp [intOf]
        · have H : Hid (cmpN x y = 1) := by
            show cmpN x y = 1
            exact cmpN_gt (lt_of_dig y x j HD.out.symm hl)
          generalize dig x j = u at *
          generalize dig y j = v at *
          clear h h'
          go_wp2
          go_quiet (fail)
          go_wp2
          go_quiet (fail)
          go_wp2
          go_ret
          exact ⟨by rw [H.out]; rfl, by first | exact ⟨_, rfl⟩ | exact dr2 _ _ _ | exact dr3 _ _ _ _⟩
  · have H : Hid (cmpN x y = 1) := cmpN_gt (lt_of_nw hgt)
    have h2 : ((nw x : Int) != (nw y : Int)) = true := by rw [bne_iff_ne]; omega
    generalize nw x = m at *
    generalize nw y = m' at *
    clear h h'
    go_enter Tryz.func87, Tryz.ntmps87
    go_wp2
    go_ret
    exact ⟨by rw [H.out]; rfl, 0, rfl⟩

set_option maxHeartbeats 400000 in
theorem c_trimmed (w : World) (B : Nat) (A : Option Addr) (m c x : Nat) (h : Wd w B A m (dig x)) (hx : x < W64 ^ m) (hm : m ≤ c) (hc : c ≤ 9223372036854775807) :
    Calls Tryz.prog 83 #[.slice A m c] w fun e w' => e = .returned (.slice A (nw x) c) ∧ w = w' := by
  have HN : Hid (nw x ≤ m) := (nw_le x m).2 hx
  clear hx
  go_enter Tryz.func83, Tryz.ntmps83
  go_wp2
  go_loop [3] (fun i => ∃ k : Nat, k ≤ m ∧ nw x ≤ k ∧ i = .int .i64 k) (fun i => (intOf i).toNat)
  case atStart => exact ⟨m, Nat.le_refl _, HN.out, rfl⟩
  case round =>
    obtain ⟨k, hk, hn, rfl⟩ := hrel
    by_cases h0 : k = 0
    · subst h0
      have hn0 : nw x = 0 := by omega
      have H := Lib.hid hn0
      clear hn hn0 h
      go_wp2
      go_ret
      exact ⟨by rw [H.out]; rfl, rfl⟩
    · obtain ⟨j, rfl⟩ : ∃ j, k = j + 1 := ⟨k - 1, by omega⟩
      obtain ⟨b, o, rfl, hcell⟩ := h.at_ (k := j) (by omega)
      by_cases hd : dig x j = 0
      · have HL : Hid (nw x ≤ j) := (nw_le x j).2 (lt_pred x j ((nw_le x (j + 1)).1 hn) hd)
        rw [hd] at hcell
        clear hd hn h
        go_wp2
        go_round
        case rel => exact ⟨j, by omega, HL.out, by go_num⟩
        case measure => simp [intOf]
      · have he : nw x = j + 1 := nw_of x (j + 1) ((nw_le x (j + 1)).1 hn) (.inr (by simpa using ge_of_dig x j hd))
        have h2 : ((dig x j : Int) == 0) = false := by rw [beq_eq_false_iff_ne]; omega
        have H := Lib.hid he
        clear he hn h
        generalize dig x j = u at *
        go_wp2
        go_ret
        exact ⟨by rw [H.out]; rfl, rfl⟩
end Go.Proofs.YtnfncdalneifnaaGreatDoor
end

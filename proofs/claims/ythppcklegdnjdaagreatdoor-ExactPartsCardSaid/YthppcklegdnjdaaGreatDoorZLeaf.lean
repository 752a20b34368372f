/- The leaves of the package's natural numbers: what each call returns, for slices that hold the words of a number. -/
import Derived.Test.YthppcklegdnjdaaGreatDoorProg
import Derived.Test.YthppcklegdnjdaaGreatDoorZMath
import Derived.WalkKit
import Derived.WalkSpells
import Derived.WalkLawsBesides
import Derived.Deep.QuietTactic
import Derived.BigQuiet
import Derived.Deep.OwnRows
import Derived.Lib.Hide
namespace Go.Proofs.YthppcklegdnjdaaGreatDoor
open Go.RowKit

abbrev U (x : Nat) : Value := .int .u64 (x : Int)
def sbw (x y c : Nat) : Nat := if x < y + c then 1 else 0
theorem ret_i {k : IntKind} {a b : Int} (h : a = b) : Ending.returned (.int k a) = .returned (.int k b) := by rw [h]
theorem ret_ii {k k' : IntKind} {a b c d : Int} (h : a = b) (h' : c = d) : Ending.returned (.tuple #[.int k a, .int k' c]) = .returned (.tuple #[.int k b, .int k' d]) := by rw [h, h']

/-- A slice of n words, word k being g k; its block lies below B. -/
def Wd (w : World) (B : Nat) (A : Option Addr) (n : Nat) (g : Nat → Nat) : Prop :=
  0 < n → ∃ b o, A = some ⟨b, o, none⟩ ∧ b < B ∧ ∀ k, k < n → w.cell? ⟨b, o + k, none⟩ = some (U (g k))
theorem Wd.zero {w : World} {B : Nat} {A : Option Addr} {g : Nat → Nat} : Wd w B A 0 g := fun h => absurd h (by omega)
theorem Wd.at_ {w : World} {B : Nat} {A : Option Addr} {n k : Nat} {g : Nat → Nat} (h : Wd w B A n g) (hk : k < n) :
    ∃ b o, A = some ⟨b, o, none⟩ ∧ w.cell? ⟨b, o + k, none⟩ = some (U (g k)) := by
  obtain ⟨b, o, h1, _, h3⟩ := h (by omega)
  exact ⟨b, o, h1, h3 k hk⟩
theorem Wd.below {w w' : World} {B : Nat} {A : Option Addr} {n : Nat} {g : Nat → Nat} (h : Wd w B A n g) (hb : Below B w w') : Wd w' B A n g := fun hn => by
  obtain ⟨b, o, h1, h2, h3⟩ := h hn
  exact ⟨b, o, h1, h2, fun k hk => (hb.cell (p := ⟨b, o + k, none⟩) h2).trans (h3 k hk)⟩
theorem Wd.more {w : World} {B B' : Nat} {A : Option Addr} {n : Nat} {g : Nat → Nat} (h : Wd w B A n g) (hb : B ≤ B') : Wd w B' A n g := fun hn => by
  obtain ⟨b, o, h1, h2, h3⟩ := h hn
  exact ⟨b, o, h1, by omega, h3⟩
theorem Wd.drewN {w : World} {B : Nat} {A : Option Addr} {n : Nat} {g : Nat → Nat} (h : Wd w B A n g) (m : Nat) : Wd (w.drewN m) B A n g := h
theorem Wd.congr {w : World} {B : Nat} {A : Option Addr} {n : Nat} {g f : Nat → Nat} (h : Wd w B A n g) (e : ∀ k, k < n → g k = f k) : Wd w B A n f := fun hn => by
  obtain ⟨b, o, h1, h2, h3⟩ := h hn
  exact ⟨b, o, h1, h2, fun k hk => by rw [h3 k hk, e k hk]⟩
theorem Wd.take {w : World} {B : Nat} {A : Option Addr} {n m : Nat} {g : Nat → Nat} (h : Wd w B A n g) (e : m ≤ n) : Wd w B A m g := fun hn => by
  obtain ⟨b, o, h1, h2, h3⟩ := h (by omega)
  exact ⟨b, o, h1, h2, fun k hk => h3 k (by omega)⟩
theorem Wd.row {w : World} {b t n : Nat} {f : Nat → Value} {g : Nat → Nat} (h : w.rowIs b t n f) (e : ∀ k, k < n → f k = U (g k)) : Wd w w.heap.size (some ⟨b, 0, none⟩) n g := fun _ =>
  ⟨b, 0, rfl, h.lt, fun k hk => by rw [Nat.zero_add, h.cell hk, e k hk]⟩

set_option maxHeartbeats 400000 in
theorem c_addWords (x y c : Nat) (w : World) (hx : x < W64) (hy : y < W64) (hc : c ≤ 1) :
    Calls Tryz.prog 97 #[U x, U y, U c] w fun e w' => e = .returned (.tuple #[U ((x + y + c) % W64), U ((x + y + c) / W64)]) ∧ w = w' := by
  unfold W64 at *
  go_enter Tryz.func97, Tryz.ntmps97
  go_wp2
  all_goals (go_ret2; refine ⟨ret_ii ?_ ?_, rfl⟩ <;> (simp only [IntKind.wrap_u64] at *; omega))

set_option maxHeartbeats 400000 in
theorem c_subWords (x y c : Nat) (w : World) (hx : x < W64) (hy : y < W64) (hc : c ≤ 1) :
    Calls Tryz.prog 159 #[U x, U y, U c] w fun e w' => e = .returned (.tuple #[U ((x + 2 * W64 - y - c) % W64), U (sbw x y c)]) ∧ w = w' := by
  unfold W64 at *
  go_enter Tryz.func159, Tryz.ntmps159
  go_wp2
  all_goals (go_ret2; refine ⟨ret_ii ?_ ?_, rfl⟩ <;> (simp only [IntKind.wrap_u64] at *; first | omega | (unfold sbw; split <;> omega)))

theorem nat_abs_u64 (n : Int) (h0 : -9223372036854775808 ≤ n) (h1 : n < 0) : IntKind.u64.wrap (-IntKind.u64.wrap n) = (n.natAbs : Int) := by
  simp only [IntKind.wrap_u64]; omega
set_option maxHeartbeats 400000 in
theorem c_absolute (n : Int) (w : World) (h0 : -9223372036854775808 ≤ n) (h1 : n ≤ 9223372036854775807) :
    Calls Tryz.prog 56 #[.int .i64 n] w fun e w' => e = .returned (U n.natAbs) ∧ w = w' := by
  by_cases h : n < 0
  · go_enter Tryz.func56, Tryz.ntmps56
    go_wp2
    go_ret
    exact ⟨ret_i (nat_abs_u64 n h0 h), rfl⟩
  · go_enter Tryz.func56, Tryz.ntmps56
    go_wp2
    go_ret
    exact ⟨ret_i (by omega), rfl⟩

set_option maxHeartbeats 400000 in
theorem c_word0 (w : World) : Calls Tryz.prog 47 #[U 0] w fun e w' => e = .returned (.slice none 0 0) ∧ w = w' := by
  go_enter Tryz.func47, Tryz.ntmps47
  go_wp2
  go_ret
  exact ⟨rfl, rfl⟩

set_option maxHeartbeats 400000 in
theorem c_word1 (x : Nat) (w : World) (hx : 0 < x) : Calls Tryz.prog 47 #[U x] w fun e w' => e = .returned (.slice (some ⟨w.heap.size, 0, none⟩) 1 1) ∧ w.alloc (.cells #[U x] 81) = w' := by
  have h : ((x : Int) == 0) = false := by rw [beq_eq_false_iff_ne]; omega
  go_enter Tryz.func47, Tryz.ntmps47
  go_wp2
  go_ret
  exact ⟨rfl, rfl⟩

set_option maxHeartbeats 400000 in
theorem c_commonWord (a b : Nat) (w : World) :
    Calls Tryz.prog 57 #[U a, U b] w fun e w' => e = .returned (U (Nat.gcd a b)) ∧ ∃ n, w' = w.drewN n := by
  go_enter Tryz.func57, Tryz.ntmps57
  go_wp2
  go_loopw [0, 1] (fun s t wr => ∃ x y : Nat, s = U x ∧ t = U y ∧ Nat.gcd x y = Nat.gcd a b ∧ ∃ n, wr = w.drewN n) (fun _ t _ => (intOf t).toNat)
  case atStart => exact ⟨a, b, rfl, rfl, rfl, 0, rfl⟩
  case round =>
    obtain ⟨x, y, rfl, rfl, hg, n, rfl⟩ := hrel
    have HG := Lib.hid hg; clear hg
    by_cases hy : y = 0
    · subst hy
      go_wp2
      go_ret
      refine ⟨ret_i ?_, n, rfl⟩
      rw [← HG.out, Nat.gcd_zero_right]
    · have h1 : ((y : Int) != 0) = true := by rw [bne_iff_ne]; omega
      have h2 : ((y : Int) == 0) = false := by rw [beq_eq_false_iff_ne]; omega
      go_wp2
      go_quiet (fail)
      go_wp2
      go_roundw
      case rel => exact ⟨y, x % y, rfl, rfl, by rw [← HG.out, Nat.gcd_comm y, ← Nat.gcd_rec, Nat.gcd_comm], n + nq, by rw [World.drewN_drewN]⟩
      case measure =>
        have := Nat.mod_lt x (Nat.pos_of_ne_zero hy)
        simp [intOf]; omega

set_option maxHeartbeats 400000 in
theorem c_at (w : World) (B : Nat) (A : Option Addr) (n c i : Nat) (g : Nat → Nat) (h : Wd w B A n g) :
    Calls Tryz.prog 73 #[.slice A n c, .int .i64 i] w fun e w' => e = .returned (U (if i < n then g i else 0)) ∧ w = w' := by
  by_cases hi : i < n
  · obtain ⟨b, o, rfl, hc⟩ := h.at_ hi
    rw [if_pos hi]
    clear h
    go_enter Tryz.func73, Tryz.ntmps73
    go_wp2
    go_ret
    exact ⟨rfl, rfl⟩
  · rw [if_neg hi]
    clear h
    go_enter Tryz.func73, Tryz.ntmps73
    go_wp2
    go_ret
    exact ⟨rfl, rfl⟩

def isOneB (x : Nat) : Bool := x == 1
set_option maxHeartbeats 400000 in
theorem c_isOne (w : World) (B : Nat) (A : Option Addr) (c x : Nat) (h : Wd w B A (nw x) (dig x)) :
    Calls Tryz.prog 36 #[.slice A (nw x) c] w fun e w' => e = .returned (.bool (isOneB x)) ∧ w = w' := by
  by_cases hi : nw x = 1
  · obtain ⟨b, o, rfl, hc⟩ := h.at_ (k := 0) (by omega)
    have hx : x < W64 := (nw_le_one x).1 (by omega)
    rw [dig_small x hx, Nat.add_zero] at hc
    rw [hi] at h ⊢
    clear h
    have HI := Lib.hid hi; clear hi
    by_cases h1 : x = 1
    · subst h1
      go_enter Tryz.func36, Tryz.ntmps36
      go_wp2
      go_ret
      exact ⟨rfl, rfl⟩
    · have h2 : ((x : Int) == 1) = false := by rw [beq_eq_false_iff_ne]; omega
      have H3 : Hid (isOneB x = false) := by show (x == 1) = false; simp [h1]
      go_enter Tryz.func36, Tryz.ntmps36
      go_wp2
      go_ret
      exact ⟨by rw [H3.out]; rfl, rfl⟩
  · have h1 : x ≠ 1 := by
      rintro rfl
      exact hi (nw_one 1 (by omega) (by decide))
    have H3 : Hid (isOneB x = false) := by show (x == 1) = false; simp [h1]
    have h2 : ((nw x : Int) == 1) = false := by rw [beq_eq_false_iff_ne]; omega
    clear h
    generalize nw x = m at *
    go_enter Tryz.func36, Tryz.ntmps36
    go_wp2
    go_ret
    exact ⟨by rw [H3.out]; rfl, rfl⟩
end Go.Proofs.YthppcklegdnjdaaGreatDoor

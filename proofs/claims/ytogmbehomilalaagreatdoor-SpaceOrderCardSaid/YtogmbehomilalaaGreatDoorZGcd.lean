/- Plain numbers: words of 64 bits, their values, and how many of them a natural number has. No condition. -/
import Derived.Test.YtogmbehomilalaaGreatDoorProg
import Derived.WalkKit
import Derived.WalkSpells
import Derived.WalkLawsBesides
import Derived.Deep.QuietTactic
import Derived.BigQuiet
import Derived.Deep.OwnRows
import Derived.Lib.Hide
import Derived.Deep.Heap
import Derived.Test.YtogmbehomilalaaGreatDoorShelf
import Derived.Deep.RegionWith
import Derived.StillTailTactics

/- Plain numbers: words of 64 bits, their values, and how many of them a natural number has. No condition. -/
section
namespace Go.Proofs.YtogmbehomilalaaGreatDoor

def W64 : Nat := 18446744073709551616
theorem W64_pos : 0 < W64 := by decide
theorem W64_pow_pos (k : Nat) : 0 < W64 ^ k := Nat.pow_pos W64_pos

/-- The word number k of x. -/
def dig (x k : Nat) : Nat := x / W64 ^ k % W64
/-- How many words x has. -/
def nw (x : Nat) : Nat := if x = 0 then 0 else nw (x / W64) + 1
termination_by x
decreasing_by exact Nat.div_lt_self (by omega) (by decide)

theorem dig_lt (x k : Nat) : dig x k < W64 := Nat.mod_lt _ W64_pos
theorem nw_zero : nw 0 = 0 := by rw [nw]; rfl
theorem nw_step (x : Nat) (h : x ≠ 0) : nw x = nw (x / W64) + 1 := by rw [nw, if_neg h]
theorem nw_le (x n : Nat) : nw x ≤ n ↔ x < W64 ^ n := by
  induction n generalizing x with
  | zero =>
    by_cases h : x = 0
    · subst h; simp [nw_zero]
    · rw [nw_step x h]; simp; omega
  | succ n ih =>
    by_cases h : x = 0
    · subst h; simp [nw_zero]; exact W64_pow_pos _
    · rw [nw_step x h, Nat.add_le_add_iff_right, ih, Nat.pow_succ, Nat.div_lt_iff_lt_mul W64_pos]
theorem lt_nw (x : Nat) : x < W64 ^ nw x := (nw_le x _).1 (Nat.le_refl _)
theorem nw_of (x n : Nat) (h1 : x < W64 ^ n) (h2 : n = 0 ∨ W64 ^ (n - 1) ≤ x) : nw x = n := by
  have a := (nw_le x n).2 h1
  rcases h2 with h2 | h2
  · omega
  · have b : ¬ nw x ≤ n - 1 := by rw [nw_le]; omega
    omega
theorem nw_eq_zero (x : Nat) : nw x = 0 ↔ x = 0 := by
  have := nw_le x 0
  simp at this
  omega
theorem nw_pos (x : Nat) : 0 < nw x ↔ 0 < x := by have := nw_eq_zero x; omega
theorem nw_mono {x y : Nat} (h : x ≤ y) : nw x ≤ nw y := (nw_le x _).2 (Nat.lt_of_le_of_lt h (lt_nw y))
theorem dig_ge (x n k : Nat) (h : x < W64 ^ n) (hk : n ≤ k) : dig x k = 0 := by
  unfold dig
  have : W64 ^ n ≤ W64 ^ k := Nat.pow_le_pow_right W64_pos hk
  rw [Nat.div_eq_of_lt (by omega), Nat.zero_mod]
/-- x has fewer than n words if the last of n is 0. -/
theorem lt_pred (x n : Nat) (h : x < W64 ^ (n + 1)) (h0 : dig x n = 0) : x < W64 ^ n := by
  unfold dig at h0
  rw [Nat.pow_succ] at h
  have h3 : x / W64 ^ n < W64 := by rw [Nat.div_lt_iff_lt_mul (W64_pow_pos _), Nat.mul_comm]; exact h
  rw [Nat.mod_eq_of_lt h3] at h0
  rcases Nat.lt_or_ge x (W64 ^ n) with h4 | h4
  · exact h4
  · have := Nat.div_pos h4 (W64_pow_pos n); omega
theorem ge_of_dig (x n : Nat) (h0 : dig x n ≠ 0) : W64 ^ n ≤ x := by
  rcases Nat.lt_or_ge x (W64 ^ n) with h4 | h4
  · exact absurd (dig_ge x n n h4 (Nat.le_refl _)) h0
  · exact h4
theorem dig_zero (x : Nat) : dig x 0 = x % W64 := by simp [dig]
theorem dig_small (x : Nat) (h : x < W64) : dig x 0 = x := by rw [dig_zero, Nat.mod_eq_of_lt h]
theorem nw_one (x : Nat) (h0 : 0 < x) (h : x < W64) : nw x = 1 := nw_of x 1 (by simpa using h) (.inr (by simp; omega))
theorem nw_le_one (x : Nat) : nw x ≤ 1 ↔ x < W64 := by rw [nw_le, Nat.pow_one]
/-- The digits above agree: comparing by the next one. -/
theorem div_step (x n : Nat) : x / W64 ^ n = x / W64 ^ (n + 1) * W64 + dig x n := by
  unfold dig
  rw [Nat.pow_succ, ← Nat.div_div_eq_div_mul, Nat.mul_comm, Nat.div_add_mod]
end Go.Proofs.YtogmbehomilalaaGreatDoor
end

/- The leaves of the package's natural numbers: what each call returns, for slices that hold the words of a number. -/
section
namespace Go.Proofs.YtogmbehomilalaaGreatDoor
open Go.RowKit

abbrev U (x : Nat) : Value := .int .u64 (x : Int)
theorem ret_i {k : IntKind} {a b : Int} (h : a = b) : Ending.returned (.int k a) = .returned (.int k b) := by rw [h]
theorem ret_ii {k k' : IntKind} {a b c d : Int} (h : a = b) (h' : c = d) : Ending.returned (.tuple #[.int k a, .int k' c]) = .returned (.tuple #[.int k b, .int k' d]) := by rw [h, h']

/-- A slice of n words, word k being g k; its block lies below B. -/
def Wd (w : World) (B : Nat) (A : Option Addr) (n : Nat) (g : Nat → Nat) : Prop :=
  0 < n → ∃ b o, A = some ⟨b, o, none⟩ ∧ b < B ∧ ∀ k, k < n → w.cell? ⟨b, o + k, none⟩ = some (U (g k))
theorem Wd.zero {w : World} {B : Nat} {A : Option Addr} {g : Nat → Nat} : Wd w B A 0 g := fun h => absurd h (by omega)
theorem Wd.at_ {w : World} {B : Nat} {A : Option Addr} {n k : Nat} {g : Nat → Nat} (h : Wd w B A n g) (hk : k < n) :
    ∃ b o, A = some ⟨b, o, none⟩ ∧ w.cell? ⟨b, o + k, none⟩ = some (U (g k)) := by
  obtain ⟨b, o, h1, _, h3⟩ := h (by omega)
  exact ⟨b, o, h1, h3 k hk⟩
theorem Wd.below {w w' : World} {B : Nat} {A : Option Addr} {n : Nat} {g : Nat → Nat} (h : Wd w B A n g) (hb : Below B w w') : Wd w' B A n g := fun hn => by
  obtain ⟨b, o, h1, h2, h3⟩ := h hn
  exact ⟨b, o, h1, h2, fun k hk => (hb.cell (p := ⟨b, o + k, none⟩) h2).trans (h3 k hk)⟩
theorem Wd.more {w : World} {B B' : Nat} {A : Option Addr} {n : Nat} {g : Nat → Nat} (h : Wd w B A n g) (hb : B ≤ B') : Wd w B' A n g := fun hn => by
  obtain ⟨b, o, h1, h2, h3⟩ := h hn
  exact ⟨b, o, h1, by omega, h3⟩
theorem Wd.drewN {w : World} {B : Nat} {A : Option Addr} {n : Nat} {g : Nat → Nat} (h : Wd w B A n g) (m : Nat) : Wd (w.drewN m) B A n g := h
theorem Wd.congr {w : World} {B : Nat} {A : Option Addr} {n : Nat} {g f : Nat → Nat} (h : Wd w B A n g) (e : ∀ k, k < n → g k = f k) : Wd w B A n f := fun hn => by
  obtain ⟨b, o, h1, h2, h3⟩ := h hn
  exact ⟨b, o, h1, h2, fun k hk => by rw [h3 k hk, e k hk]⟩
theorem Wd.take {w : World} {B : Nat} {A : Option Addr} {n m : Nat} {g : Nat → Nat} (h : Wd w B A n g) (e : m ≤ n) : Wd w B A m g := fun hn => by
  obtain ⟨b, o, h1, h2, h3⟩ := h (by omega)
  exact ⟨b, o, h1, h2, fun k hk => h3 k (by omega)⟩
theorem Wd.row {w : World} {b t n : Nat} {f : Nat → Value} {g : Nat → Nat} (h : w.rowIs b t n f) (e : ∀ k, k < n → f k = U (g k)) : Wd w w.heap.size (some ⟨b, 0, none⟩) n g := fun _ =>
  ⟨b, 0, rfl, h.lt, fun k hk => by rw [Nat.zero_add, h.cell hk, e k hk]⟩

theorem nat_abs_u64 (n : Int) (h0 : -9223372036854775808 ≤ n) (h1 : n < 0) : IntKind.u64.wrap (-IntKind.u64.wrap n) = (n.natAbs : Int) := by
  simp only [IntKind.wrap_u64]; omega
set_option maxHeartbeats 400000 in
theorem c_absolute (n : Int) (w : World) (h0 : -9223372036854775808 ≤ n) (h1 : n ≤ 9223372036854775807) :
    Calls Tryz.prog 165 #[.int .i64 n] w fun e w' => e = .returned (U n.natAbs) ∧ w = w' := by
  by_cases h : n < 0
  · go_enter Tryz.func165, Tryz.ntmps165
    go_wp2
    go_ret
    exact ⟨ret_i (nat_abs_u64 n h0 h), rfl⟩
  · go_enter Tryz.func165, Tryz.ntmps165
    go_wp2
    go_ret
    exact ⟨ret_i (by omega), rfl⟩

set_option maxHeartbeats 400000 in
theorem c_word0 (w : World) : Calls Tryz.prog 164 #[U 0] w fun e w' => e = .returned (.slice none 0 0) ∧ w = w' := by
  go_enter Tryz.func164, Tryz.ntmps164
  go_wp2
  go_ret
  exact ⟨rfl, rfl⟩

set_option maxHeartbeats 400000 in
theorem c_word1 (x : Nat) (w : World) (hx : 0 < x) : Calls Tryz.prog 164 #[U x] w fun e w' => e = .returned (.slice (some ⟨w.heap.size, 0, none⟩) 1 1) ∧ w.alloc (.cells #[U x] 89) = w' := by
  have h : ((x : Int) == 0) = false := by rw [beq_eq_false_iff_ne]; omega
  go_enter Tryz.func164, Tryz.ntmps164
  go_wp2
  go_ret
  exact ⟨rfl, rfl⟩

set_option maxHeartbeats 400000 in
theorem c_commonWord (a b : Nat) (w : World) :
    Calls Tryz.prog 172 #[U a, U b] w fun e w' => e = .returned (U (Nat.gcd a b)) ∧ ∃ n, w' = w.drewN n := by
  go_enter Tryz.func172, Tryz.ntmps172
  go_wp2
  go_loopw [0, 1] (fun s t wr => ∃ x y : Nat, s = U x ∧ t = U y ∧ Nat.gcd x y = Nat.gcd a b ∧ ∃ n, wr = w.drewN n) (fun _ t _ => (intOf t).toNat)
  case atStart => exact ⟨a, b, rfl, rfl, rfl, 0, rfl⟩
  case round =>
    obtain ⟨x, y, rfl, rfl, hg, n, rfl⟩ := hrel
    have HG := Lib.hid hg; clear hg
    by_cases hy : y = 0
    · subst hy
      go_wp2
      go_ret
      refine ⟨ret_i ?_, n, rfl⟩
      rw [← HG.out, Nat.gcd_zero_right]
    · have h1 : ((y : Int) != 0) = true := by rw [bne_iff_ne]; omega
      have h2 : ((y : Int) == 0) = false := by rw [beq_eq_false_iff_ne]; omega
      go_wp2
      go_quiet (fail)
      go_wp2
      go_roundw
      case rel => exact ⟨y, x % y, rfl, rfl, by rw [← HG.out, Nat.gcd_comm y, ← Nat.gcd_rec, Nat.gcd_comm], n + nq, by rw [World.drewN_drewN]⟩
      case measure =>
        have := Nat.mod_lt x (Nat.pos_of_ne_zero hy)
        simp [intOf]; omega

def isOneB (x : Nat) : Bool := x == 1
set_option maxHeartbeats 400000 in
theorem c_isOne (w : World) (B : Nat) (A : Option Addr) (c x : Nat) (h : Wd w B A (nw x) (dig x)) :
    Calls Tryz.prog 168 #[.slice A (nw x) c] w fun e w' => e = .returned (.bool (isOneB x)) ∧ w = w' := by
  by_cases hi : nw x = 1
  · obtain ⟨b, o, rfl, hc⟩ := h.at_ (k := 0) (by omega)
    have hx : x < W64 := (nw_le_one x).1 (by omega)
    rw [dig_small x hx, Nat.add_zero] at hc
    rw [hi] at h ⊢
    clear h
    have HI := Lib.hid hi; clear hi
    by_cases h1 : x = 1
    · subst h1
      go_enter Tryz.func168, Tryz.ntmps168
      go_wp2
      go_ret
      exact ⟨rfl, rfl⟩
    · have h2 : ((x : Int) == 1) = false := by rw [beq_eq_false_iff_ne]; omega
      have H3 : Hid (isOneB x = false) := by show (x == 1) = false; simp [h1]
      go_enter Tryz.func168, Tryz.ntmps168
      go_wp2
      go_ret
      exact ⟨by rw [H3.out]; rfl, rfl⟩
  · have h1 : x ≠ 1 := by
      rintro rfl
      exact hi (nw_one 1 (by omega) (by decide))
    have H3 : Hid (isOneB x = false) := by show (x == 1) = false; simp [h1]
    have h2 : ((nw x : Int) == 1) = false := by rw [beq_eq_false_iff_ne]; omega
    clear h
    generalize nw x = m at *
    go_enter Tryz.func168, Tryz.ntmps168
    go_wp2
    go_ret
    exact ⟨by rw [H3.out]; rfl, rfl⟩
end Go.Proofs.YtogmbehomilalaaGreatDoor
end

/- Comparing, cutting zeros, adding and subtracting natural numbers: what each call returns, for slices that hold the words of a number. -/
section
namespace Go.Proofs.YtogmbehomilalaaGreatDoor
open Go.RowKit

theorem dr2 (w : World) (a b : Nat) : ∃ n, (w.drewN a).drewN b = w.drewN n := ⟨a + b, World.drewN_drewN _ _ _⟩
set_option maxHeartbeats 400000 in
theorem c_trimmed (w : World) (B : Nat) (A : Option Addr) (m c x : Nat) (h : Wd w B A m (dig x)) (hx : x < W64 ^ m) (hm : m ≤ c) (hc : c ≤ 9223372036854775807) :
    Calls Tryz.prog 188 #[.slice A m c] w fun e w' => e = .returned (.slice A (nw x) c) ∧ w = w' := by
  have HN : Hid (nw x ≤ m) := (nw_le x m).2 hx
  clear hx
  go_enter Tryz.func188, Tryz.ntmps188
  go_wp2
  go_loop [3] (fun i => ∃ k : Nat, k ≤ m ∧ nw x ≤ k ∧ i = .int .i64 k) (fun i => (intOf i).toNat)
  case atStart => exact ⟨m, Nat.le_refl _, HN.out, rfl⟩
  case round =>
    obtain ⟨k, hk, hn, rfl⟩ := hrel
    by_cases h0 : k = 0
    · subst h0
      have hn0 : nw x = 0 := by omega
      have H := Lib.hid hn0
      clear hn hn0 h
      go_wp2
      go_ret
      exact ⟨by rw [H.out]; rfl, rfl⟩
    · obtain ⟨j, rfl⟩ : ∃ j, k = j + 1 := ⟨k - 1, by omega⟩
      obtain ⟨b, o, rfl, hcell⟩ := h.at_ (k := j) (by omega)
      by_cases hd : dig x j = 0
      · have HL : Hid (nw x ≤ j) := (nw_le x j).2 (lt_pred x j ((nw_le x (j + 1)).1 hn) hd)
        rw [hd] at hcell
        clear hd hn h
        go_wp2
        go_round
        case rel => exact ⟨j, by omega, HL.out, by go_num⟩
        case measure => simp [intOf]
      · have he : nw x = j + 1 := nw_of x (j + 1) ((nw_le x (j + 1)).1 hn) (.inr (by simpa using ge_of_dig x j hd))
        have h2 : ((dig x j : Int) == 0) = false := by rw [beq_eq_false_iff_ne]; omega
        have H := Lib.hid he
        clear he hn h
        generalize dig x j = u at *
        go_wp2
        go_ret
        exact ⟨by rw [H.out]; rfl, rfl⟩
end Go.Proofs.YtogmbehomilalaaGreatDoor
end

/- Plain numbers: the steps of carrying. No condition. -/
section
namespace Go.Proofs.YtogmbehomilalaaGreatDoor
end Go.Proofs.YtogmbehomilalaaGreatDoor
end

/- Adding natural numbers: what the call returns, for slices that hold the words of a number. -/
section
namespace Go.Proofs.YtogmbehomilalaaGreatDoor
open Go.RowKit Go.Deep

theorem info_u64 : (Tryz.prog.info? 89).map (fun i => (i.zero, i.size, i.bytes)) = some (some (.int .u64 0), 1, 8) := by kernel_rfl

end Go.Proofs.YtogmbehomilalaaGreatDoor
end

/- Multiplying natural numbers: what each call returns, for slices that hold the words of a number. -/
section
namespace Go.Proofs.YtogmbehomilalaaGreatDoor
open Go.RowKit Go.Deep

end Go.Proofs.YtogmbehomilalaaGreatDoor
end

/- Multiplying and subtracting natural numbers: what each call returns, for slices that hold the words of a number. -/
section
namespace Go.Proofs.YtogmbehomilalaaGreatDoor
open Go.RowKit Go.Deep

end Go.Proofs.YtogmbehomilalaaGreatDoor
end

/- Dividing natural numbers by one word: what each call returns, for slices that hold the words of a number. -/
section
namespace Go.Proofs.YtogmbehomilalaaGreatDoor
open Go.RowKit Go.Deep

theorem add_mk (b o j : Nat) : (⟨b, o, none⟩ : Addr).add j = ⟨b, o + j, none⟩ := by unfold Addr.add; split <;> simp_all

set_option maxRecDepth 100000 in
set_option maxHeartbeats 1000000 in
theorem c_Clone (w : World) (B : Nat) (A : Option Addr) (n c : Nat) (g : Nat → Nat) (h : Wd w B A n g) (hB : B ≤ w.heap.size) (hn : 0 < n) (hm : n ≤ 1000000000) :
    Calls Tryz.prog 185 #[.slice A n c] w fun e w' => ∃ (b cap : Nat) (F : Nat → Value), e = .returned (.slice (some ⟨b, 0, none⟩) n cap) ∧ w.heap.size ≤ b ∧ n ≤ cap ∧ cap ≤ 9223372036854775807 ∧
      w'.rowIs b 89 cap F ∧ (∀ j, j < n → F j = U (g j)) ∧ Below w.heap.size w w' := by
  obtain ⟨b, o, rfl, hb, hc⟩ := h hn
  clear h
  have HC := Lib.hid hc
  clear hc
  obtain ⟨i0, hi0, hz0, hz1, hz2⟩ := info_parts info_u64
  have HI := Lib.hid hi0
  have HZ0 := Lib.hid hz0
  have HZ1 := Lib.hid hz1
  have HZ2 := Lib.hid hz2
  clear hi0 hz0 hz1 hz2
  have hnil := fun W => Lib.run_eql_slice_nil (P := Tryz.prog) W 209 89 (some ⟨b, o, none⟩) n c 0 0 Tryz.underlying209
  go_enter Tryz.func185, Tryz.ntmps185
  have HN1 : Hid (((List.range n).map fun j => U (g j)).length = n * 1) := by show _ = _; simp
  have HN2 : Hid (∀ (j : Nat) (u : Value), ((List.range n).map fun j => U (g j))[j]? = some u → (w.alloc (.cells #[] 89)).cell? ((⟨b, o, none⟩ : Addr).add j) = some u) := by
    intro j u hu
    have hj : j < n := by
      rcases Nat.lt_or_ge j n with h1 | h1
      · exact h1
      · rw [List.getElem?_eq_none (by simpa using h1)] at hu; cases hu
    rw [add_mk, World.cell?_alloc_lt _ _ _ (by show b < _; omega), HC.out j hj]
    simpa [hj] using hu
  have HN3 : Hid (∀ u ∈ (List.range n).map fun j => U (g j), u.oneCell' = true) := by
    intro u hu
    obtain ⟨j, _, rfl⟩ := List.mem_map.1 hu
    rfl
  have HN4 : Hid (0 + n ≤ maxLen) := by show _ ≤ _; unfold maxLen; omega
  have HN5 : Hid ((0 + n) * 8 ≤ 140737488355328) := by show _ ≤ _; omega
  go_wp2_with (at_builtin; refine wpList_append_own _ rfl (.tmp 5) (.tmp 6) _ rfl w.heap.size 89 i0 (.int .u64 0) 1 8 Tryz.underlying209 HI.out HZ0.out HZ1.out HZ2.out rfl (Nat.zero_lt_one) (.slice (some ⟨w.heap.size, 0, none⟩) 0 0) 0 [] rfl (World.ownsRow_lit w #[] 0 (Nat.le_refl _) (Nat.zero_le _) rfl) ⟨b, o, none⟩ n c ((List.range n).map fun j => U (g j)) rfl HN1.out HN2.out HN3.out HN4.out HN5.out (by simp) ?_; intro v' w1 hown hgrow _)
  have HO := Lib.hid hown
  clear hown
  go_ret
  have hown := HO.out
  have hb1 : Below w.heap.size w w1 := ((Below.refl _ _).alloc (Nat.le_refl _) _).grown hgrow (by simp) (fun k hk => by simp [Value.ownBlock] at hk; omega)
  rw [Nat.zero_add, List.nil_append] at hown
  rcases hown.2 with ⟨_, h0⟩ | ⟨g1, cap, cur, rfl, hge, hh, hnc, hcm, hcur, htake⟩
  · omega
  · refine ⟨g1, cap, fun j => cur.getD j undef, rfl, hge, hnc, by simpa [maxLen] using hcm, ⟨cur, hh, by omega, fun i hi => ?_⟩, fun j hj => ?_, hb1⟩
    · show cur[i]? = some (cur.getD i undef)
      rw [Array.getElem?_eq_getElem (by omega), Array.getD_eq_getD_getElem?, Array.getElem?_eq_getElem (by omega)]; rfl
    · have h9 : (cur.toList.take (n * 1))[j]? = some (U (g j)) := by rw [htake]; simp [hj]
      rw [List.getElem?_take_of_lt (by omega), Array.getElem?_toList] at h9
      show cur.getD j undef = _
      rw [Array.getD_eq_getD_getElem?, h9]; rfl

theorem Below.drewN_ {B : Nat} {a w : World} (h : Below B a w) (n : Nat) : Below B a (w.drewN n) := ⟨h.os, h.tape, h.output, h.size, h.block⟩
/-- What Div64 is asked to return. -/
def DivSays (hi lo y : Nat) : Prop := ∀ w : World, Calls Tryz.prog 203 #[U hi, U lo, U y] w fun e w' => e = .returned (.tuple #[U ((hi * W64 + lo) / y), U ((hi * W64 + lo) % y)]) ∧ ∃ n, w' = w.drewN n

set_option maxHeartbeats 400000 in
theorem div_small (lo y : Nat) (hlo : lo < W64) (hy : 0 < y) : DivSays 0 lo y := by
  intro w
  have h1 : ((y : Int) == 0) = false := by rw [beq_eq_false_iff_ne]; omega
  have h2 : decide ((y : Int) ≤ 0) = false := by simp; omega
  go_enter Tryz.func203, Tryz.ntmps203
  go_wp2
  go_quiet (fail)
  go_wp2
  go_ret2
  refine ⟨ret_ii ?_ ?_, by first | exact ⟨_, rfl⟩ | exact dr2 _ _ _⟩
  · rw [Nat.zero_mul, Nat.zero_add, IntKind.wrap_u64]
    have a1 : (lo : Int) / (y : Int) ≤ lo := Int.ediv_le_self _ (by omega)
    have a2 : 0 ≤ (lo : Int) / (y : Int) := Int.ediv_nonneg (by omega) (by omega)
    have a3 : ((lo / y : Nat) : Int) = (lo : Int) / (y : Int) := by push_cast; rfl
    unfold W64 at hlo
    rw [a3]
    omega
  · rw [Nat.zero_mul, Nat.zero_add]; simp

theorem div_step_in (x y k : Nat) (hy : 0 < y) : (x / W64 ^ (k + 1) % y * W64 + dig x k) / y = dig (x / y) k ∧ (x / W64 ^ (k + 1) % y * W64 + dig x k) % y = x / W64 ^ k % y := by
  have e := div_step x k
  have e1 : x / y / W64 ^ k = x / W64 ^ k / y := by rw [Nat.div_div_eq_div_mul, Nat.div_div_eq_div_mul, Nat.mul_comm]
  have hd := dig_lt x k
  have key : x / W64 ^ k = x / W64 ^ (k + 1) / y * W64 * y + (x / W64 ^ (k + 1) % y * W64 + dig x k) := by
    rw [e]
    have h3 := Nat.div_add_mod (x / W64 ^ (k + 1)) y
    generalize x / W64 ^ (k + 1) = X at *
    generalize dig x k = d at *
    generalize hq : X / y = q at *
    generalize hr : X % y = r at *
    generalize W64 = W at *
    rw [← h3]
    grind
  generalize hs : x / W64 ^ (k + 1) % y * W64 + dig x k = s at *
  have hlt : s / y < W64 := by
    rw [Nat.div_lt_iff_lt_mul hy, ← hs]
    have h4 : x / W64 ^ (k + 1) % y < y := Nat.mod_lt _ hy
    have h5 : (x / W64 ^ (k + 1) % y) * W64 ≤ (y - 1) * W64 := Nat.mul_le_mul_right _ (by omega)
    have h6 : (y - 1) * W64 + W64 = W64 * y := by rw [Nat.mul_comm W64 y, ← Nat.succ_mul]; congr 1; omega
    omega
  constructor
  · unfold dig
    rw [e1, key, Nat.add_comm, Nat.add_mul_div_right _ _ hy, Nat.add_mul_mod_self_right, Nat.mod_eq_of_lt hlt]
  · rw [key, Nat.add_comm, Nat.add_mul_mod_self_right]

/-- The divisions that dividing x by y asks for. -/
def DivAll (x y n : Nat) : Prop := ∀ k, k < n → DivSays (x / W64 ^ (k + 1) % y) (dig x k) y
def updV (F : Nat → Value) (k : Nat) (v : Value) (j : Nat) : Value := if j = k then v else F j

end Go.Proofs.YtogmbehomilalaaGreatDoor
end

/- Greatest common divisors of natural numbers one of which is a word: what each call returns, said of values that hold a number. -/
section
namespace Go.Proofs.YtogmbehomilalaaGreatDoor
open Go.RowKit Go.Deep

/-- The value v is a slice that holds the words of x. -/
def NatAt (w : World) (v : Value) (x : Nat) : Prop := ∃ A c, v = .slice A (nw x) c ∧ nw x ≤ c ∧ c ≤ 9223372036854775807 ∧ Wd w w.heap.size A (nw x) (dig x)
theorem NatAt.below {w w' : World} {v : Value} {x : Nat} (h : NatAt w v x) (hb : Below w.heap.size w w') : NatAt w' v x := by
  obtain ⟨A, c, e, h1, h2, h3⟩ := h
  exact ⟨A, c, e, h1, h2, (h3.below hb).more hb.size⟩
theorem NatAt.drewN {w : World} {v : Value} {x : Nat} (h : NatAt w v x) (n : Nat) : NatAt (w.drewN n) v x := h
theorem NatAt.zero (w : World) : NatAt w (.slice none 0 0) 0 := ⟨none, 0, by rw [nw_zero], by rw [nw_zero]; omega, by omega, by rw [nw_zero]; exact Wd.zero⟩
theorem NatAt.one (w : World) (x : Nat) (h0 : 0 < x) (h1 : x < W64) : NatAt (w.alloc (.cells #[U x] 89)) (.slice (some ⟨w.heap.size, 0, none⟩) 1 1) x := by
  refine ⟨_, 1, by rw [nw_one x h0 h1], by rw [nw_one x h0 h1]; omega, by omega, ?_⟩
  rw [nw_one x h0 h1]
  intro _
  refine ⟨_, 0, rfl, by simp, fun k hk => ?_⟩
  obtain rfl : k = 0 := by omega
  rw [dig_small x h1]
  exact (World.rowIs_alloc w #[U x] 89 (fun _ => U x) (fun i hi => by
    have h9 : i = 0 := by simpa using hi
    subst h9
    rfl)).cell (i := 0) (by simp)
/-- A call that returned a number. -/
def NatRet (w : World) (x : Nat) (e : Ending) (w' : World) : Prop := ∃ u, e = .returned u ∧ NatAt w' u x ∧ Below w.heap.size w w'
theorem n_isOne (w : World) (v : Value) (x : Nat) (h : NatAt w v x) :
    Calls Tryz.prog 168 #[v] w fun e w' => e = .returned (.bool (isOneB x)) ∧ w = w' := by
  obtain ⟨A, c, rfl, _, _, h3⟩ := h
  exact c_isOne w _ A c x h3
theorem n_word (w : World) (x : Nat) (hx : x < W64) : Calls Tryz.prog 164 #[U x] w (NatRet w x) := by
  by_cases h : x = 0
  · subst h
    refine (c_word0 w).mono ?_
    rintro e w' ⟨rfl, rfl⟩
    exact ⟨_, rfl, NatAt.zero w, Below.refl _ _⟩
  · refine (c_word1 x w (by omega)).mono ?_
    rintro e w' ⟨rfl, rfl⟩
    exact ⟨_, rfl, NatAt.one w x (by omega) hx, (Below.refl _ _).alloc (Nat.le_refl _) _⟩

/-- What is asked for dividing: a divisor of one word whose divisions Div64 does right. -/
def Divs (x y : Nat) : Prop := y < W64 ∧ DivAll x y (nw x)

/-- What is asked for the greatest common divisor: one of the two is 1; or one of the two is a word, and Div64 does the one division right. -/
def Gcds (x y : Nat) : Prop := (x = 1 ∨ y = 1) ∨ (min x y < W64 ∧ DivAll (max x y) (min x y) (nw (max x y)))

end Go.Proofs.YtogmbehomilalaaGreatDoor
end

/- Multiplying natural numbers: what each call returns, for slices that hold the words of a number. -/
import Derived.Test.YtmhggphkhabjlaaGreatDoorZPlus
import Derived.Test.YtmhggphkhabjlaaGreatDoorShelf
import Derived.Deep.RegionWith
import Derived.StillTailTactics
import Derived.Deep.RegionHeld3
import Derived.LaidEqlPtr

/- Multiplying natural numbers: what each call returns, for slices that hold the words of a number. -/
section
namespace Go.Proofs.YtmhggphkhabjlaaGreatDoor
open Go.RowKit Go.Deep

end Go.Proofs.YtmhggphkhabjlaaGreatDoor
end

/- Multiplying and subtracting natural numbers: what each call returns, for slices that hold the words of a number. -/
section
namespace Go.Proofs.YtmhggphkhabjlaaGreatDoor
open Go.RowKit Go.Deep

end Go.Proofs.YtmhggphkhabjlaaGreatDoor
end

/- Dividing natural numbers by one word: what each call returns, for slices that hold the words of a number. -/
section
namespace Go.Proofs.YtmhggphkhabjlaaGreatDoor
open Go.RowKit Go.Deep

theorem add_mk (b o j : Nat) : (⟨b, o, none⟩ : Addr).add j = ⟨b, o + j, none⟩ := by unfold Addr.add; split <;> simp_all

set_option maxRecDepth 100000 in
set_option maxHeartbeats 1000000 in
theorem c_Clone (w : World) (B : Nat) (A : Option Addr) (n c : Nat) (g : Nat → Nat) (h : Wd w B A n g) (hB : B ≤ w.heap.size) (hn : 0 < n) (hm : n ≤ 1000000000) :
    Calls Tryz.prog 153 #[.slice A n c] w fun e w' => ∃ (b cap : Nat) (F : Nat → Value), e = .returned (.slice (some ⟨b, 0, none⟩) n cap) ∧ w.heap.size ≤ b ∧ n ≤ cap ∧ cap ≤ 9223372036854775807 ∧
      w'.rowIs b 63 cap F ∧ (∀ j, j < n → F j = U (g j)) ∧ Below w.heap.size w w' := by
  obtain ⟨b, o, rfl, hb, hc⟩ := h hn
  clear h
  have HC := Lib.hid hc
  clear hc
  obtain ⟨i0, hi0, hz0, hz1, hz2⟩ := info_parts info_u64
  have HI := Lib.hid hi0
  have HZ0 := Lib.hid hz0
  have HZ1 := Lib.hid hz1
  have HZ2 := Lib.hid hz2
  clear hi0 hz0 hz1 hz2
  have hnil := fun W => Lib.run_eql_slice_nil (P := Tryz.prog) W 171 63 (some ⟨b, o, none⟩) n c 0 0 Tryz.underlying171
  go_enter Tryz.func153, Tryz.ntmps153
  have HN1 : Hid (((List.range n).map fun j => U (g j)).length = n * 1) := by show _ = _; simp
  have HN2 : Hid (∀ (j : Nat) (u : Value), ((List.range n).map fun j => U (g j))[j]? = some u → (w.alloc (.cells #[] 63)).cell? ((⟨b, o, none⟩ : Addr).add j) = some u) := by
    intro j u hu
    have hj : j < n := by
      rcases Nat.lt_or_ge j n with h1 | h1
      · exact h1
      · rw [List.getElem?_eq_none (by simpa using h1)] at hu; cases hu
    rw [add_mk, World.cell?_alloc_lt _ _ _ (by show b < _; omega), HC.out j hj]
    simpa [hj] using hu
  have HN3 : Hid (∀ u ∈ (List.range n).map fun j => U (g j), u.oneCell' = true) := by
    intro u hu
    obtain ⟨j, _, rfl⟩ := List.mem_map.1 hu
    rfl
  have HN4 : Hid (0 + n ≤ maxLen) := by show _ ≤ _; unfold maxLen; omega
  have HN5 : Hid ((0 + n) * 8 ≤ 140737488355328) := by show _ ≤ _; omega
  go_wp2_with (at_builtin; refine wpList_append_own _ rfl (.tmp 5) (.tmp 6) _ rfl w.heap.size 63 i0 (.int .u64 0) 1 8 Tryz.underlying171 HI.out HZ0.out HZ1.out HZ2.out rfl (Nat.zero_lt_one) (.slice (some ⟨w.heap.size, 0, none⟩) 0 0) 0 [] rfl (World.ownsRow_lit w #[] 0 (Nat.le_refl _) (Nat.zero_le _) rfl) ⟨b, o, none⟩ n c ((List.range n).map fun j => U (g j)) rfl HN1.out HN2.out HN3.out HN4.out HN5.out (by simp) ?_; intro v' w1 hown hgrow _)
  have HO := Lib.hid hown
  clear hown
  go_ret
  have hown := HO.out
  have hb1 : Below w.heap.size w w1 := ((Below.refl _ _).alloc (Nat.le_refl _) _).grown hgrow (by simp) (fun k hk => by simp [Value.ownBlock] at hk; omega)
  rw [Nat.zero_add, List.nil_append] at hown
  rcases hown.2 with ⟨_, h0⟩ | ⟨g1, cap, cur, rfl, hge, hh, hnc, hcm, hcur, htake⟩
  · omega
  · refine ⟨g1, cap, fun j => cur.getD j undef, rfl, hge, hnc, by simpa [maxLen] using hcm, ⟨cur, hh, by omega, fun i hi => ?_⟩, fun j hj => ?_, hb1⟩
    · show cur[i]? = some (cur.getD i undef)
      rw [Array.getElem?_eq_getElem (by omega), Array.getD_eq_getD_getElem?, Array.getElem?_eq_getElem (by omega)]; rfl
    · have h9 : (cur.toList.take (n * 1))[j]? = some (U (g j)) := by rw [htake]; simp [hj]
      rw [List.getElem?_take_of_lt (by omega), Array.getElem?_toList] at h9
      show cur.getD j undef = _
      rw [Array.getD_eq_getD_getElem?, h9]; rfl

theorem Below.drewN_ {B : Nat} {a w : World} (h : Below B a w) (n : Nat) : Below B a (w.drewN n) := ⟨h.os, h.tape, h.output, h.size, h.block⟩
/-- What Div64 is asked to return. -/
def DivSays (hi lo y : Nat) : Prop := ∀ w : World, Calls Tryz.prog 166 #[U hi, U lo, U y] w fun e w' => e = .returned (.tuple #[U ((hi * W64 + lo) / y), U ((hi * W64 + lo) % y)]) ∧ ∃ n, w' = w.drewN n

set_option maxHeartbeats 400000 in
theorem div_small (lo y : Nat) (hlo : lo < W64) (hy : 0 < y) : DivSays 0 lo y := by
  intro w
  have h1 : ((y : Int) == 0) = false := by rw [beq_eq_false_iff_ne]; omega
  have h2 : decide ((y : Int) ≤ 0) = false := by simp; omega
  go_enter Tryz.func166, Tryz.ntmps166
  go_wp2
  go_quiet (fail)
  go_wp2
  go_ret2
  refine ⟨ret_ii ?_ ?_, by first | exact ⟨_, rfl⟩ | exact dr2 _ _ _⟩
  · rw [Nat.zero_mul, Nat.zero_add, IntKind.wrap_u64]
    have a1 : (lo : Int) / (y : Int) ≤ lo := Int.ediv_le_self _ (by omega)
    have a2 : 0 ≤ (lo : Int) / (y : Int) := Int.ediv_nonneg (by omega) (by omega)
    have a3 : ((lo / y : Nat) : Int) = (lo : Int) / (y : Int) := by push_cast; rfl
    unfold W64 at hlo
    rw [a3]
    omega
  · rw [Nat.zero_mul, Nat.zero_add]; simp

theorem div_step_in (x y k : Nat) (hy : 0 < y) : (x / W64 ^ (k + 1) % y * W64 + dig x k) / y = dig (x / y) k ∧ (x / W64 ^ (k + 1) % y * W64 + dig x k) % y = x / W64 ^ k % y := by
  have e := div_step x k
  have e1 : x / y / W64 ^ k = x / W64 ^ k / y := by rw [Nat.div_div_eq_div_mul, Nat.div_div_eq_div_mul, Nat.mul_comm]
  have hd := dig_lt x k
  have key : x / W64 ^ k = x / W64 ^ (k + 1) / y * W64 * y + (x / W64 ^ (k + 1) % y * W64 + dig x k) := by
    rw [e]
    have h3 := Nat.div_add_mod (x / W64 ^ (k + 1)) y
    generalize x / W64 ^ (k + 1) = X at *
    generalize dig x k = d at *
    generalize hq : X / y = q at *
    generalize hr : X % y = r at *
    generalize W64 = W at *
    rw [← h3]
    grind
  generalize hs : x / W64 ^ (k + 1) % y * W64 + dig x k = s at *
  have hlt : s / y < W64 := by
    rw [Nat.div_lt_iff_lt_mul hy, ← hs]
    have h4 : x / W64 ^ (k + 1) % y < y := Nat.mod_lt _ hy
    have h5 : (x / W64 ^ (k + 1) % y) * W64 ≤ (y - 1) * W64 := Nat.mul_le_mul_right _ (by omega)
    have h6 : (y - 1) * W64 + W64 = W64 * y := by rw [Nat.mul_comm W64 y, ← Nat.succ_mul]; congr 1; omega
    omega
  constructor
  · unfold dig
    rw [e1, key, Nat.add_comm, Nat.add_mul_div_right _ _ hy, Nat.add_mul_mod_self_right, Nat.mod_eq_of_lt hlt]
  · rw [key, Nat.add_comm, Nat.add_mul_mod_self_right]

/-- The divisions that dividing x by y asks for. -/
def DivAll (x y n : Nat) : Prop := ∀ k, k < n → DivSays (x / W64 ^ (k + 1) % y) (dig x k) y
def updV (F : Nat → Value) (k : Nat) (v : Value) (j : Nat) : Value := if j = k then v else F j

end Go.Proofs.YtmhggphkhabjlaaGreatDoor
end

/- Greatest common divisors of natural numbers one of which is a word: what each call returns, said of values that hold a number. -/
section
namespace Go.Proofs.YtmhggphkhabjlaaGreatDoor
open Go.RowKit Go.Deep

/-- The value v is a slice that holds the words of x. -/
def NatAt (w : World) (v : Value) (x : Nat) : Prop := ∃ A c, v = .slice A (nw x) c ∧ nw x ≤ c ∧ c ≤ 9223372036854775807 ∧ Wd w w.heap.size A (nw x) (dig x)
theorem NatAt.below {w w' : World} {v : Value} {x : Nat} (h : NatAt w v x) (hb : Below w.heap.size w w') : NatAt w' v x := by
  obtain ⟨A, c, e, h1, h2, h3⟩ := h
  exact ⟨A, c, e, h1, h2, (h3.below hb).more hb.size⟩
theorem NatAt.drewN {w : World} {v : Value} {x : Nat} (h : NatAt w v x) (n : Nat) : NatAt (w.drewN n) v x := h
theorem NatAt.zero (w : World) : NatAt w (.slice none 0 0) 0 := ⟨none, 0, by rw [nw_zero], by rw [nw_zero]; omega, by omega, by rw [nw_zero]; exact Wd.zero⟩
theorem NatAt.one (w : World) (x : Nat) (h0 : 0 < x) (h1 : x < W64) : NatAt (w.alloc (.cells #[U x] 63)) (.slice (some ⟨w.heap.size, 0, none⟩) 1 1) x := by
  refine ⟨_, 1, by rw [nw_one x h0 h1], by rw [nw_one x h0 h1]; omega, by omega, ?_⟩
  rw [nw_one x h0 h1]
  intro _
  refine ⟨_, 0, rfl, by simp, fun k hk => ?_⟩
  obtain rfl : k = 0 := by omega
  rw [dig_small x h1]
  exact (World.rowIs_alloc w #[U x] 63 (fun _ => U x) (fun i hi => by
    have h9 : i = 0 := by simpa using hi
    subst h9
    rfl)).cell (i := 0) (by simp)
/-- A call that returned a number. -/
def NatRet (w : World) (x : Nat) (e : Ending) (w' : World) : Prop := ∃ u, e = .returned u ∧ NatAt w' u x ∧ Below w.heap.size w w'
theorem n_isOne (w : World) (v : Value) (x : Nat) (h : NatAt w v x) :
    Calls Tryz.prog 141 #[v] w fun e w' => e = .returned (.bool (isOneB x)) ∧ w = w' := by
  obtain ⟨A, c, rfl, _, _, h3⟩ := h
  exact c_isOne w _ A c x h3
theorem n_word (w : World) (x : Nat) (hx : x < W64) : Calls Tryz.prog 137 #[U x] w (NatRet w x) := by
  by_cases h : x = 0
  · subst h
    refine (c_word0 w).mono ?_
    rintro e w' ⟨rfl, rfl⟩
    exact ⟨_, rfl, NatAt.zero w, Below.refl _ _⟩
  · refine (c_word1 x w (by omega)).mono ?_
    rintro e w' ⟨rfl, rfl⟩
    exact ⟨_, rfl, NatAt.one w x (by omega) hx, (Below.refl _ _).alloc (Nat.le_refl _) _⟩

/-- What is asked for dividing: a divisor of one word whose divisions Div64 does right. -/
def Divs (x y : Nat) : Prop := y < W64 ∧ DivAll x y (nw x)

/-- What is asked for the greatest common divisor: one of the two is 1; or one of the two is a word, and Div64 does the one division right. -/
def Gcds (x y : Nat) : Prop := (x = 1 ∨ y = 1) ∨ (min x y < W64 ∧ DivAll (max x y) (min x y) (nw (max x y)))

end Go.Proofs.YtmhggphkhabjlaaGreatDoor
end

/- Rational numbers in memory: making one, and the plain questions to it. -/
section
namespace Go.Proofs.YtmhggphkhabjlaaGreatDoor
open Go.RowKit Go.Deep

/-- The value v points to a number of the package: its sign, its numerator and its denominator. -/
def RatAt (w : World) (v : Value) (neg : Bool) (n d : Nat) : Prop := ∃ b nv dv, v = .pointer (some ⟨b, 0, none⟩) ∧ b < w.heap.size ∧ w.cell? ⟨b, 0, none⟩ = some (.pointer (some ⟨b, 0, none⟩)) ∧
  w.cell? ⟨b, 1, none⟩ = some (.bool neg) ∧ w.cell? ⟨b, 2, none⟩ = some nv ∧ w.cell? ⟨b, 3, none⟩ = some dv ∧ NatAt w nv n ∧ NatAt w dv d
theorem RatAt.below {w w' : World} {v : Value} {neg : Bool} {n d : Nat} (h : RatAt w v neg n d) (hb : Below w.heap.size w w') : RatAt w' v neg n d := by
  obtain ⟨b, nv, dv, e, hlt, h0, h1, h2, h3, hn, hd⟩ := h
  exact ⟨b, nv, dv, e, Nat.lt_of_lt_of_le hlt hb.size, (hb.cell (p := ⟨b, 0, none⟩) hlt).trans h0, (hb.cell (p := ⟨b, 1, none⟩) hlt).trans h1, (hb.cell (p := ⟨b, 2, none⟩) hlt).trans h2, (hb.cell (p := ⟨b, 3, none⟩) hlt).trans h3, hn.below hb, hd.below hb⟩
theorem RatAt.drewN {w : World} {v : Value} {neg : Bool} {n d : Nat} (h : RatAt w v neg n d) (k : Nat) : RatAt (w.drewN k) v neg n d := h
theorem btr {a b c : World} (h : Below a.heap.size a b) (k : Below b.heap.size b c) : Below a.heap.size a c := h.trans (k.mono h.size)
def RatRet (w : World) (neg : Bool) (n d : Nat) (e : Ending) (w' : World) : Prop := ∃ u, e = .returned u ∧ RatAt w' u neg n d ∧ Below w.heap.size w w'
def sgn (neg : Bool) (n : Nat) : Bool := neg && decide (0 < n)

set_option maxHeartbeats 1000000 in
theorem c_made (w : World) (nv dv : Value) (neg : Bool) (n d : Nat) (hn : NatAt w nv n) (hd : NatAt w dv d) :
    Calls Tryz.prog 136 #[.bool neg, nv, dv] w (RatRet w (sgn neg n) n d) := by
  have hN := hn
  have hD := hd
  obtain ⟨A, c, rfl, h1, h2, h3⟩ := hn
  obtain ⟨A', c', rfl, h1', h2', h3'⟩ := hd
  have HN := Lib.hid hN
  have HD := Lib.hid hD
  clear hN hD h1 h2 h3 h1' h2' h3'
  have KEY : Hid (∀ s : Bool, s = sgn neg n → RatRet w (sgn neg n) n d (.returned (.pointer (some ⟨w.heap.size, 0, none⟩))) (w.alloc (.cells #[.pointer (some ⟨w.heap.size, 0, none⟩), .bool s, .slice A (nw n) c, .slice A' (nw d) c'] 176))) := by
    intro s hs
    have hbel : Below w.heap.size w (w.alloc (.cells #[.pointer (some ⟨w.heap.size, 0, none⟩), .bool s, .slice A (nw n) c, .slice A' (nw d) c'] 176)) := (Below.refl _ _).alloc (Nat.le_refl _) _
    have hh := heap_alloc_new w (.cells #[.pointer (some ⟨w.heap.size, 0, none⟩), .bool s, .slice A (nw n) c, .slice A' (nw d) c'] 176)
    subst hs
    refine ⟨_, rfl, ⟨w.heap.size, _, _, rfl, by simp, ?_, ?_, ?_, ?_, HN.out.below hbel, HD.out.below hbel⟩, hbel⟩ <;> (rw [cell_of_row _ _ _ _ _ _ hh]; rfl)
  cases neg
  · generalize nw n = m at *
    generalize nw d = m' at *
    clear HN HD
    go_enter Tryz.func136, Tryz.ntmps136
    go_wp2
    go_ret
    exact KEY.out false rfl
  · by_cases h0 : n = 0
    · have HS : Hid (false = sgn true n) := by show false = (true && decide (0 < n)); rw [h0]; rfl
      have hm : ¬ 0 < nw n := by rw [nw_pos]; omega
      have hm' : decide (0 < nw n) = false := by simp [hm]
      clear h0
      generalize nw n = m at *
      generalize nw d = m' at *
      clear HN HD
      go_enter Tryz.func136, Tryz.ntmps136
      go_wp2
      go_ret
      exact KEY.out false HS.out
    · have HS : Hid (true = sgn true n) := by show true = (true && decide (0 < n)); simp; omega
      have hm : 0 < nw n := by rw [nw_pos]; omega
      have hm' : decide (0 < nw n) = true := by simp [hm]
      clear h0
      generalize nw n = m at *
      generalize nw d = m' at *
      clear HN HD
      go_enter Tryz.func136, Tryz.ntmps136
      go_wp2
      go_ret
      exact KEY.out true HS.out

theorem info_rat : ∃ j, Tryz.prog.info? 176 = some j := Option.isSome_iff_exists.1 (by kernel_rfl)
set_option maxRecDepth 100000 in
set_option maxHeartbeats 400000 in
theorem c_valid (w : World) (v : Value) (neg : Bool) (n d : Nat) (h : RatAt w v neg n d) :
    Calls Tryz.prog 139 #[v] w fun e w' => e = .returned (.bool true) ∧ w = w' := by
  obtain ⟨b, nv, dv, rfl, hlt, h0, _, _, _, _, _⟩ := h
  obtain ⟨j, hj⟩ := info_rat
  have heq := fun W => run_eql_ptr_same (P := Tryz.prog) W ⟨b, 0, none⟩ Tryz.underlying151 hj
  clear hj
  go_enter Tryz.func139, Tryz.ntmps139
  go_wp2
  go_ret
  exact ⟨rfl, rfl⟩
end Go.Proofs.YtmhggphkhabjlaaGreatDoor
end

/- Dividing natural numbers by one word: what each call returns, for slices that hold the words of a number. -/
import Derived.Test.YtnfncdalneifnaaGreatDoorZTimes
import Derived.Deep.RegionWith
import Derived.StillTailTactics
namespace Go.Proofs.YtnfncdalneifnaaGreatDoor
open Go.RowKit Go.Deep

theorem add_mk (b o j : Nat) : (⟨b, o, none⟩ : Addr).add j = ⟨b, o + j, none⟩ := by unfold Addr.add; split <;> simp_all

set_option maxRecDepth 100000 in
set_option maxHeartbeats 1000000 in
theorem c_Clone (w : World) (B : Nat) (A : Option Addr) (n c : Nat) (g : Nat → Nat) (h : Wd w B A n g) (hB : B ≤ w.heap.size) (hn : 0 < n) (hm : n ≤ 1000000000) :
    Calls Tryz.prog 80 #[.slice A n c] w fun e w' => ∃ (b cap : Nat) (F : Nat → Value), e = .returned (.slice (some ⟨b, 0, none⟩) n cap) ∧ w.heap.size ≤ b ∧ n ≤ cap ∧ cap ≤ 9223372036854775807 ∧
      w'.rowIs b 71 cap F ∧ (∀ j, j < n → F j = U (g j)) ∧ Below w.heap.size w w' := by
  obtain ⟨b, o, rfl, hb, hc⟩ := h hn
  clear h
  have HC := Lib.hid hc
  clear hc
  obtain ⟨i0, hi0, hz0, hz1, hz2⟩ := info_parts info_u64
  have HI := Lib.hid hi0
  have HZ0 := Lib.hid hz0
  have HZ1 := Lib.hid hz1
  have HZ2 := Lib.hid hz2
  clear hi0 hz0 hz1 hz2
  have hnil := fun W => Lib.run_eql_slice_nil (P := Tryz.prog) W 76 71 (some ⟨b, o, none⟩) n c 0 0 Tryz.underlying76
  go_enter Tryz.func80, Tryz.ntmps80
  have HN1 : Hid (((List.range n).map fun j => U (g j)).length = n * 1) := by show _ = _; simp
  have HN2 : Hid (∀ (j : Nat) (u : Value), ((List.range n).map fun j => U (g j))[j]? = some u → (w.alloc (.cells #[] 71)).cell? ((⟨b, o, none⟩ : Addr).add j) = some u) := by
    intro j u hu
    have hj : j < n := by
      rcases Nat.lt_or_ge j n with h1 | h1
      · exact h1
      · rw [List.getElem?_eq_none (by simpa using h1)] at hu; cases hu
    rw [add_mk, World.cell?_alloc_lt _ _ _ (by show b < _; omega), HC.out j hj]
    simpa [hj] using hu
  have HN3 : Hid (∀ u ∈ (List.range n).map fun j => U (g j), u.oneCell' = true) := by
    intro u hu
    obtain ⟨j, _, rfl⟩ := List.mem_map.1 hu
    rfl
  have HN4 : Hid (0 + n ≤ maxLen) := by show _ ≤ _; unfold maxLen; omega
  have HN5 : Hid ((0 + n) * 8 ≤ 140737488355328) := by show _ ≤ _; omega
  go_wp2_with (at_builtin; refine wpList_append_own _ rfl (.tmp 5) (.tmp 6) _ rfl w.heap.size 71 i0 (.int .u64 0) 1 8 Tryz.underlying76 HI.out HZ0.out HZ1.out HZ2.out rfl (Nat.zero_lt_one) (.slice (some ⟨w.heap.size, 0, none⟩) 0 0) 0 [] rfl (World.ownsRow_lit w #[] 0 (Nat.le_refl _) (Nat.zero_le _) rfl) ⟨b, o, none⟩ n c ((List.range n).map fun j => U (g j)) rfl HN1.out HN2.out HN3.out HN4.out HN5.out (by simp) ?_; intro v' w1 hown hgrow _)
  have HO := Lib.hid hown
  clear hown
  go_ret
  have hown := HO.out
  have hb1 : Below w.heap.size w w1 := ((Below.refl _ _).alloc (Nat.le_refl _) _).grown hgrow (by simp) (fun k hk => by simp [Value.ownBlock] at hk; omega)
  rw [Nat.zero_add, List.nil_append] at hown
  rcases hown.2 with ⟨_, h0⟩ | ⟨g1, cap, cur, rfl, hge, hh, hnc, hcm, hcur, htake⟩
  · omega
  · refine ⟨g1, cap, fun j => cur.getD j undef, rfl, hge, hnc, by simpa [maxLen] using hcm, ⟨cur, hh, by omega, fun i hi => ?_⟩, fun j hj => ?_, hb1⟩
    · show cur[i]? = some (cur.getD i undef)
      rw [Array.getElem?_eq_getElem (by omega), Array.getD_eq_getD_getElem?, Array.getElem?_eq_getElem (by omega)]; rfl
    · have h9 : (cur.toList.take (n * 1))[j]? = some (U (g j)) := by rw [htake]; simp [hj]
      rw [List.getElem?_take_of_lt (by omega), Array.getElem?_toList] at h9
      show cur.getD j undef = _
      rw [Array.getD_eq_getD_getElem?, h9]; rfl

theorem Below.drewN_ {B : Nat} {a w : World} (h : Below B a w) (n : Nat) : Below B a (w.drewN n) := ⟨h.os, h.tape, h.output, h.size, h.block⟩
/-- What Div64 is asked to return. -/
def DivSays (hi lo y : Nat) : Prop := ∀ w : World, Calls Tryz.prog 142 #[U hi, U lo, U y] w fun e w' => e = .returned (.tuple #[U ((hi * W64 + lo) / y), U ((hi * W64 + lo) % y)]) ∧ ∃ n, w' = w.drewN n

set_option maxHeartbeats 400000 in
theorem div_small (lo y : Nat) (hlo : lo < W64) (hy : 0 < y) : DivSays 0 lo y := by
  intro w
  have h1 : ((y : Int) == 0) = false := by rw [beq_eq_false_iff_ne]; omega
  have h2 : decide ((y : Int) ≤ 0) = false := by simp; omega
  go_enter Tryz.func142, Tryz.ntmps142
  go_wp2
  go_quiet (fail)
  go_wp2
  go_ret2
  refine ⟨ret_ii ?_ ?_, by first | exact ⟨_, rfl⟩ | exact dr2 _ _ _⟩
  · rw [Nat.zero_mul, Nat.zero_add, IntKind.wrap_u64]
    have a1 : (lo : Int) / (y : Int) ≤ lo := Int.ediv_le_self _ (by omega)
    have a2 : 0 ≤ (lo : Int) / (y : Int) := Int.ediv_nonneg (by omega) (by omega)
    have a3 : ((lo / y : Nat) : Int) = (lo : Int) / (y : Int) := by push_cast; rfl
    unfold W64 at hlo
    rw [a3]
    omega
  · rw [Nat.zero_mul, Nat.zero_add]; simp

theorem div_step_in (x y k : Nat) (hy : 0 < y) : (x / W64 ^ (k + 1) % y * W64 + dig x k) / y = dig (x / y) k ∧ (x / W64 ^ (k + 1) % y * W64 + dig x k) % y = x / W64 ^ k % y := by
  have e := div_step x k
  have e1 : x / y / W64 ^ k = x / W64 ^ k / y := by rw [Nat.div_div_eq_div_mul, Nat.div_div_eq_div_mul, Nat.mul_comm]
  have hd := dig_lt x k
  have key : x / W64 ^ k = x / W64 ^ (k + 1) / y * W64 * y + (x / W64 ^ (k + 1) % y * W64 + dig x k) := by
    rw [e]
    have h3 := Nat.div_add_mod (x / W64 ^ (k + 1)) y
    generalize x / W64 ^ (k + 1) = X at *
    generalize dig x k = d at *
    generalize hq : X / y = q at *
    generalize hr : X % y = r at *
    generalize W64 = W at *
    rw [← h3]
    grind
  generalize hs : x / W64 ^ (k + 1) % y * W64 + dig x k = s at *
  have hlt : s / y < W64 := by
    rw [Nat.div_lt_iff_lt_mul hy, ← hs]
    have h4 : x / W64 ^ (k + 1) % y < y := Nat.mod_lt _ hy
    have h5 : (x / W64 ^ (k + 1) % y) * W64 ≤ (y - 1) * W64 := Nat.mul_le_mul_right _ (by omega)
    have h6 : (y - 1) * W64 + W64 = W64 * y := by rw [Nat.mul_comm W64 y, ← Nat.succ_mul]; congr 1; omega
    omega
  constructor
  · unfold dig
    rw [e1, key, Nat.add_comm, Nat.add_mul_div_right _ _ hy, Nat.add_mul_mod_self_right, Nat.mod_eq_of_lt hlt]
  · rw [key, Nat.add_comm, Nat.add_mul_mod_self_right]

/-- The divisions that dividing x by y asks for. -/
def DivAll (x y n : Nat) : Prop := ∀ k, k < n → DivSays (x / W64 ^ (k + 1) % y) (dig x k) y
theorem divAll_one (x y : Nat) (hx : x < W64) (hy : 0 < y) : DivAll x y (nw x) := by
  intro k hk
  have h1 := (nw_le_one x).2 hx
  have hk0 : k = 0 := by omega
  subst hk0
  rw [Nat.zero_add, Nat.pow_one, Nat.div_eq_of_lt hx, Nat.zero_mod]
  exact div_small _ _ (dig_lt _ _) hy

def updV (F : Nat → Value) (k : Nat) (v : Value) (j : Nat) : Value := if j = k then v else F j

set_option maxHeartbeats 1000000 in
theorem c_divideInPlace (w : World) (b n cap N x y : Nat) (F : Nat → Value) (hrow : w.rowIs b 71 N F) (hF : ∀ j, j < n → F j = U (dig x j)) (hN : n ≤ N) (hn : n ≤ 1000000000) (hx : x < W64 ^ n) (hy : 0 < y) (HD : DivAll x y n) :
    Calls Tryz.prog 82 #[.slice (some ⟨b, 0, none⟩) n cap, U y] w fun e w' => ∃ F', e = .returned (U (x % y)) ∧ w'.rowIs b 71 N F' ∧ (∀ j, j < n → F' j = U (dig (x / y) j)) ∧ Below b w w' ∧ w'.heap.size = w.heap.size := by
  have HX := Lib.hid hx
  have HDD := Lib.hid HD
  have HF0 := Lib.hid hF
  clear hx HD hF
  go_enter Tryz.func82, Tryz.ntmps82
  go_wp2
  go_loopw [5, 6] (fun r i wr => ∃ (k : Nat) (G : Nat → Value), k ≤ n ∧ i = .int .i64 ((k : Int) - 1) ∧ r = U (x / W64 ^ k % y) ∧ wr.rowIs b 71 N G ∧ Hid (∀ j, j < k → G j = U (dig x j)) ∧ Hid (∀ j, k ≤ j → j < n → G j = U (dig (x / y) j)) ∧ Below b w wr ∧ Hid (wr.heap.size = w.heap.size)) (fun _ i _ => (intOf i + 1).toNat)
  case atStart =>
    exact ⟨n, F, Nat.le_refl _, rfl, by rw [Nat.div_eq_of_lt HX.out, Nat.zero_mod]; rfl, hrow, HF0.out, fun j h1 h2 => by omega, Below.refl _ _, rfl⟩
  case round =>
    obtain ⟨k, G, hk, rfl, rfl, hr, HG, HQ, hb, HZ⟩ := hrel
    by_cases h0 : k = 0
    · subst h0
      go_wp2
      go_ret
      exact ⟨G, by rw [Nat.pow_zero, Nat.div_one]; rfl, hr, fun j hj => HQ.out j (Nat.zero_le _) hj, hb, HZ.out⟩
    · obtain ⟨j, rfl⟩ : ∃ j, k = j + 1 := ⟨k - 1, by omega⟩
      rw [show ((j + 1 : Nat) : Int) - 1 = (j : Int) by omega]
      have hS : wr.cell? ⟨b, j, none⟩ = some (U (dig x j)) := by rw [hr.cell (i := j) (by omega), HG.out j (by omega)]
      have hZ := hr.frozen j
      have HC := Lib.hid (HDD.out j (by omega))
      have HE := Lib.hid (div_step_in x y j hy)
      generalize x / W64 ^ (j + 1) % y = hi at *
      go_wp2_with fail
      refine (HC.out _).mono ?_
      rintro e w' ⟨rfl, nq, rfl⟩
      rw [HE.out.1, HE.out.2]
      have hr2 : (wr.drewN nq).rowIs b 71 N G := hr
      go_wp2
      go_roundw
      case rel =>
        refine ⟨j, updV G j (U (dig (x / y) j)), by omega, rfl, rfl, (hr2.set j _).congr fun i _ => rfl, ?_, ?_, (hb.trans (Below.drewN_ (Below.refl _ _) nq)).setCell (Nat.le_refl b) _, ?_⟩
        · intro i hi
          show (if i = j then _ else _) = _
          rw [if_neg (by omega)]; exact HG.out i (by omega)
        · intro i h1 h2
          show (if i = j then _ else _) = _
          by_cases e : i = j
          · subst e; rw [if_pos rfl]
          · rw [if_neg e]; exact HQ.out i (by omega) h2
        · show _ = _
          rw [nblk_setCell]; exact HZ.out
      case measure => simp [intOf]
end Go.Proofs.YtnfncdalneifnaaGreatDoor

/- Products added to, and subtracted from, a part of a row in place: no other block changes. -/
import Derived.Test.YtnfncdalneifnaaGreatDoorZShf
namespace Go.Proofs.YtnfncdalneifnaaGreatDoor
open Go.RowKit Go.Deep

/-- No block but b has changed. -/
def Apart (b : Nat) (w w' : World) : Prop := ∀ k, k ≠ b → w'.heap[k]? = w.heap[k]?
theorem Apart.refl (b : Nat) (w : World) : Apart b w w := fun _ _ => rfl
theorem Apart.setCell {b : Nat} {w w' : World} (h : Apart b w w') (o : Nat) (v : Value) : Apart b w (w'.setCell ⟨b, o, none⟩ v) := fun k hk => (Below.heap_setCell _ _ _ _ hk).trans (h k hk)
theorem Apart.row {b c t n : Nat} {w w' : World} {F : Nat → Value} (h : Apart b w w') (hne : c ≠ b) (hr : w.rowIs c t n F) : w'.rowIs c t n F := by
  obtain ⟨cur, h1, h2⟩ := hr
  exact ⟨cur, (h c hne).trans h1, h2⟩
theorem Apart.drewN {b : Nat} {w w' : World} (h : Apart b w w') (n : Nat) : Apart b w (w'.drewN n) := h
theorem Apart.trans {b : Nat} {w w' w'' : World} (h : Apart b w w') (h' : Apart b w' w'') : Apart b w w'' := fun k hk => (h' k hk).trans (h k hk)

set_option maxHeartbeats 1000000 in
theorem c_addProduct2 (w : World) (B : Nat) (b o n c N : Nat) (A : Option Addr) (c' q : Nat) (f a : Nat → Nat) (hrow : w.rowIs b 71 N (fun j => U (f j))) (hN : o + n ≤ N) (hA : Wd w B A n a) (hB : B ≤ b)
    (hn : n ≤ 1000000000) (hq : q < W64) (hf : ∀ j, j < N → f j < W64) (ha : ∀ j, j < n → a j < W64) :
    Calls Tryz.prog 152 #[.slice (some ⟨b, o, none⟩) n c, .slice A n c', U q] w fun e w' => ∃ (r : Nat) (f' : Nat → Nat), e = .returned (U r) ∧ r < W64 ∧
      w'.rowIs b 71 N (fun j => U (f' j)) ∧ (∀ j, j < N → f' j < W64) ∧ (∀ j, j < o ∨ o + n ≤ j → f' j = f j) ∧
      vl (fun j => f' (o + j)) n + r * W64 ^ n = vl (fun j => f (o + j)) n + vl a n * q ∧ Below b w w' ∧ w'.heap.size = w.heap.size ∧ Apart b w w' := by
  go_enter Tryz.func152, Tryz.ntmps152
  go_wp2
  go_loopw [7, 8, 9, 10, 11, 14] (fun cy _ _ _ _ i wr => ∃ (k r : Nat) (f' : Nat → Nat), k ≤ n ∧ i = .int .i64 k ∧ cy = U r ∧ r < W64 ∧ wr.rowIs b 71 N (fun j => U (f' j)) ∧ (∀ j, j < N → f' j < W64) ∧
    (∀ j, j < o ∨ o + k ≤ j → f' j = f j) ∧ Hid (vl (fun j => f' (o + j)) k + r * W64 ^ k = vl (fun j => f (o + j)) k + vl a k * q) ∧ Below b w wr ∧ Hid (wr.heap.size = w.heap.size ∧ Apart b w wr)) (fun _ _ _ _ _ i _ => n - (intOf i).toNat)
  case atStart =>
    exact ⟨0, 0, f, by omega, rfl, rfl, W64_pos, hrow, hf, fun j _ => rfl, by show vl _ 0 + 0 * _ = _; simp [vl], Below.refl _ _, rfl, Apart.refl _ _⟩
  case round =>
    obtain ⟨k, r, f', hk, rfl, rfl, hr, hrow', hf', hfar, HV, hb, HZ⟩ := hrel
    have HFar := Lib.hid hfar
    clear hfar
    by_cases hlt : k < n
    · have hx := hA.below (hb.mono hB)
      obtain ⟨b1, o1, rfl, hcell⟩ := hx.at_ hlt
      have hS := hrow'.cell (i := o + k) (by omega)
      have hZ := hrow'.frozen (o + k)
      have hak := ha k hlt
      have hfk := hf' (o + k) (by omega)
      have hcar : a k * q + r ≤ (W64 - 1) * (W64 - 1) + (W64 - 1) := by
        have := Nat.mul_le_mul (Nat.le_sub_one_of_lt hak) (Nat.le_sub_one_of_lt hq)
        omega
      go_wp2_with fail
      refine (c_mulWords _ _ _ _ hak hq hr).mono ?_
      rintro e w' ⟨rfl, rfl⟩
      have Hlo : Hid ((a k * q + r) % W64 + (a k * q + r) / W64 * W64 = a k * q + r) := by
        show _ = _
        have := Nat.div_add_mod (a k * q + r) W64
        rw [Nat.mul_comm] at this; omega
      have hlo : (a k * q + r) % W64 < W64 := Nat.mod_lt _ W64_pos
      generalize (a k * q + r) % W64 = lo at *
      generalize (a k * q + r) / W64 = hi at *
      go_wp2_with fail
      refine (c_addWords (f' (o + k)) lo 0 _ hfk hlo (by omega)).mono ?_
      rintro e w' ⟨rfl, rfl⟩
      rw [Nat.add_zero]
      have Hs : Hid ((f' (o + k) + lo) % W64 + (f' (o + k) + lo) / W64 * W64 = f' (o + k) + lo) := by
        show _ = _
        have := Nat.div_add_mod (f' (o + k) + lo) W64
        rw [Nat.mul_comm] at this; omega
      have hnew : (f' (o + k) + lo) % W64 < W64 := Nat.mod_lt _ W64_pos
      have hsum : hi + (f' (o + k) + lo) / W64 < W64 := by
        have h1 := Hlo.out
        have h2 := Hs.out
        clear Hlo Hs HV
        generalize a k * q = p at *
        generalize (f' (o + k) + lo) / W64 = v at *
        unfold W64 at *
        omega
      have Hst := Lib.hid (mul_step (fun j => f' (o + j)) (fun j => f (o + j)) a (fun j => upd f' (o + k) ((f' (o + k) + lo) % W64) (o + j)) k q r lo hi (fun j hj => upd_ne _ _ _ _ (by omega)) Hlo.out
        (by show upd _ _ _ _ = _; rw [upd_same, HFar.out _ (.inr (Nat.le_refl _))]) HV.out)
      have Hw : Hid (IntKind.u64.wrap ((hi : Int) + (((f' (o + k) + lo) / W64 : Nat) : Int)) = ((hi + (f' (o + k) + lo) / W64 : Nat) : Int)) := by
        show _ = _
        generalize (f' (o + k) + lo) / W64 = v at *
        unfold W64 at *
        rw [IntKind.wrap_u64]; omega
      clear hx hA Hs Hlo hcar
      go_wp2
      go_roundw
      case rel =>
        refine ⟨k + 1, hi + (f' (o + k) + lo) / W64, upd f' (o + k) ((f' (o + k) + lo) % W64), by omega, by go_num, ?_, hsum, set_nat hrow' (o + k) _ _ (by go_num), ?_, ?_, ?_, hb.setCell (Nat.le_refl b) _, ?_⟩
        · have e : ((f' (o + k) : Int) + (lo : Int)) / (W64 : Int) = (((f' (o + k) + lo) / W64 : Nat) : Int) := by push_cast; rfl
          rw [e, Hw.out]
        · exact upd_lt f' (o + k) _ N (fun j hj _ => hf' j hj) hnew
        · intro j hj
          rw [upd_ne _ _ _ _ (by omega)]
          exact HFar.out j (by omega)
        · have h9 := Hst.out
          rw [← HFar.out (o + k) (.inr (Nat.le_refl _))] at h9
          exact h9
        · exact ⟨by rw [nblk_setCell]; exact HZ.out.1, HZ.out.2.setCell _ _⟩
      case measure => simp [intOf]; omega
    · obtain rfl : k = n := by omega
      go_wp2
      go_ret
      refine ⟨r, f', rfl, hr, hrow', hf', HFar.out, HV.out, hb, HZ.out⟩
set_option maxRecDepth 100000 in
set_option maxHeartbeats 1000000 in
theorem c_subProduct2 (w : World) (B : Nat) (b o n c N : Nat) (A : Option Addr) (c' q : Nat) (f a : Nat → Nat) (hrow : w.rowIs b 71 N (fun j => U (f j))) (hN : o + n + 1 ≤ N) (hA : Wd w B A n a) (hB : B ≤ b)
    (hn : n ≤ 1000000000) (hq : q < W64) (hf : ∀ j, j < N → f j < W64) (ha : ∀ j, j < n → a j < W64) :
    Calls Tryz.prog 151 #[.slice (some ⟨b, o, none⟩) (n + 1) c, .slice A n c', U q] w fun e w' => ∃ (t : Nat) (f' : Nat → Nat), e = .returned (.bool (decide (t = 1))) ∧ t ≤ 1 ∧
      w'.rowIs b 71 N (fun j => U (f' j)) ∧ (∀ j, j < N → f' j < W64) ∧ (∀ j, j < o ∨ o + n + 1 ≤ j → f' j = f j) ∧
      vl (fun j => f' (o + j)) (n + 1) + vl a n * q = vl (fun j => f (o + j)) (n + 1) + t * W64 ^ (n + 1) ∧ Below b w w' ∧ w'.heap.size = w.heap.size ∧ Apart b w w' := by
  go_enter Tryz.func151, Tryz.ntmps151
  go_wp2
  go_loopw [7, 8, 9, 10, 11, 14] (fun cy bw _ _ _ i wr => ∃ (k r bo : Nat) (f' : Nat → Nat), k ≤ n ∧ i = .int .i64 k ∧ cy = U r ∧ bw = U bo ∧ bo ≤ 1 ∧ r < W64 ∧ wr.rowIs b 71 N (fun j => U (f' j)) ∧ (∀ j, j < N → f' j < W64) ∧
    (∀ j, j < o ∨ o + k ≤ j → f' j = f j) ∧ Hid (vl (fun j => f' (o + j)) k + vl a k * q = vl (fun j => f (o + j)) k + (bo + r) * W64 ^ k) ∧ Below b w wr ∧ Hid (wr.heap.size = w.heap.size ∧ Apart b w wr)) (fun _ _ _ _ _ i _ => n - (intOf i).toNat)
  case atStart =>
    exact ⟨0, 0, 0, f, by omega, rfl, rfl, rfl, by omega, W64_pos, hrow, hf, fun j _ => rfl, by show vl _ 0 + _ = _; simp [vl], Below.refl _ _, rfl, Apart.refl _ _⟩
  case round =>
    obtain ⟨k, r, bo, f', hk, rfl, rfl, rfl, hbo, hr, hrow', hf', hfar, HV, hb, HZ⟩ := hrel
    have HFar := Lib.hid hfar
    clear hfar
    by_cases hlt : k < n
    · have hlt1 : k < n + 1 := by omega
      have hx := hA.below (hb.mono hB)
      obtain ⟨b1, o1, rfl, hcell⟩ := hx.at_ hlt
      have hS := hrow'.cell (i := o + k) (by omega)
      have hZ := hrow'.frozen (o + k)
      have hak := ha k hlt
      have hfk := hf' (o + k) (by omega)
      go_wp2_with fail
      refine (c_mulWords _ _ _ _ hak hq hr).mono ?_
      rintro e w' ⟨rfl, rfl⟩
      have hcar : a k * q + r ≤ (W64 - 1) * (W64 - 1) + (W64 - 1) := by
        have := Nat.mul_le_mul (Nat.le_sub_one_of_lt hak) (Nat.le_sub_one_of_lt hq)
        omega
      have Hlo : Hid ((a k * q + r) % W64 + (a k * q + r) / W64 * W64 = a k * q + r) := by
        show _ = _
        have := Nat.div_add_mod (a k * q + r) W64
        rw [Nat.mul_comm] at this; omega
      have hlo : (a k * q + r) % W64 < W64 := Nat.mod_lt _ W64_pos
      have hhi : (a k * q + r) / W64 < W64 := by
        rw [Nat.div_lt_iff_lt_mul W64_pos]
        exact Nat.lt_of_le_of_lt hcar (by decide)
      generalize (a k * q + r) % W64 = lo at *
      generalize (a k * q + r) / W64 = hi at *
      go_wp2_with fail
      refine (c_subWords (f' (o + k)) lo bo _ hfk hlo hbo).mono ?_
      rintro e w' ⟨rfl, rfl⟩
      have Hst := Lib.hid (subp_step (fun j => f' (o + j)) (fun j => f (o + j)) a (fun j => upd f' (o + k) ((f' (o + k) + 2 * W64 - lo - bo) % W64) (o + j)) k q r bo lo hi (sbw (f' (o + k)) lo bo) (fun j hj => upd_ne _ _ _ _ (by omega)) Hlo.out
        (by show upd _ _ _ _ * _ + _ + _ = _; rw [upd_same]; have h9 := sub_mod_step (f' (o + k)) lo bo hfk hlo hbo (W64 ^ k); rw [h9, HFar.out _ (.inr (Nat.le_refl _))]; rfl) HV.out)
      have hmod : (f' (o + k) + 2 * W64 - lo - bo) % W64 < W64 := Nat.mod_lt _ W64_pos
      have hsb : sbw (f' (o + k)) lo bo ≤ 1 := by unfold sbw; split <;> omega
      generalize (f' (o + k) + 2 * W64 - lo - bo) % W64 = u at *
      generalize sbw (f' (o + k)) lo bo = bo' at *
      clear hx hA Hlo hcar
      go_wp2
      go_roundw
      case rel =>
        refine ⟨k + 1, hi, bo', upd f' (o + k) u, by omega, by go_num, rfl, rfl, hsb, hhi, set_nat hrow' (o + k) _ _ rfl, upd_lt f' (o + k) _ N (fun j hj _ => hf' j hj) hmod, ?_, Hst.out, hb.setCell (Nat.le_refl b) _, ?_⟩
        · intro j hj
          rw [upd_ne _ _ _ _ (by omega)]
          exact HFar.out j (by omega)
        · exact ⟨by rw [nblk_setCell]; exact HZ.out.1, HZ.out.2.setCell _ _⟩
      case measure => simp [intOf]; omega
    · obtain rfl : k = n := by omega
      have hlt1 : k < k + 1 := by omega
      have hS := hrow'.cell (i := o + k) (by omega)
      have hZ := hrow'.frozen (o + k)
      have hfk := hf' (o + k) (by omega)
      clear hA
      go_wp2_with fail
      refine (c_subWords (f' (o + k)) r bo _ hfk hr hbo).mono ?_
      rintro e w' ⟨rfl, rfl⟩
      have Hst : Hid (vl (fun j => upd f' (o + k) ((f' (o + k) + 2 * W64 - r - bo) % W64) (o + j)) (k + 1) + vl a k * q = vl (fun j => f (o + j)) (k + 1) + sbw (f' (o + k)) r bo * W64 ^ (k + 1)) := by
        show _ = _
        have h9 := sub_mod_step (f' (o + k)) r bo hfk hr hbo (W64 ^ k)
        have h8 := HV.out
        have h7 : (if f' (o + k) < r + bo then 1 else 0) = sbw (f' (o + k)) r bo := rfl
        rw [h7, HFar.out (o + k) (.inr (Nat.le_refl _))] at h9
        rw [vl_succ, vl_succ, vl_congr _ (fun j => f' (o + j)) k (fun j hj => upd_ne _ _ _ _ (by omega)), upd_same, HFar.out (o + k) (.inr (Nat.le_refl _)), Nat.pow_succ]
        rw [Nat.add_mul] at h8
        omega
      have hmod : (f' (o + k) + 2 * W64 - r - bo) % W64 < W64 := Nat.mod_lt _ W64_pos
      have hsb : sbw (f' (o + k)) r bo ≤ 1 := by unfold sbw; split <;> omega
      generalize (f' (o + k) + 2 * W64 - r - bo) % W64 = u at *
      generalize sbw (f' (o + k)) r bo = t at *
      have HE : Hid (∀ W, W = wr.setCell ⟨b, o + k, none⟩ (U u) → W.rowIs b 71 N (fun j => U (upd f' (o + k) u j)) ∧ (∀ j, j < N → upd f' (o + k) u j < W64) ∧ (∀ j, j < o ∨ o + k + 1 ≤ j → upd f' (o + k) u j = f j) ∧ Below b w W ∧ W.heap.size = w.heap.size ∧ Apart b w W) := by
        intro W hW
        subst hW
        refine ⟨set_nat hrow' (o + k) _ _ rfl, upd_lt f' (o + k) _ N (fun j hj _ => hf' j hj) hmod, ?_, hb.setCell (Nat.le_refl b) _, ?_⟩
        · intro j hj
          rw [upd_ne _ _ _ _ (by omega)]
          exact HFar.out j (by omega)
        · exact ⟨by rw [nblk_setCell]; exact HZ.out.1, HZ.out.2.setCell _ _⟩
      rcases (by omega : t = 0 ∨ t = 1) with rfl | rfl
      · go_wp2
        go_ret
        obtain ⟨e1, e2, e3, e4, e5⟩ := HE.out _ rfl
        exact ⟨0, upd f' (o + k) u, rfl, by omega, e1, e2, e3, Hst.out, e4, e5⟩
      · go_wp2
        go_ret
        obtain ⟨e1, e2, e3, e4, e5⟩ := HE.out _ rfl
        exact ⟨1, upd f' (o + k) u, rfl, by omega, e1, e2, e3, Hst.out, e4, e5⟩
end Go.Proofs.YtnfncdalneifnaaGreatDoor

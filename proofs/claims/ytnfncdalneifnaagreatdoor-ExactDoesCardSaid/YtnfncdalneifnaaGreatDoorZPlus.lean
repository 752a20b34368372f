/- Adding natural numbers: what the call returns, for slices that hold the words of a number. -/
import Derived.Test.YtnfncdalneifnaaGreatDoorZLeaf
import Derived.Test.YtnfncdalneifnaaGreatDoorZMath
import Derived.Deep.Heap
namespace Go.Proofs.YtnfncdalneifnaaGreatDoor
open Go.RowKit Go.Deep

theorem info_u64 : (Tryz.prog.info? 71).map (fun i => (i.zero, i.size, i.bytes)) = some (some (.int .u64 0), 1, 8) := by kernel_rfl

theorem set_nat {w : World} {b t n : Nat} {f : Nat → Nat} (h : w.rowIs b t n fun j => U (f j)) (i v : Nat) (u : Value) (hu : u = U v) : (w.setCell ⟨b, i, none⟩ u).rowIs b t n fun j => U (upd f i v j) := by
  subst hu
  refine (h.set i _).congr fun j _ => ?_
  unfold upd
  by_cases e : j = i
  · simp only [if_pos e]
  · simp only [if_neg e]

/-- A call that returned a slice with the words of x, in memory that existed or is new; what existed has not changed. -/
def NatRes (x : Nat) (w : World) (e : Ending) (w' : World) : Prop :=
  ∃ A c, e = .returned (.slice A (nw x) c) ∧ nw x ≤ c ∧ c ≤ 9223372036854775807 ∧ Wd w' w'.heap.size A (nw x) (dig x) ∧ Below w.heap.size w w'

set_option maxHeartbeats 400000 in
theorem c_atN (w : World) (B : Nat) (A : Option Addr) (n c i x : Nat) (h : Wd w B A n (dig x)) (hx : x < W64 ^ n) :
    Calls Tryz.prog 90 #[.slice A n c, .int .i64 i] w fun e w' => e = .returned (U (dig x i)) ∧ w = w' := by
  refine (c_at w B A n c i (dig x) h).mono ?_
  rintro e w' ⟨rfl, rfl⟩
  refine ⟨ret_i ?_, rfl⟩
  by_cases hi : i < n
  · rw [if_pos hi]
  · rw [if_neg hi, dig_ge x n i hx (by omega)]

set_option maxHeartbeats 1000000 in
theorem c_plus_ge (w : World) (B : Nat) (A A' : Option Addr) (c c' x y : Nat) (h : Wd w B A (nw x) (dig x)) (h' : Wd w B A' (nw y) (dig y)) (hB : B ≤ w.heap.size)
    (hn : nw x ≤ 1000000000) (hle : nw y ≤ nw x) :
    Calls Tryz.prog 46 #[.slice A (nw x) c, .slice A' (nw y) c'] w fun e w' => NatRes (x + y) w e w' := by
  have HX : Hid (vl (dig x) (nw x) = x) := vl_dig_lt x _ (lt_nw x)
  have HY : Hid (vl (dig y) (nw x) = y) := vl_dig_lt y _ (Nat.lt_of_lt_of_le (lt_nw y) (Nat.pow_le_pow_right W64_pos hle))
  have HY' : Hid (y < W64 ^ nw y) := lt_nw y
  generalize nw x = m at *
  generalize nw y = m' at *
  have hmk := fun W => run_make_row' (P := Tryz.prog) 76 71 (.int .u64 0) 8 Tryz.underlying76 info_u64 rfl .i64 .i64 (m + 1) (by omega) (by omega) W
  simp only [Int.natCast_add, Int.natCast_one] at hmk
  have hd : decide (m < m') = false := by simp; omega
  go_enter Tryz.func46, Tryz.ntmps46
  go_wp2
  clear hmk
  go_loopw [6, 7, 8, 22] (fun cy _ _ i wr => ∃ (k q : Nat) (f : Nat → Nat), k ≤ m ∧ i = .int .i64 k ∧ cy = U q ∧ q ≤ 1 ∧ wr.rowIs w.heap.size 71 (m + 1) (fun j => U (f j)) ∧ (∀ j, j < k → f j < W64) ∧
    Hid (vl f k + q * W64 ^ k = vl (dig x) k + vl (dig y) k) ∧ Below w.heap.size w wr) (fun _ _ _ i _ => m - (intOf i).toNat)
  case atStart =>
    exact ⟨0, 0, fun _ => 0, by omega, rfl, rfl, by omega, World.rowIs_made _ _ _ _, fun j hj => absurd hj (by omega), by show vl _ 0 + 0 * _ = _; simp [vl], (Below.refl _ _).alloc (Nat.le_refl _) _⟩
  case round =>
    obtain ⟨k, q, f, hk, rfl, rfl, hq, hrow, hf, HV, hb⟩ := hrel
    have hsz : w.heap.size < wr.heap.size := hrow.lt
    by_cases hlt : k < m
    · have hx := h.below (hb.mono hB)
      have hy := h'.below (hb.mono hB)
      obtain ⟨b, o, rfl, hcell⟩ := hx.at_ hlt
      have hS := hrow.cell (i := k) (by omega)
      have hZ := hrow.frozen k
      have hdx := dig_lt x k
      have hdy := dig_lt y k
      go_wp2_with fail
      refine (c_atN wr B A' m' c' k y hy HY'.out).mono ?_
      rintro e w' ⟨rfl, rfl⟩
      go_wp2_with fail
      refine (c_addWords _ _ _ _ hdx hdy hq).mono ?_
      rintro e w' ⟨rfl, rfl⟩
      clear h h' hx hy
      go_wp2
      go_roundw
      case rel =>
        refine ⟨k + 1, (dig x k + dig y k + q) / W64, upd f k ((dig x k + dig y k + q) % W64), by omega, by go_num, rfl, ?_, set_nat hrow k _ _ (by go_num), ?_, ?_, hb.setCell (Nat.le_refl w.heap.size) _⟩
        · clear HX HY HV HY'
          unfold W64 at *
          omega
        · exact upd_lt f k _ (k + 1) (fun j hj _ => hf j (by omega)) (Nat.mod_lt _ W64_pos)
        · exact add_step f (dig x) (dig y) _ k q (fun j hj => upd_ne _ _ _ _ (by omega)) (upd_same _ _ _) HV.out
      case measure => simp [intOf]; omega
    · obtain rfl : k = m := by omega
      have hS := hrow.cell (i := k) (by omega)
      have hZ := hrow.frozen k
      have hg := upd_lt f k q (k + 1) (fun j hj _ => hf j (by omega)) (by unfold W64; omega)
      have hval : vl (upd f k q) (k + 1) = x + y := by rw [vl_upd, HV.out, HX.out, HY.out]
      have HG : Hid (x + y < W64 ^ (k + 1)) := by
        show x + y < W64 ^ (k + 1)
        rw [← hval]; exact vl_lt _ _ hg
      have HW : Hid (Wd (wr.setCell ⟨w.heap.size, k, none⟩ (U q)) wr.heap.size (some ⟨w.heap.size, 0, none⟩) (k + 1) (dig (x + y))) := by
        have h1 := Wd.row (g := dig (x + y)) (set_nat hrow k q (U q) rfl) fun j hj => by rw [← hval, dig_vl _ _ hg j hj]
        rw [nblk_setCell] at h1
        exact h1
      have HB : Hid (Below w.heap.size w (wr.setCell ⟨w.heap.size, k, none⟩ (U q))) := hb.setCell (Nat.le_refl _) _
      clear hg hval hf h h'
      go_wp2_with fail
      refine (c_trimmed _ wr.heap.size _ _ _ (x + y) HW.out HG.out (Nat.le_refl _) (by omega)).mono ?_
      rintro e w' ⟨rfl, rfl⟩
      go_wp2
      go_ret
      exact ⟨_, _, rfl, (nw_le _ _).2 HG.out, by omega, (HW.out.take ((nw_le _ _).2 HG.out)).more (by simp), HB.out⟩
set_option maxHeartbeats 1000000 in
theorem c_plus_lt (w : World) (B : Nat) (A A' : Option Addr) (c c' x y : Nat) (h : Wd w B A (nw x) (dig x)) (h' : Wd w B A' (nw y) (dig y)) (hB : B ≤ w.heap.size)
    (hn : nw x ≤ 1000000000) (hle' : nw y < nw x) :
    Calls Tryz.prog 46 #[.slice A' (nw y) c', .slice A (nw x) c] w fun e w' => NatRes (x + y) w e w' := by
  have hle : nw y ≤ nw x := by omega
  have HX : Hid (vl (dig x) (nw x) = x) := vl_dig_lt x _ (lt_nw x)
  have HY : Hid (vl (dig y) (nw x) = y) := vl_dig_lt y _ (Nat.lt_of_lt_of_le (lt_nw y) (Nat.pow_le_pow_right W64_pos hle))
  have HY' : Hid (y < W64 ^ nw y) := lt_nw y
  generalize nw x = m at *
  generalize nw y = m' at *
  have hmk := fun W => run_make_row' (P := Tryz.prog) 76 71 (.int .u64 0) 8 Tryz.underlying76 info_u64 rfl .i64 .i64 (m + 1) (by omega) (by omega) W
  simp only [Int.natCast_add, Int.natCast_one] at hmk
  have hd : decide (m' < m) = true := by simp; omega
  go_enter Tryz.func46, Tryz.ntmps46
  go_wp2
  clear hmk
  go_loopw [6, 7, 8, 22] (fun cy _ _ i wr => ∃ (k q : Nat) (f : Nat → Nat), k ≤ m ∧ i = .int .i64 k ∧ cy = U q ∧ q ≤ 1 ∧ wr.rowIs w.heap.size 71 (m + 1) (fun j => U (f j)) ∧ (∀ j, j < k → f j < W64) ∧
    Hid (vl f k + q * W64 ^ k = vl (dig x) k + vl (dig y) k) ∧ Below w.heap.size w wr) (fun _ _ _ i _ => m - (intOf i).toNat)
  case atStart =>
    exact ⟨0, 0, fun _ => 0, by omega, rfl, rfl, by omega, World.rowIs_made _ _ _ _, fun j hj => absurd hj (by omega), by show vl _ 0 + 0 * _ = _; simp [vl], (Below.refl _ _).alloc (Nat.le_refl _) _⟩
  case round =>
    obtain ⟨k, q, f, hk, rfl, rfl, hq, hrow, hf, HV, hb⟩ := hrel
    have hsz : w.heap.size < wr.heap.size := hrow.lt
    by_cases hlt : k < m
    · have hx := h.below (hb.mono hB)
      have hy := h'.below (hb.mono hB)
      obtain ⟨b, o, rfl, hcell⟩ := hx.at_ hlt
      have hS := hrow.cell (i := k) (by omega)
      have hZ := hrow.frozen k
      have hdx := dig_lt x k
      have hdy := dig_lt y k
      go_wp2_with fail
      refine (c_atN wr B A' m' c' k y hy HY'.out).mono ?_
      rintro e w' ⟨rfl, rfl⟩
      go_wp2_with fail
      refine (c_addWords _ _ _ _ hdx hdy hq).mono ?_
      rintro e w' ⟨rfl, rfl⟩
      clear h h' hx hy
      go_wp2
      go_roundw
      case rel =>
        refine ⟨k + 1, (dig x k + dig y k + q) / W64, upd f k ((dig x k + dig y k + q) % W64), by omega, by go_num, rfl, ?_, set_nat hrow k _ _ (by go_num), ?_, ?_, hb.setCell (Nat.le_refl w.heap.size) _⟩
        · clear HX HY HV HY'
          unfold W64 at *
          omega
        · exact upd_lt f k _ (k + 1) (fun j hj _ => hf j (by omega)) (Nat.mod_lt _ W64_pos)
        · exact add_step f (dig x) (dig y) _ k q (fun j hj => upd_ne _ _ _ _ (by omega)) (upd_same _ _ _) HV.out
      case measure => simp [intOf]; omega
    · clear hle'
      obtain rfl : k = m := by omega
      have hS := hrow.cell (i := k) (by omega)
      have hZ := hrow.frozen k
      have hg := upd_lt f k q (k + 1) (fun j hj _ => hf j (by omega)) (by unfold W64; omega)
      have hval : vl (upd f k q) (k + 1) = x + y := by rw [vl_upd, HV.out, HX.out, HY.out]
      have HG : Hid (x + y < W64 ^ (k + 1)) := by
        show x + y < W64 ^ (k + 1)
        rw [← hval]; exact vl_lt _ _ hg
      have HW : Hid (Wd (wr.setCell ⟨w.heap.size, k, none⟩ (U q)) wr.heap.size (some ⟨w.heap.size, 0, none⟩) (k + 1) (dig (x + y))) := by
        have h1 := Wd.row (g := dig (x + y)) (set_nat hrow k q (U q) rfl) fun j hj => by rw [← hval, dig_vl _ _ hg j hj]
        rw [nblk_setCell] at h1
        exact h1
      have HB : Hid (Below w.heap.size w (wr.setCell ⟨w.heap.size, k, none⟩ (U q))) := hb.setCell (Nat.le_refl _) _
      clear hg hval hf h h'
      go_wp2_with fail
      refine (c_trimmed _ wr.heap.size _ _ _ (x + y) HW.out HG.out (Nat.le_refl _) (by omega)).mono ?_
      rintro e w' ⟨rfl, rfl⟩
      go_wp2
      go_ret
      exact ⟨_, _, rfl, (nw_le _ _).2 HG.out, by omega, (HW.out.take ((nw_le _ _).2 HG.out)).more (by simp), HB.out⟩
/-- The sum, whichever of the two is longer. -/
theorem c_plus (w : World) (B : Nat) (A A' : Option Addr) (c c' x y : Nat) (h : Wd w B A (nw x) (dig x)) (h' : Wd w B A' (nw y) (dig y)) (hB : B ≤ w.heap.size)
    (hn : nw x ≤ 1000000000) (hn' : nw y ≤ 1000000000) :
    Calls Tryz.prog 46 #[.slice A (nw x) c, .slice A' (nw y) c'] w fun e w' => NatRes (x + y) w e w' := by
  rcases Nat.lt_or_ge (nw x) (nw y) with hl | hl
  · rw [Nat.add_comm]
    exact c_plus_lt w B A' A c' c y x h' h hB hn' hl
  · exact c_plus_ge w B A A' c c' x y h h' hB hn hl
end Go.Proofs.YtnfncdalneifnaaGreatDoor

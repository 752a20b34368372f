/- The type of the result of an operation: every operation. -/
import Derived.Test.YtfkjfeobhbocjaaGreatDoorTyp3
namespace Go.Proofs.YtfkjfeobhbocjaaGreatDoor
open Go.RowKit Go.Deep

set_option maxRecDepth 100000 in
set_option maxHeartbeats 4000000 in
theorem t_none (w : World) (op : Int) (A : Option Addr) (n cap : Nat) (h : opn op = 0 ∨ opn op ≠ n) :
    Calls Tryz.prog 7 #[.int .i64 op, .slice A n cap] w fun e w' => e = .returned (.tuple #[.int .i64 0, .int .i64 2]) ∧ Below w.heap.size w w' := by
  have HF := Lib.hid (fun W => f_none W op n (by omega) h)
  clear h
  go_enter Tryz.func7, Tryz.ntmps7
  go_wp2_with fail
  refine (HF.out _).mono ?_
  rintro e w1 ⟨rfl, hb1⟩
  have B1 : Hid (Below w.heap.size w w1) := hb1
  have hz1 : w.heap.size ≤ w1.heap.size := hb1.size
  clear hb1 HF
  go_wp2_with (first | (refine wpList_store_row 66 _ _ rfl rfl rfl w1.heap.size 66 rfl z7 rfl _ (heap_alloc_new w1 _) rfl info_op z7_one ?_; intro w2 hh2 hg2 hz2; have B2 : Hid (Below w.heap.size w w2) := (B1.out.alloc (by omega) _).grown hg2 (by simp; omega) (fun j hj => by injection hj with hj; omega); have hl2 : w1.heap.size < w2.heap.size := (by rw [hz2]; simp); have HL2 := Lib.hid hh2; clear hz2 hg2 hh2))
  go_ret2
  exact ⟨rfl, B2.out⟩

/-- What an operation needs of its operands, and what its result is. -/
def rowN (op : Int) : Nat → Int := if op = 4 then n3 2 0 0 else if op = 5 ∨ op = 6 then n3 3 0 0 else if op = 7 ∨ op = 8 then n3 1 0 0 else if 9 ≤ op ∧ op ≤ 12 then n3 3 3 0 else if 13 ≤ op ∧ op ≤ 18 then n3 4 4 0 else if op = 19 ∨ op = 20 then n3 2 2 0 else if op = 21 then n3 4 4 0 else n3 2 4 4
def rowR (op : Int) : Int := if op = 4 ∨ op = 7 ∨ (13 ≤ op ∧ op ≤ 20) then 1 else if op = 6 ∨ op = 8 then 2 else if op = 12 then 3 else 0

theorem c_Type (w : World) (op : Int) (A : Option Addr) (n cap : Nat) (ts : Nat → Int) (h : Ints w A n ts) (h1 : opn op = n) (h2 : n ≠ 0) :
    Calls Tryz.prog 7 #[.int .i64 op, .slice A n cap] w fun e w' => ((allTy n ts → e = .returned (tyRes (rowR op) (foldT (rowN op) ts n))) ∧ (¬ allTy n ts → e = .returned (.tuple #[.int .i64 0, .int .i64 2]))) ∧ Below w.heap.size w w' := by
  have hk : op = 4 ∨ op = 5 ∨ op = 6 ∨ op = 7 ∨ op = 8 ∨ op = 9 ∨ op = 10 ∨ op = 11 ∨ op = 12 ∨ op = 13 ∨ op = 14 ∨ op = 15 ∨ op = 16 ∨ op = 17 ∨ op = 18 ∨ op = 19 ∨ op = 20 ∨ op = 21 ∨ op = 22 := by unfold opn at h1; split at h1 <;> omega
  rcases hk with rfl | rfl | rfl | rfl | rfl | rfl | rfl | rfl | rfl | rfl | rfl | rfl | rfl | rfl | rfl | rfl | rfl | rfl | rfl
  · obtain rfl : n = 1 := by simp [opn] at h1; omega
    exact t_found w 4 A 1 cap 1 2 0 0 1 false _ ts (by omega) h (fun W => f_op4 W)
  · obtain rfl : n = 1 := by simp [opn] at h1; omega
    exact t_found w 5 A 1 cap 1 3 0 0 0 false _ ts (by omega) h (fun W => f_op5 W)
  · obtain rfl : n = 1 := by simp [opn] at h1; omega
    exact t_found w 6 A 1 cap 1 3 0 0 2 false _ ts (by omega) h (fun W => f_op6 W)
  · obtain rfl : n = 1 := by simp [opn] at h1; omega
    exact t_found w 7 A 1 cap 1 1 0 0 1 true _ ts (by omega) h (fun W => f_op7 W)
  · obtain rfl : n = 1 := by simp [opn] at h1; omega
    exact t_found w 8 A 1 cap 1 1 0 0 2 true _ ts (by omega) h (fun W => f_op8 W)
  · obtain rfl : n = 2 := by simp [opn] at h1; omega
    exact t_found w 9 A 2 cap 2 3 3 0 0 false _ ts (by omega) h (fun W => f_op9 W)
  · obtain rfl : n = 2 := by simp [opn] at h1; omega
    exact t_found w 10 A 2 cap 2 3 3 0 0 false _ ts (by omega) h (fun W => f_op10 W)
  · obtain rfl : n = 2 := by simp [opn] at h1; omega
    exact t_found w 11 A 2 cap 2 3 3 0 0 false _ ts (by omega) h (fun W => f_op11 W)
  · obtain rfl : n = 2 := by simp [opn] at h1; omega
    exact t_found w 12 A 2 cap 2 3 3 0 3 false _ ts (by omega) h (fun W => f_op12 W)
  · obtain rfl : n = 2 := by simp [opn] at h1; omega
    exact t_found w 13 A 2 cap 2 4 4 0 1 false _ ts (by omega) h (fun W => f_op13 W)
  · obtain rfl : n = 2 := by simp [opn] at h1; omega
    exact t_found w 14 A 2 cap 2 4 4 0 1 false _ ts (by omega) h (fun W => f_op14 W)
  · obtain rfl : n = 2 := by simp [opn] at h1; omega
    exact t_found w 15 A 2 cap 2 4 4 0 1 false _ ts (by omega) h (fun W => f_op15 W)
  · obtain rfl : n = 2 := by simp [opn] at h1; omega
    exact t_found w 16 A 2 cap 2 4 4 0 1 false _ ts (by omega) h (fun W => f_op16 W)
  · obtain rfl : n = 2 := by simp [opn] at h1; omega
    exact t_found w 17 A 2 cap 2 4 4 0 1 false _ ts (by omega) h (fun W => f_op17 W)
  · obtain rfl : n = 2 := by simp [opn] at h1; omega
    exact t_found w 18 A 2 cap 2 4 4 0 1 false _ ts (by omega) h (fun W => f_op18 W)
  · obtain rfl : n = 2 := by simp [opn] at h1; omega
    exact t_found w 19 A 2 cap 2 2 2 0 1 true _ ts (by omega) h (fun W => f_op19 W)
  · obtain rfl : n = 2 := by simp [opn] at h1; omega
    exact t_found w 20 A 2 cap 2 2 2 0 1 true _ ts (by omega) h (fun W => f_op20 W)
  · obtain rfl : n = 2 := by simp [opn] at h1; omega
    exact t_found w 21 A 2 cap 2 4 4 0 0 true _ ts (by omega) h (fun W => f_op21 W)
  · obtain rfl : n = 3 := by simp [opn] at h1; omega
    exact t_found w 22 A 3 cap 3 2 4 4 0 true _ ts (by omega) h (fun W => f_op22 W)
end Go.Proofs.YtfkjfeobhbocjaaGreatDoor

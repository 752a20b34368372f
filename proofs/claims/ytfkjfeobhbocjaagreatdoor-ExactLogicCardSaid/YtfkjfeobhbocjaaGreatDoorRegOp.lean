/- The operations of a region, one by one: what each leaves in its slot. -/
import Derived.Test.YtfkjfeobhbocjaaGreatDoorRegInv
import Derived.Test.YtfkjfeobhbocjaaGreatDoorEx
namespace Go.Proofs.YtfkjfeobhbocjaaGreatDoor
open Go Go.RowKit Go.Deep
section
variable {ops : Array Oper} {Q : Exit → Act → World → Prop} {K : Act → World → Prop} {a : Act} {w : World}
abbrev putSlot (a : Act) (d : Nat) (v : Value) : Act := { tmps := a.tmps.setIfInBounds d v, defers := a.defers }

theorem wpOp_of {P : Program} {i : Nat} {o : Oper} (ho : ops[i]? = some o) (hg : o.guard = none ∨ ∃ g b x t, o.guard = some (g, b) ∧ ops[g]? = some x ∧ x.dst = some t ∧ slot a t = .bool b) (h : o.wp P a w K Q) : wpOp P ops Q i K a w := by
  unfold wpOp
  rw [ho]
  have hw : Region.wanted o (yielded ops a.tmps) = true := by
    rcases hg with hg | ⟨g, b, x, t, hg, hx, ht, hs⟩
    · simp [Region.wanted, hg]
    · have hs' : a.tmps[t]?.getD undef = .bool b := hs
      have h9 : a.tmps[t]? = some (.bool b) := by
        cases h9 : a.tmps[t]? with
        | none => rw [h9] at hs'; cases hs'
        | some v => rw [h9] at hs'; exact congrArg some hs'
      simp [Region.wanted, hg, yielded, hx, ht, h9]
  simp only [hw, if_true]
  exact .inl h

theorem op_move {o : Oper} {d t : Nat} {v : Value} (ho : o.op = .move (.tmp t)) (hd : o.dst = some d) (hs : slot a t = v) (h : K (putSlot a d v) w) : o.wp Tryz.prog a w K Q := by
  obtain ⟨op, dst, ty, pos, after, guard⟩ := o
  dsimp only at ho hd
  subst ho hd
  have hs' : a.tmps[t]?.getD undef = v := hs
  unfold Oper.wp
  go_simp
  exact h
theorem op_assign {o : Oper} {d t : Nat} {v : Value} (ho : o.op = .assign (.tmp t)) (hd : o.dst = some d) (hs : slot a t = v) (h : K (putSlot a d v) w) : o.wp Tryz.prog a w K Q := by
  obtain ⟨op, dst, ty, pos, after, guard⟩ := o
  dsimp only at ho hd
  subst ho hd
  have hs' : a.tmps[t]?.getD undef = v := hs
  unfold Oper.wp
  go_simp
  exact h
theorem op_loadV {o : Oper} {d t b : Nat} {k n dd : Int} {s : ByteArray} (ho : o.op = .load 46 (.tmp t)) (hd : o.dst = some d) (hs : slot a t = .pointer (some ⟨b, 0, none⟩))
    (hc : w.cell? ⟨b, 0, none⟩ = some (.int .i64 k) ∧ w.cell? ⟨b, 1, none⟩ = some (.int .i64 n) ∧ w.cell? ⟨b, 2, none⟩ = some (.int .i64 dd) ∧ w.cell? ⟨b, 3, none⟩ = some (.string s)) (h : K (putSlot a d (V k n dd s)) w) : o.wp Tryz.prog a w K Q := by
  obtain ⟨op, dst, ty, pos, after, guard⟩ := o
  dsimp only at ho hd
  subst ho hd
  have hs' : a.tmps[t]?.getD undef = .pointer (some ⟨b, 0, none⟩) := hs
  obtain ⟨c0, c1, c2, c3⟩ := hc
  unfold Oper.wp
  go_simp
  exact h
theorem op_slice1 {o : Oper} {d t : Nat} {k n dd : Int} {s : ByteArray} (ho : o.op = .buildSlice 51 1 #[(0, .tmp t)]) (hd : o.dst = some d) (hs : slot a t = V k n dd s)
    (h : K (putSlot a d (.slice (some ⟨w.heap.size, 0, none⟩) 1 1)) (w.alloc (.cells #[.int .i64 k, .int .i64 n, .int .i64 dd, .string s] 46))) : o.wp Tryz.prog a w K Q := by
  obtain ⟨op, dst, ty, pos, after, guard⟩ := o
  dsimp only at ho hd
  subst ho hd
  have hs' : a.tmps[t]?.getD undef = V k n dd s := hs
  unfold Oper.wp
  go_simp
  exact h
theorem op_slice2 {o : Oper} {d t t' : Nat} {k n dd : Int} {s : ByteArray} {k' n' dd' : Int} {s' : ByteArray} (ho : o.op = .buildSlice 51 2 #[(0, .tmp t), (1, .tmp t')]) (hd : o.dst = some d) (hs : slot a t = V k n dd s) (hs2 : slot a t' = V k' n' dd' s')
    (h : K (putSlot a d (.slice (some ⟨w.heap.size, 0, none⟩) 2 2)) (w.alloc (.cells #[.int .i64 k, .int .i64 n, .int .i64 dd, .string s, .int .i64 k', .int .i64 n', .int .i64 dd', .string s'] 46))) : o.wp Tryz.prog a w K Q := by
  obtain ⟨op, dst, ty, pos, after, guard⟩ := o
  dsimp only at ho hd
  subst ho hd
  have hs' : a.tmps[t]?.getD undef = V k n dd s := hs
  have hs2' : a.tmps[t']?.getD undef = V k' n' dd' s' := hs2
  unfold Oper.wp
  go_simp
  exact h
theorem op_alloc {o : Oper} {d : Nat} (ho : o.op = .alloc 46) (hd : o.dst = some d)
    (h : K (putSlot a d (.pointer (some ⟨w.heap.size, 0, none⟩))) (w.alloc (.cells #[.int .i64 0, .int .i64 0, .int .i64 0, .string ⟨#[]⟩] 46))) : o.wp Tryz.prog a w K Q := by
  obtain ⟨op, dst, ty, pos, after, guard⟩ := o
  dsimp only at ho hd
  subst ho hd
  unfold Oper.wp
  go_simp
  exact h
theorem op_neqV {o : Oper} {d t t' : Nat} {k n : Int} (ho : o.op = .binOp .neq 46 (.tmp t) (.tmp t') 46) (hd : o.dst = some d) (hs : slot a t = V k n 0 noS) (hs2 : slot a t' = V k n 0 noS)
    (h : K (putSlot a d (.bool false)) w) : o.wp Tryz.prog a w K Q := by
  obtain ⟨op, dst, ty, pos, after, guard⟩ := o
  dsimp only at ho hd
  subst ho hd
  have hs' : a.tmps[t]?.getD undef = V k n 0 noS := hs
  have hs2' : a.tmps[t']?.getD undef = V k n 0 noS := hs2
  unfold Oper.wp
  go_simp
  exact h
theorem op_eqlV {o : Oper} {d t t' : Nat} {k n : Int} (ho : o.op = .binOp .eql 46 (.tmp t) (.tmp t') 46) (hd : o.dst = some d) (hs : slot a t = V k n 0 noS) (hs2 : slot a t' = V k n 0 noS)
    (h : K (putSlot a d (.bool true)) w) : o.wp Tryz.prog a w K Q := by
  obtain ⟨op, dst, ty, pos, after, guard⟩ := o
  dsimp only at ho hd
  subst ho hd
  have hs' : a.tmps[t]?.getD undef = V k n 0 noS := hs
  have hs2' : a.tmps[t']?.getD undef = V k n 0 noS := hs2
  unfold Oper.wp
  go_simp
  exact h
theorem op_pickF {o : Oper} {d t t' : Nat} {v : Value} (ho : o.op = .pick (.tmp t) (.const (.bool true)) (.tmp t')) (hd : o.dst = some d) (hs : slot a t = .bool false) (hs2 : slot a t' = v)
    (h : K (putSlot a d v) w) : o.wp Tryz.prog a w K Q := by
  obtain ⟨op, dst, ty, pos, after, guard⟩ := o
  dsimp only at ho hd
  subst ho hd
  have hs' : a.tmps[t]?.getD undef = .bool false := hs
  have hs2' : a.tmps[t']?.getD undef = v := hs2
  unfold Oper.wp
  go_simp
  exact h
theorem op_pickT {o : Oper} {d t t' : Nat} {v : Value} (ho : o.op = .pick (.tmp t) (.tmp t') (.const (.bool false))) (hd : o.dst = some d) (hs : slot a t = .bool true) (hs2 : slot a t' = v)
    (h : K (putSlot a d v) w) : o.wp Tryz.prog a w K Q := by
  obtain ⟨op, dst, ty, pos, after, guard⟩ := o
  dsimp only at ho hd
  subst ho hd
  have hs' : a.tmps[t]?.getD undef = .bool true := hs
  have hs2' : a.tmps[t']?.getD undef = v := hs2
  unfold Oper.wp
  go_simp
  exact h
end
end Go.Proofs.YtfkjfeobhbocjaaGreatDoor

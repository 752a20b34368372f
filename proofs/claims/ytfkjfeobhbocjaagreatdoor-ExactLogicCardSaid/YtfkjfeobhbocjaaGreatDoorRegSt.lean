/- Regions with two boxes that are filled at the end. -/
import Derived.Test.YtfkjfeobhbocjaaGreatDoorRegKn
namespace Go.Proofs.YtfkjfeobhbocjaaGreatDoor
open Go Go.RowKit Go.Deep
section
variable {ops : Array Oper} {Q : Exit → Act → World → Prop} {K : Act → World → Prop} {a : Act} {w : World}
theorem op_storeV {o : Oper} {t s b : Nat} {k n dd : Int} {x : ByteArray} (ho : o.op = .store 46 (.tmp t) (.tmp s)) (hd : o.dst = none) (hs : slot a t = .pointer (some ⟨b, 0, none⟩)) (hv : slot a s = V k n dd x)
    (hb : w.heap[b]? = some (.cells #[.int .i64 0, .int .i64 0, .int .i64 0, .string ⟨#[]⟩] 46 (0, 0))) (h : K a ((((w.setCell ⟨b, 0, none⟩ (.int .i64 k)).setCell ⟨b, 1, none⟩ (.int .i64 n)).setCell ⟨b, 2, none⟩ (.int .i64 dd)).setCell ⟨b, 3, none⟩ (.string x))) : o.wp Tryz.prog a w K Q := by
  obtain ⟨op, dst, ty, pos, after, guard⟩ := o
  dsimp only at ho hd
  subst ho hd
  have hs' : a.tmps[t]?.getD undef = .pointer (some ⟨b, 0, none⟩) := hs
  have hv' : a.tmps[s]?.getD undef = V k n dd x := hv
  obtain ⟨r0, r1, r2, r3, f0, f1, f2, f3⟩ := res_at hb
  unfold Oper.wp
  go_simp
  exact h
end
end Go.Proofs.YtfkjfeobhbocjaaGreatDoor

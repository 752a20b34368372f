/- Finding an operation by its number and its number of operands. -/
import Derived.Test.YtmhggphkhabjlaaGreatDoorZOps
import Derived.Laws.Rows

/- Finding an operation by its number and its number of operands. -/
section
namespace Go.Proofs.YtmhggphkhabjlaaGreatDoor
open Go.RowKit Go.Deep

end Go.Proofs.YtmhggphkhabjlaaGreatDoor
end

/- Whether values suit an operation; missing values. -/
section
namespace Go.Proofs.YtmhggphkhabjlaaGreatDoor
open Go.RowKit Go.Deep

/-- The four cells of a value at an address. -/
def ValIn (w : World) (b o : Nat) (k n d : Int) (s : ByteArray) : Prop := w.cell? ⟨b, o, none⟩ = some (.int .i64 k) ∧ w.cell? ⟨b, o + 1, none⟩ = some (.int .i64 n) ∧ w.cell? ⟨b, o + 2, none⟩ = some (.int .i64 d) ∧ w.cell? ⟨b, o + 3, none⟩ = some (.string s)
theorem ValIn.below {w w' : World} {B b o : Nat} {k n d : Int} {s : ByteArray} (h : ValIn w b o k n d s) (hb : Below B w w') (hl : b < B) : ValIn w' b o k n d s :=
  ⟨(hb.cell (p := ⟨b, o, none⟩) hl).trans h.1, (hb.cell (p := ⟨b, o + 1, none⟩) hl).trans h.2.1, (hb.cell (p := ⟨b, o + 2, none⟩) hl).trans h.2.2.1, (hb.cell (p := ⟨b, o + 3, none⟩) hl).trans h.2.2.2⟩

end Go.Proofs.YtmhggphkhabjlaaGreatDoor
end

/- What the operations compute, where values are missing or Booleans. -/
section
namespace Go.Proofs.YtmhggphkhabjlaaGreatDoor
open Go.RowKit Go.Deep

end Go.Proofs.YtmhggphkhabjlaaGreatDoor
end

/- Operations done on values. -/
section
namespace Go.Proofs.YtmhggphkhabjlaaGreatDoor
open Go.RowKit Go.Deep

end Go.Proofs.YtmhggphkhabjlaaGreatDoor
end

/- The operation that chooses by a Boolean, at the chapter's example; operations that are not done. -/
section
namespace Go.Proofs.YtmhggphkhabjlaaGreatDoor
open Go.RowKit Go.Deep

end Go.Proofs.YtmhggphkhabjlaaGreatDoor
end

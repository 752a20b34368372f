/- The array that is returned beside an error. -/
import Derived.Test.YtogmbehomilalaaGreatDoorZCop
namespace Go.Proofs.YtogmbehomilalaaGreatDoor
open Go Go.RowKit Go.Deep

theorem ArUp.grown {W W' : World} {B b : Nat} {p : ArP} {D : ArD} (h : ArUp W B p D) (hg : W.grownBy W' (some b)) (hb : b < B) : ArUp W' B p D := ⟨(h.dims.row.grown hg (h.upA.ne hb)).dims, (h.attrs.row.grown hg (h.upB.ne hb)).attrs, h.cells.grown hg hb, h.upA, h.upB⟩
end Go.Proofs.YtogmbehomilalaaGreatDoor

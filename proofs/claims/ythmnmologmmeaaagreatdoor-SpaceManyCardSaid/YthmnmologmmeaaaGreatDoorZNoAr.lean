/- The array that is returned beside an error. -/
import Derived.Test.YthmnmologmmeaaaGreatDoorZCop
namespace Go.Proofs.YthmnmologmmeaaaGreatDoor
open Go Go.RowKit Go.Deep

/-- The array without anything. -/
def noAr : ArD := ⟨0, fun _ => ⟨#[]⟩, fun _ => 0, fun _ => 0, 0, fun _ => ⟨#[]⟩, fun _ => 0, 0, ⟨fun _ => 0, fun _ => 0, fun _ _ => 0, fun _ _ => 0, fun _ _ => 0, fun _ _ => 0, fun _ _ => ⟨#[]⟩⟩⟩
theorem noAr_at (w : World) : ArAt w ⟨none, 0, none, 0, none, 0⟩ noAr := ⟨fun h => absurd h (Nat.lt_irrefl 0), fun h => absurd h (Nat.lt_irrefl 0), fun h => absurd h (Nat.lt_irrefl 0)⟩
theorem ArUp.grown {W W' : World} {B b : Nat} {p : ArP} {D : ArD} (h : ArUp W B p D) (hg : W.grownBy W' (some b)) (hb : b < B) : ArUp W' B p D := ⟨(h.dims.row.grown hg (h.upA.ne hb)).dims, (h.attrs.row.grown hg (h.upB.ne hb)).attrs, h.cells.grown hg hb, h.upA, h.upB⟩
end Go.Proofs.YthmnmologmmeaaaGreatDoor

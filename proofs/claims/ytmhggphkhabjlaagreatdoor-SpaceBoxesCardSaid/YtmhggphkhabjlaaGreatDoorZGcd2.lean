/- Shifting a natural number to the right in new memory: what the call returns. -/
import Derived.Test.YtmhggphkhabjlaaGreatDoorZUns
import Derived.StillTailTactics
import Derived.Test.YtmhggphkhabjlaaGreatDoorZPlus
import Derived.Test.YtmhggphkhabjlaaGreatDoorZRat
import Derived.Deep.RegionWith
import Derived.Test.YtmhggphkhabjlaaGreatDoorZDivG

/- Shifting a natural number to the right in new memory: what the call returns. -/
section
namespace Go.Proofs.YtmhggphkhabjlaaGreatDoor
open Go.RowKit Go.Deep

end Go.Proofs.YtmhggphkhabjlaaGreatDoor
end

/- Plain numbers: long division word by word. No condition. -/
section
namespace Go.Proofs.YtmhggphkhabjlaaGreatDoor

end Go.Proofs.YtmhggphkhabjlaaGreatDoor
end

/- The difference of two natural numbers times words: what the call returns. -/
section
namespace Go.Proofs.YtmhggphkhabjlaaGreatDoor
open Go.RowKit Go.Deep

end Go.Proofs.YtmhggphkhabjlaaGreatDoor
end

/- Long division of natural numbers: what the call returns. -/
section
namespace Go.Proofs.YtmhggphkhabjlaaGreatDoor
open Go.RowKit Go.Deep

theorem row_below {B b t n : Nat} {w w' : World} {F : Nat → Value} (hb : Below B w w') (hlt : b < B) (hr : w.rowIs b t n F) : w'.rowIs b t n F := by
  obtain ⟨cur, h1, h2⟩ := hr
  exact ⟨cur, (hb.block b hlt).trans h1, h2⟩
end Go.Proofs.YtmhggphkhabjlaaGreatDoor
end

/- Dividing natural numbers of any size: what each call returns. -/
section
namespace Go.Proofs.YtmhggphkhabjlaaGreatDoor
open Go.RowKit Go.Deep

end Go.Proofs.YtmhggphkhabjlaaGreatDoor
end

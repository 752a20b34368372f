/- The string of a text with a quote in it, and of a value that is none. -/
import Derived.Test.YtmhggphkhabjlaaGreatDoorZOps
import Derived.Test.YtmhggphkhabjlaaGreatDoorShelf
import Derived.Test.YtmhggphkhabjlaaGreatDoorZDoes
import Derived.Test.YtmhggphkhabjlaaGreatDoorZIf

/- The string of a text with a quote in it, and of a value that is none. -/
section
namespace Go.Proofs.YtmhggphkhabjlaaGreatDoor
open Go.RowKit Go.Deep

end Go.Proofs.YtmhggphkhabjlaaGreatDoor
end

/- Reading a string that is not one of a number in lowest terms. -/
section
namespace Go.Proofs.YtmhggphkhabjlaaGreatDoor
open Go.RowKit Go.Deep


end Go.Proofs.YtmhggphkhabjlaaGreatDoor
end

/- Reading a string that is not one of a value. -/
section
namespace Go.Proofs.YtmhggphkhabjlaaGreatDoor
open Go.RowKit Go.Deep

end Go.Proofs.YtmhggphkhabjlaaGreatDoor
end

/- The type of a sum of a whole number and a rational one. -/
section
namespace Go.Proofs.YtmhggphkhabjlaaGreatDoor
open Go.RowKit Go.Deep

end Go.Proofs.YtmhggphkhabjlaaGreatDoor
end

/- The numbers of the chapter's examples. -/
section
namespace Go.Proofs.YtmhggphkhabjlaaGreatDoor
open Go.RowKit Go.Deep

end Go.Proofs.YtmhggphkhabjlaaGreatDoor
end

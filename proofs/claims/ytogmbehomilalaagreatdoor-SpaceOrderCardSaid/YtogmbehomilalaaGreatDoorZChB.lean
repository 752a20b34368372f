/- Chunks that are none: the errors. -/
import Derived.Test.YtogmbehomilalaaGreatDoorZSpI
import Derived.Test.YtogmbehomilalaaGreatDoorZCmpS
namespace Go.Proofs.YtogmbehomilalaaGreatDoor
open Go Go.RowKit Go.Deep

end Go.Proofs.YtogmbehomilalaaGreatDoor

import Derived.Test.YtjcfjpoodahlfaaGreatDoorObjV
import Derived.Test.YtjcfjpoodahlfaaGreatDoorInsertS
namespace Go.Proofs.YtjcfjpoodahlfaaGreatDoor
open Go.RowKit
def gives (m : Sm) : Bool := decide (m.loc ≠ -1) && decide (m.bind ≠ 0)

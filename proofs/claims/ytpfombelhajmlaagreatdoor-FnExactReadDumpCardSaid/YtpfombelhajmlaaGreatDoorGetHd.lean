import Derived.Test.YtpfombelhajmlaaGreatDoorHead
import Derived.Test.YtpfombelhajmlaaGreatDoorRegionV
import Derived.Deep.Cut
import Derived.Deep.CutRange
import Derived.IntWalk
import Derived.Laws.ResultCell
namespace Go.Proofs.YtpfombelhajmlaaGreatDoor
open Go.RowKit
def hdAt (l : List Int) : Hd := ⟨l.getD 4 0, l.getD 5 0, l.getD 6 0, getVal l 7 2⟩
def isHd (l : List Int) : Bool := decide (10 ≤ l.length) && decide (l.take 10 = putHd (hdAt l))
def noHd : Hd := ⟨0, 0, 0, 0⟩
def getHd (l : List Int) : Hd := if isHd l then hdAt l else noHd
end Go.Proofs.YtpfombelhajmlaaGreatDoor

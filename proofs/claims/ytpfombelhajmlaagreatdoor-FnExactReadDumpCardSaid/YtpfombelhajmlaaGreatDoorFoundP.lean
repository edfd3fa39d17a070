import Derived.Test.YtpfombelhajmlaaGreatDoorSortP
import Derived.Test.YtpfombelhajmlaaGreatDoorMem
import Derived.Test.YtpfombelhajmlaaGreatDoorPlaceS
namespace Go.Proofs.YtpfombelhajmlaaGreatDoor
open Go.RowKit
def kept (S : List ByteArray) (x : ByteArray) : Bool := S.all fun y => decide (y = x) || !endsS y x
end Go.Proofs.YtpfombelhajmlaaGreatDoor
namespace Go.Proofs.YtpfombelhajmlaaGreatDoor
open Go.RowKit
theorem strOfNums_numsOf (s : ByteArray) : strOfNums (numsOf s) = s := by
  refine ByteArray.ext (Array.ext' ?_)
  rw [strOfNums_data, numsOf, List.map_map]
  have : (fun n : Int => UInt8.ofNat n.toNat) ∘ (fun c : UInt8 => (c.toNat : Int)) = id := by
    funext c
    simp
  rw [this, List.map_id]
end Go.Proofs.YtpfombelhajmlaaGreatDoor

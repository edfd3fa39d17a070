import Derived.Lib.SlicesCompact
import Derived.Sort.Walk0
import Derived.Test.YtpfombelhajmlaaGreatDoorMem
namespace Go.Proofs.YtpfombelhajmlaaGreatDoor
open Go.RowKit
def endsS (a b : ByteArray) : Bool := decide (b.size ≤ a.size) && decide (a.extract (a.size - b.size) a.size = b)
def keepB (S : List ByteArray) (k : Nat) : Bool := (List.range S.length).all fun j => decide (j = k) || !endsS (S.getD j ⟨#[]⟩) (S.getD k ⟨#[]⟩)
def numsOf (s : ByteArray) : List Int := s.data.toList.map fun c => (c.toNat : Int)
def tabBytes (S : List ByteArray) : Nat → List Int
  | 0 => [0]
  | k + 1 => if keepB S k then tabBytes S k ++ numsOf (S.getD k ⟨#[]⟩) ++ [0] else tabBytes S k
def namesOk (names : List ByteArray) : Bool := names.all (fun s => nameOk s.data.toList) && decide (names.length ≤ 40)
def nameTab (names : List ByteArray) : List Int := if namesOk names then tabBytes (names.foldl insertS []) (names.foldl insertS []).length else []
theorem numsOf_wf (s : ByteArray) : ∀ x ∈ numsOf s, 0 ≤ x ∧ x < 256 := by
  intro x hx
  obtain ⟨c, _, rfl⟩ := List.mem_map.1 hx
  have := c.toNat_lt
  omega
theorem numsOf_length (s : ByteArray) : (numsOf s).length = s.size := by simp [numsOf]
end Go.Proofs.YtpfombelhajmlaaGreatDoor
namespace Go.Proofs.YtpfombelhajmlaaGreatDoor
open Go.RowKit
end Go.Proofs.YtpfombelhajmlaaGreatDoor
namespace Go.Proofs.YtpfombelhajmlaaGreatDoor
open Go.RowKit Go.Lib
end Go.Proofs.YtpfombelhajmlaaGreatDoor

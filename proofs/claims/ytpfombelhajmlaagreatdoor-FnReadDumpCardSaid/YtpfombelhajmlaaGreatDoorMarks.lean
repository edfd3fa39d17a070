import Derived.WalkSpells
import Derived.WalkLawsBesides
import Derived.Handy
import Derived.Test.YtpfombelhajmlaaGreatDoorBase
import Derived.Test.YtpfombelhajmlaaGreatDoorMem
namespace Go.Proofs.YtpfombelhajmlaaGreatDoor
open Go.RowKit
def marks (k : Int) (n : Nat) : List Int := (List.range n).map fun j => (k + (j : Nat)) % 256
end Go.Proofs.YtpfombelhajmlaaGreatDoor
namespace Go.Proofs.YtpfombelhajmlaaGreatDoor
open Go.RowKit
def FilledW (k : Int) (len : Nat) (c : Array Value) (n : Nat) : Prop := len ≤ c.size ∧ ∀ j, j < n → c[j]? = some (.int .u8 ((k + (j : Nat)) % 256))
theorem FilledW.next {k : Int} {len : Nat} {c : Array Value} {n : Nat} (h : FilledW k len c n) (hn : n < c.size) : FilledW k len (c.setIfInBounds n (.int .u8 ((k + (n : Nat)) % 256))) (n + 1) := by
  refine ⟨by simp [h.1], fun j hj => ?_⟩
  rw [Array.getElem?_setIfInBounds]
  by_cases e : n = j
  · subst e; simp [hn]
  · rw [if_neg e]; exact h.2 j (by omega)
end Go.Proofs.YtpfombelhajmlaaGreatDoor

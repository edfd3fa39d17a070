import Derived.WalkSpells
import Derived.WalkLawsBesides
import Derived.Handy
import Derived.Laws.BytesArg
import Derived.Deep.QuietTactic
import Derived.BigQuiet
import Derived.Deep.OwnRows
import Derived.Test.YtpfombelhajmlaaGreatDoorBase
import Derived.Test.YtpfombelhajmlaaGreatDoorRegion
import Derived.Test.YtpfombelhajmlaaGreatDoorDrawN
import Derived.Test.YtpfombelhajmlaaGreatDoorMem
namespace Go.Proofs.YtpfombelhajmlaaGreatDoor
open Go.RowKit
end Go.Proofs.YtpfombelhajmlaaGreatDoor
namespace Go.Proofs.YtpfombelhajmlaaGreatDoor
open Go.RowKit
def TextsS (cs : Array Value) (n : Nat) : Prop := cs.size = n ∧ ∀ j, j < n → ∃ s : ByteArray, cs[j]? = some (.string s)
theorem TextsS.put {cs : Array Value} {n : Nat} (h : TextsS cs n) (k : Nat) (s : ByteArray) : TextsS (cs.setIfInBounds k (.string s)) n := by
  refine ⟨by simp [h.1], fun j hj => ?_⟩
  rw [Array.getElem?_setIfInBounds]
  by_cases e : k = j
  · rw [if_pos e, if_pos (by rw [h.1]; omega)]; exact ⟨s, rfl⟩
  · rw [if_neg e]; exact h.2 j hj
theorem TextsS.of (ss : List ByteArray) : TextsS (ss.map Value.string).toArray ss.length := by
  refine ⟨by simp, fun j hj => ⟨ss[j], ?_⟩⟩
  simp [List.getElem?_eq_getElem hj]
end Go.Proofs.YtpfombelhajmlaaGreatDoor

import Derived.WalkSpells
import Derived.WalkLawsBesides
import Derived.Handy
import Derived.Deep.QuietTactic
import Derived.BigQuiet
import Derived.Deep.OwnRows
import Derived.Deep.CutBlock
import Derived.Test.YtpfombelhajmlaaGreatDoorBase
import Derived.Test.YtpfombelhajmlaaGreatDoorSecs
import Derived.Test.YtpfombelhajmlaaGreatDoorRegionV
import Derived.Test.YtpfombelhajmlaaGreatDoorDrC
import Derived.Test.YtpfombelhajmlaaGreatDoorWant4
import Derived.Test.YtpfombelhajmlaaGreatDoorMem
namespace Go.Proofs.YtpfombelhajmlaaGreatDoor
open Go.RowKit
end Go.Proofs.YtpfombelhajmlaaGreatDoor
namespace Go.Proofs.YtpfombelhajmlaaGreatDoor
open Go.RowKit
end Go.Proofs.YtpfombelhajmlaaGreatDoor
namespace Go.Proofs.YtpfombelhajmlaaGreatDoor
open Go.RowKit
theorem Sm.small.fits {m : Sm} (h : m.small) : m.fits :=
  have := h.name; have := h.bind0; have := h.bind1; have := h.loc0; have := h.loc1; have := h.value0; have := h.value1
  ⟨by unfold maxLen; omega, ⟨by omega, by omega⟩, ⟨by omega, by omega⟩, ⟨by omega, by omega⟩⟩
end Go.Proofs.YtpfombelhajmlaaGreatDoor

import Derived.Test.YtpfombelhajmlaaGreatDoorRegion
namespace Go.Proofs.YtpfombelhajmlaaGreatDoor
open Go.RowKit
theorem Tryz.info_str : (Tryz.prog.info? 9).map (fun i => (i.zero, i.size, i.bytes)) = some (some (.string ⟨#[]⟩), 1, 16) := by kernel_rfl
end Go.Proofs.YtpfombelhajmlaaGreatDoor

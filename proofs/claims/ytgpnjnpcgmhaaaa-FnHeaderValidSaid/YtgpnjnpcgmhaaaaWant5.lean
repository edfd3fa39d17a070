/-
  What is wanted of the program's functions of chapter 5; each is proved of the code elsewhere.
-/
import Derived.Test.YtgpnjnpcgmhaaaaGetHd
import Derived.Test.YtgpnjnpcgmhaaaaBase
namespace Go.Proofs.Ytgpnjnpcgmhaaaa
open Go.RowKit

/-- A header whose numbers are the machine's. -/
structure Hd.fits (h : Hd) : Prop where
  sec : -9223372036854775808 ≤ h.sec ∧ h.sec ≤ 9223372036854775807
  sym : -9223372036854775808 ≤ h.sym ∧ h.sym ≤ 9223372036854775807
  fix : -9223372036854775808 ≤ h.fix ∧ h.fix ≤ 9223372036854775807
  nam : -9223372036854775808 ≤ h.nam ∧ h.nam ≤ 9223372036854775807
def WantHeaderValid : Prop := ∀ (w : World) (h : Hd), h.fits → Calls Try.prog 5 #[h.agg] w fun e w' => e = .returned (.bool (hdOk h)) ∧ Below w.heap.size w w'




end Go.Proofs.Ytgpnjnpcgmhaaaa

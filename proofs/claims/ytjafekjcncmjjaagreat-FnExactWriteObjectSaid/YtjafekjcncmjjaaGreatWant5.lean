/-
  What is wanted of the program's functions of chapter 5; each is proved of the code elsewhere.
-/
import Derived.Test.YtjafekjcncmjjaaGreatGetHd
import Derived.Test.YtjafekjcncmjjaaGreatBase
namespace Go.Proofs.YtjafekjcncmjjaaGreat
open Go.RowKit

/-- A header whose numbers are the machine's. -/
structure Hd.fits (h : Hd) : Prop where
  sec : -9223372036854775808 ≤ h.sec ∧ h.sec ≤ 9223372036854775807
  sym : -9223372036854775808 ≤ h.sym ∧ h.sym ≤ 9223372036854775807
  fix : -9223372036854775808 ≤ h.fix ∧ h.fix ≤ 9223372036854775807
  nam : -9223372036854775808 ≤ h.nam ∧ h.nam ≤ 9223372036854775807
def WantHeaderValid : Prop := ∀ (w : World) (h : Hd), h.fits → Calls Tryz.prog 71 #[h.agg] w fun e w' => e = .returned (.bool (hdOk h)) ∧ Below w.heap.size w w'
def WantPutHeader : Prop := ∀ (w : World) (h : Hd), h.fits → Calls Tryz.prog 51 #[h.agg] w (RowB w (putHd h))



end Go.Proofs.YtjafekjcncmjjaaGreat

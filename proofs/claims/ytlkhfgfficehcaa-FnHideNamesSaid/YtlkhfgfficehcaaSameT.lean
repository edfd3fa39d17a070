/-
  Contract of the laws' other comparison of lists of texts: equal ones are found equal.
-/
import Derived.Test.YtlkhfgfficehcaaBase
import Derived.Test.YtlkhfgfficehcaaRegion
import Derived.Test.YtlkhfgfficehcaaDrawN
import Derived.WalkSpells
import Derived.WalkLawsBesides
import Derived.Handy
import Derived.Deep.QuietTactic
import Derived.BigQuiet
import Derived.Deep.OwnRows
namespace Go.Proofs.Ytlkhfgfficehcaa
open Go.RowKit































end Go.Proofs.Ytlkhfgfficehcaa

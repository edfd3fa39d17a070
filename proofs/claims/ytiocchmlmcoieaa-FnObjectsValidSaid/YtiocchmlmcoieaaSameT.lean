/-
  Contract of the laws' other comparison of lists of texts: equal ones are found equal.
-/
import Derived.Test.YtiocchmlmcoieaaBase
import Derived.Test.YtiocchmlmcoieaaRegion
import Derived.Test.YtiocchmlmcoieaaDrawN
import Derived.WalkSpells
import Derived.WalkLawsBesides
import Derived.Handy
import Derived.Deep.QuietTactic
import Derived.BigQuiet
import Derived.Deep.OwnRows
namespace Go.Proofs.Ytiocchmlmcoieaa
open Go.RowKit































end Go.Proofs.Ytiocchmlmcoieaa

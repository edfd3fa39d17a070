/-
  Contract of the laws' other comparison of lists of texts: equal ones are found equal.
-/
import Derived.Test.YtdjpihbhnncahaaBase
import Derived.Test.YtdjpihbhnncahaaRegion
import Derived.Test.YtdjpihbhnncahaaDrawN
import Derived.WalkSpells
import Derived.WalkLawsBesides
import Derived.Handy
import Derived.Deep.QuietTactic
import Derived.BigQuiet
import Derived.Deep.OwnRows
namespace Go.Proofs.Ytdjpihbhnncahaa
open Go.RowKit































end Go.Proofs.Ytdjpihbhnncahaa

/-
  What is wanted of impl.NameTable stands.
-/
import Derived.Test.YtjafekjcncmjjaaGreatTableI
import Derived.Test.YtjafekjcncmjjaaGreatWant2
namespace Go.Proofs.YtjafekjcncmjjaaGreat
open Go.RowKit

theorem gotNameTable : WantNameTable := fun w B a cap names h hB hn hs => nameTable_any w B a cap names h hB hn hs

end Go.Proofs.YtjafekjcncmjjaaGreat

/-
  What is wanted of impl.NameTable stands.
-/
import Derived.Test.YtjafekjcncmjjaaTableI
import Derived.Test.YtjafekjcncmjjaaWant2
namespace Go.Proofs.Ytjafekjcncmjjaa
open Go.RowKit

theorem gotNameTable : WantNameTable := fun w B a cap names h hB hn hs => nameTable_any w B a cap names h hB hn hs

end Go.Proofs.Ytjafekjcncmjjaa

/-
  What is wanted of impl.NameTable stands.
-/
import Derived.Test.YtdaddhliedocaaaTableI
import Derived.Test.YtdaddhliedocaaaWant2
namespace Go.Proofs.Ytdaddhliedocaaa
open Go.RowKit

theorem gotNameTable : WantNameTable := fun w B a cap names h hB hn hs => nameTable_any w B a cap names h hB hn hs

end Go.Proofs.Ytdaddhliedocaaa

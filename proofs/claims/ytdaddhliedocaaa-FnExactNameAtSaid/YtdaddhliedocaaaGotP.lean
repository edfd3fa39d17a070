/-
  What is wanted of impl.NameAt and impl.PlaceOf stands.
-/
import Derived.Test.YtdaddhliedocaaaNameAtI
import Derived.Test.YtdaddhliedocaaaPlaceI
import Derived.Test.YtdaddhliedocaaaWant2
namespace Go.Proofs.Ytdaddhliedocaaa
open Go.RowKit

theorem gotNameAt : WantNameAt := fun w B a cap l h _ hcap hmax n _ _ => (nameAt_any w B a cap l h hcap hmax n).mono fun _ _ ⟨h1, h2⟩ => ⟨h1, h2 ▸ Below.refl _ _⟩
theorem gotPlaceOf : WantPlaceOf := fun w B a cap l h _ hcap hmax s hs => (placeOf_any w B a cap l h hcap hmax s hs).mono fun _ _ ⟨h1, h2⟩ => ⟨h1, h2 ▸ Below.refl _ _⟩

end Go.Proofs.Ytdaddhliedocaaa

/-
  What is wanted of impl.NameValid stands.
-/
import Derived.Test.YtdaddhliedocaaaNamesI
import Derived.Test.YtdaddhliedocaaaWant2
namespace Go.Proofs.Ytdaddhliedocaaa
open Go.RowKit

theorem gotNameValid : WantNameValid := fun w s hs => (nameValid_any s w hs).mono fun _ _ ⟨h1, h2⟩ => ⟨h1, h2 ▸ Below.refl _ _⟩

end Go.Proofs.Ytdaddhliedocaaa

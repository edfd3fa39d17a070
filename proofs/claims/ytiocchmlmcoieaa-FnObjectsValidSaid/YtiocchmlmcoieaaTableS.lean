/-
  Contract of spec.l2Ends. Contract of spec.NameTable.
-/
import Derived.WalkSpells
import Derived.WalkLawsBesides
import Derived.Handy
import Derived.Deep.QuietTactic
import Derived.BigQuiet
import Derived.Laws.IdiomStrings
import Derived.Test.YtiocchmlmcoieaaSortP
import Derived.Test.YtiocchmlmcoieaaMem
import Derived.Test.YtiocchmlmcoieaaRows
import Derived.Test.YtiocchmlmcoieaaInsertS
import Derived.Test.YtiocchmlmcoieaaPlaceS
import Derived.Test.YtiocchmlmcoieaaBase
/- Contract of spec.l2Ends. -/
namespace Go.Proofs.Ytiocchmlmcoieaa
open Go.RowKit










































end Go.Proofs.Ytiocchmlmcoieaa
/- Contract of spec.NameTable. -/
namespace Go.Proofs.Ytiocchmlmcoieaa
open Go.RowKit

/-- What the model's NameTable leaves: bytes of its own. -/
def Tabled (w : World) (l : List Int) (e : Ending) (w' : World) : Prop :=
  ∃ (a : Option Addr) (c : Nat), e = .returned (.slice a l.length c) ∧ l.length ≤ c ∧ c ≤ maxLen ∧ Ints w' .u8 w'.heap.size a l ∧ Below w.heap.size w w'
theorem tabled_nil {w w1 : World} (hb : Below w.heap.size w w1) : Tabled w [] (.returned (.slice (some ⟨w1.heap.size, 0, none⟩) 0 0)) (w1.alloc (.cells #[] 5)) :=
  ⟨_, 0, rfl, Nat.le_refl _, Nat.zero_le _, ⟨by simp, by simp⟩, hb.alloc hb.size _⟩
/-- A slice of texts, and what of it is known. -/
structure Held (w : World) (v : Value) (S : List ByteArray) (b off c : Nat) : Prop where
  val : v = .slice (some ⟨b, off, none⟩) S.length c
  fits : S.length ≤ c
  max : c ≤ maxLen
  lt : b < w.heap.size
  cells : ∀ i u, (S.map Value.string)[i]? = some u → w.cell? ⟨b, off + i, none⟩ = some u











































































































































































































































































end Go.Proofs.Ytiocchmlmcoieaa

/-
  Contract of the laws' own comparison of bytes: equal bytes are found equal. laws.sameSection and laws.sameObject: equal ones are found equal. The walk of FnSymbolValid, over what is wanted of the program.
-/
import Derived.WalkSpells
import Derived.WalkLawsBesides
import Derived.Handy
import Derived.Deep.QuietTactic
import Derived.BigQuiet
import Derived.Deep.OwnRows
import Derived.Deep.CutBlock
import Derived.Test.YtiocchmlmcoieaaBase
import Derived.Test.YtiocchmlmcoieaaSecs
import Derived.Test.YtiocchmlmcoieaaRegionV
import Derived.Test.YtiocchmlmcoieaaDrC
import Derived.Test.YtiocchmlmcoieaaWant4
import Derived.Test.YtiocchmlmcoieaaMem
/- Contract of the laws' own comparison of bytes: equal bytes are found equal. -/
namespace Go.Proofs.Ytiocchmlmcoieaa
open Go.RowKit
































end Go.Proofs.Ytiocchmlmcoieaa
/- laws.sameSection and laws.sameObject: equal ones are found equal. -/
namespace Go.Proofs.Ytiocchmlmcoieaa
open Go.RowKit
























































































































































































































































end Go.Proofs.Ytiocchmlmcoieaa
/- The walk of FnSymbolValid, over what is wanted of the program. -/
namespace Go.Proofs.Ytiocchmlmcoieaa
open Go.RowKit

theorem Sx.small.fits' {s : Sx} (h : s.small) : s.fits :=
  have := h.kind0; have := h.kind1; have := h.align0; have := h.align1; have := h.size0; have := h.size1; have := h.bytes; have := h.count; have := h.name
  ⟨by unfold maxLen; omega, ⟨by omega, by omega⟩, ⟨by omega, by omega⟩, ⟨by omega, by omega⟩, by omega, by omega, fun f hf => by
    obtain ⟨k1, k2, k3, k4, k5, k6, k7, k8⟩ := h.fixs f hf
    exact ⟨⟨by omega, by omega⟩, ⟨by omega, by omega⟩, ⟨by omega, by omega⟩, ⟨by omega, by omega⟩⟩⟩
theorem Sm.small.fits {m : Sm} (h : m.small) : m.fits :=
  have := h.name; have := h.bind0; have := h.bind1; have := h.loc0; have := h.loc1; have := h.value0; have := h.value1
  ⟨by unfold maxLen; omega, ⟨by omega, by omega⟩, ⟨by omega, by omega⟩, ⟨by omega, by omega⟩⟩
theorem symOk_behind (m : Sm) (l : List Sx) : symOk { m with loc := (l.length : Int) } l = false := by
  unfold symOk
  have h1 : ¬ (l.length : Int) = -1 := by omega
  have h2 : ¬ (l.length : Int) = -2 := by omega
  simp only [h1, h2, if_false]
  simp














































































end Go.Proofs.Ytiocchmlmcoieaa

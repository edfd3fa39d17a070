/-
  The walk of FnSymbolValid, over what is wanted of the program.
-/
import Derived.Test.YtjafekjcncmjjaaDrawSV
import Derived.Test.YtjafekjcncmjjaaWant4
import Derived.Test.YtjafekjcncmjjaaMem
namespace Go.Proofs.Ytjafekjcncmjjaa
open Go.RowKit

theorem Sx.small.fits' {s : Sx} (h : s.small) : s.fits :=
  have := h.kind0; have := h.kind1; have := h.align0; have := h.align1; have := h.size0; have := h.size1; have := h.bytes; have := h.count; have := h.name
  ⟨by unfold maxLen; omega, ⟨by omega, by omega⟩, ⟨by omega, by omega⟩, ⟨by omega, by omega⟩, by omega, by omega, fun f hf => by
    obtain ⟨k1, k2, k3, k4, k5, k6, k7, k8⟩ := h.fixs f hf
    exact ⟨⟨by omega, by omega⟩, ⟨by omega, by omega⟩, ⟨by omega, by omega⟩, ⟨by omega, by omega⟩⟩⟩
theorem Sm.small.fits {m : Sm} (h : m.small) : m.fits :=
  have := h.name; have := h.bind0; have := h.bind1; have := h.loc0; have := h.loc1; have := h.value0; have := h.value1
  ⟨by unfold maxLen; omega, ⟨by omega, by omega⟩, ⟨by omega, by omega⟩, ⟨by omega, by omega⟩⟩
theorem symOk_behind (m : Sm) (l : List Sx) : symOk { m with loc := (l.length : Int) } l = false := by
  unfold symOk
  have h1 : ¬ (l.length : Int) = -1 := by omega
  have h2 : ¬ (l.length : Int) = -2 := by omega
  simp only [h1, h2, if_false]
  simp














































































end Go.Proofs.Ytjafekjcncmjjaa

/-
  The walk of FnExactObjectsValid.
-/
import Derived.Test.YtiocchmlmcoieaaOpenL
namespace Go.Proofs.Ytiocchmlmcoieaa
open Go.RowKit

theorem fitsO_same {l l' : List Oj} (h : l'.map Oj.o = l.map Oj.o) (hf : ∀ y ∈ l, y.fits) : ∀ y ∈ l', y.fits := fun y hy => by
  have hm : y.o ∈ l.map Oj.o := by rw [← h]; exact List.mem_map_of_mem hy
  obtain ⟨z, hz, e⟩ := List.mem_map.1 hm
  have e1 : z.l.map Sp.s = y.l.map Sp.s := congrArg Prod.fst e
  have e2 : z.ms = y.ms := congrArg Prod.snd e
  obtain ⟨q1, q2, q3, q4⟩ := hf z hz
  refine ⟨?_, by rw [← e2]; exact q2, fits_same e1.symm q3, by rw [← e2]; exact q4⟩
  have := congrArg List.length e1
  rw [List.length_map, List.length_map] at this
  omega
theorem lengthO_same {l l' : List Oj} (h : l'.map Oj.o = l.map Oj.o) : l'.length = l.length := by
  have := congrArg List.length h
  rwa [List.length_map, List.length_map] at this



























































































end Go.Proofs.Ytiocchmlmcoieaa

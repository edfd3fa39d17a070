/-
  The walk of FnNamesWanted, over what is wanted of the program.
-/
import Derived.Test.YtiocchmlmcoieaaDrawOV
import Derived.Test.YtiocchmlmcoieaaSamE
import Derived.Test.YtiocchmlmcoieaaSameT
import Derived.Test.YtiocchmlmcoieaaSortP
import Derived.Test.YtiocchmlmcoieaaObjV
namespace Go.Proofs.Ytiocchmlmcoieaa
open Go.RowKit

theorem mem_namesIf {p : Sm → Bool} {ss : List Sx} {ms : List Sm} {s : ByteArray} (h : s ∈ namesIf p ss ms) : objOk ss ms = true ∧ ∃ m ∈ ms, p m = true ∧ m.name = s := by
  unfold namesIf at h
  split at h
  · rename_i ho
    refine ⟨ho, ?_⟩
    unfold namesOf at h
    rw [mem_fold_iff] at h
    rcases h with h | h
    · cases h
    · obtain ⟨m, hm, e⟩ := List.mem_map.1 h
      exact ⟨m, (List.mem_filter.1 hm).1, (List.mem_filter.1 hm).2, e⟩
  · cases h
theorem wants_gives {ss : List Sx} {ms : List Sm} {s t : ByteArray} (h1 : s ∈ namesIf wants ss ms) (h2 : t ∈ namesIf gives ss ms) : t ≠ s := by
  rintro rfl
  obtain ⟨ho, m, hm, hp, hn⟩ := mem_namesIf h1
  obtain ⟨-, m', hm', hp', hn'⟩ := mem_namesIf h2
  have hs : symsOk ss [] ms = true := by
    unfold objOk at ho
    simp only [Bool.and_eq_true] at ho
    exact ho.2.1
  obtain ⟨k1, -, k3⟩ := symsOk_told ss ms [] hs
  have hl : m.loc = -1 := by simpa [wants] using hp
  have hb : m.bind ≠ 0 := by
    have := k1 m hm
    unfold symOk at this
    rw [if_pos hl] at this
    simp only [Bool.and_eq_true, decide_eq_true_eq] at this
    exact this.2.2
  obtain ⟨hl', hb'⟩ : m'.loc ≠ -1 ∧ m'.bind ≠ 0 := by simpa [gives] using hp'
  obtain ⟨i, hi, ei⟩ := List.mem_iff_getElem.1 hm
  obtain ⟨j, hj, ej⟩ := List.mem_iff_getElem.1 hm'
  have c1 : clash m m' = true := by simp [clash, hn, hn', hb, hb']
  have c2 : clash m' m = true := by simp [clash, hn, hn', hb, hb']
  rw [List.pairwise_iff_getElem] at k3
  rcases Nat.lt_trichotomy i j with h | h | h
  · have := k3 i j hi hj h
    rw [ei, ej, c1] at this; cases this
  · subst h
    rw [ei] at ej
    exact hl' (ej ▸ hl)
  · have := k3 j i hj hi h
    rw [ei, ej, c2] at this; cases this
theorem namesIf_sorted (p : Sm → Bool) (ss : List Sx) (ms : List Sm) : SortedS (namesIf p ss ms) := by
  unfold namesIf
  split
  · exact sorted_fold _ [] List.Pairwise.nil
  · exact List.Pairwise.nil
theorem namesIf_less (p : Sm → Bool) (ss : List Sx) (ms : List Sm) : (namesIf p ss ms).length ≤ ms.length := by
  unfold namesIf
  split
  · have := namesOf_length p ms []
    unfold namesOf
    simpa using this
  · simp
/-- A row of names of its own, read. -/
theorem FreshS.vals {w w' : World} {S : List ByteArray} {e : Ending} (h : FreshS w S e w') : ∃ (a : Option Addr) (c : Nat), e = .returned (.slice a S.length c) ∧ Vals w' w'.heap.size a (S.map Value.string) ∧ Below w.heap.size w w' := by
  obtain ⟨a, c, he, hr, hb⟩ := h
  refine ⟨a, c, he, fun hn => ?_, hb⟩
  obtain ⟨g, cs, ha, _, hh, _, hc⟩ := hr (by simpa using hn)
  refine ⟨g, 0, ha, hh.lt, fun i u hu => ?_⟩
  rw [List.getElem?_map] at hu
  cases hs : S[i]? with
  | none => rw [hs] at hu; cases hu
  | some s =>
    rw [hs] at hu
    injection hu with hu
    rw [← hu, Nat.zero_add, hh.cell i]
    exact hc i s hs






















































































































































































end Go.Proofs.Ytiocchmlmcoieaa

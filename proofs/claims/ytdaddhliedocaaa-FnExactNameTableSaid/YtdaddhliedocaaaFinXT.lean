/-
  FnExactNameTable: its walk over a slice of texts as the row's step tells of it.
-/
import Derived.Test.YtdaddhliedocaaaLawXT
namespace Go.Proofs.Ytdaddhliedocaaa
open Go.RowKit

theorem vals_ofRow {w : World} {a : Option Addr} {len cap : Nat} {zs : List ByteArray}
    (h : (a = none ∧ len = 0 ∧ cap = 0 ∧ zs = []) ∨
      ∃ x, a = some x ∧ len ≤ cap ∧ cap ≤ maxLen ∧ zs.length = cap ∧ (∀ i, i < zs.length → w.cell? (x.add i) = some (.string (zs.getD i ByteArray.empty))) ∧ ∀ n ∈ zs, n.size ≤ maxLen) :
    ∃ ss : List ByteArray, len = ss.length ∧ Vals w w.heap.size a (ss.map Value.string) ∧ len ≤ 9223372036854775807 ∧ ∀ s ∈ ss, s.size ≤ maxLen := by
  rcases h with ⟨rfl, rfl, rfl, rfl⟩ | ⟨x, rfl, h1, h2, h3, h4, h5⟩
  · exact ⟨[], rfl, fun hn => by simp at hn, by omega, by simp⟩
  · refine ⟨zs.take len, by rw [List.length_take]; omega, fun hn => ?_, by unfold maxLen at h2; omega, fun s hs => h5 s (List.mem_of_mem_take hs)⟩
    rw [List.length_map, List.length_take] at hn
    obtain ⟨b, off, spot⟩ := x
    have h0 := h4 0 (by omega)
    have hspot : spot = none := by simpa [Addr.add] using World.cell?_spot h0
    subst hspot
    have hlt := lt_of_cell h0
    refine ⟨b, off, rfl, by simpa [Addr.add] using hlt, fun i u hi => ?_⟩
    have hil : i < len ∧ i < zs.length := by
      have := (List.getElem?_eq_some_iff.1 hi).1
      rw [List.length_map, List.length_take] at this
      omega
    have := h4 i hil.2
    rw [List.getElem?_map, List.getElem?_take, if_pos hil.1, List.getElem?_eq_getElem hil.2] at hi
    simp only [Option.map_some, Option.some.injEq] at hi
    rw [← hi]
    have e : zs.getD i ByteArray.empty = zs[i]'hil.2 := by simp [List.getD, List.getElem?_eq_getElem hil.2]
    rw [e] at this
    unfold Addr.add at this
    split at this
    · rename_i e; subst e; simpa using this
    · simpa using this
theorem fin_ExactNameTable (w : World) (a : Option Addr) (len cap : Nat) (h : ∃ ss : List ByteArray, len = ss.length ∧ Vals w w.heap.size a (ss.map Value.string) ∧ len ≤ 9223372036854775807 ∧ ∀ s ∈ ss, s.size ≤ maxLen) :
    Calls Try.prog 9 #[.slice a len cap] w fun e w' => e = .returned (.bool true) ∧ Below w.heap.size w w' := by
  obtain ⟨ss, h1, h2, h3, h4⟩ := h
  exact law_ExactNameTable w a cap len ss h1 h2 h3 h4

end Go.Proofs.Ytdaddhliedocaaa

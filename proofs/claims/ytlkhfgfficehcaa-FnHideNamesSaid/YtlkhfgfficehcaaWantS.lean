/-
  spec.NamesWanted and spec.NamesGiven.
-/
import Derived.Test.YtlkhfgfficehcaaObjV
import Derived.Test.YtlkhfgfficehcaaInsertS
import Derived.Test.YtlkhfgfficehcaaMem
namespace Go.Proofs.Ytlkhfgfficehcaa
open Go.RowKit

/-- The names of the symbols of a kind, by their bytes, each once. -/
def namesOf (p : Sm → Bool) (ms : List Sm) : List ByteArray := ((ms.filter p).map Sm.name).foldl insertS []
def wants (m : Sm) : Bool := decide (m.loc = -1)
def gives (m : Sm) : Bool := decide (m.loc ≠ -1) && decide (m.bind ≠ 0)
/-- The names, where the object is valid. -/
def namesIf (p : Sm → Bool) (ss : List Sx) (ms : List Sm) : List ByteArray := if objOk ss ms then namesOf p ms else []
theorem namesOf_length (p : Sm → Bool) : ∀ (ms : List Sm) (S : List ByteArray), (((ms.filter p).map Sm.name).foldl insertS S).length ≤ S.length + ms.length
  | [], S => by simp
  | m :: r, S => by
    rcases h : p m with _ | _
    · rw [List.filter_cons_of_neg (by simp [h])]
      have := namesOf_length p r S
      simp only [List.length_cons]; omega
    · rw [List.filter_cons_of_pos h, List.map_cons, List.foldl_cons]
      have h1 := namesOf_length p r (insertS S m.name)
      have h2 := insertS_length S m.name
      simp only [List.length_cons]; omega
theorem namesOf_snoc {p : Sm → Bool} {ms : List Sm} {k : Nat} {x : Sm} (h : ms[k]? = some x) : namesOf p (ms.take (k + 1)) = if p x then insertS (namesOf p (ms.take k)) x.name else namesOf p (ms.take k) := by
  have e : ms.take (k + 1) = ms.take k ++ [x] := by rw [List.take_add_one, h]; rfl
  unfold namesOf
  rw [e, List.filter_append, List.map_append, List.foldl_append]
  rcases hp : p x with _ | _
  · rw [List.filter_cons_of_neg (by simp [hp])]; simp
  · rw [List.filter_cons_of_pos hp]; simp
/-- What the names' functions answer: a row of its own. -/
def Named (w : World) (S : List ByteArray) (e : Ending) (w' : World) : Prop :=
  ∃ b off c, e = .returned (.slice (some ⟨b, off, none⟩) S.length c) ∧ S.length ≤ c ∧ c ≤ maxLen ∧ b < w'.heap.size ∧ (∀ i u, (S.map Value.string)[i]? = some u → w'.cell? ⟨b, off + i, none⟩ = some u) ∧ Below w.heap.size w w'
















































































































































































































end Go.Proofs.Ytlkhfgfficehcaa

/-
  An answer that is an object, with its lengths told.
-/
import Derived.Test.YtjpclpjhigongaaCopO
import Derived.Test.YtjpclpjhigongaaObj
namespace Go.Proofs.Ytjpclpjhigongaa
open Go.RowKit

/-- What is answered, with its lengths told. -/
def AnsN (w : World) (A : List Sx × List Sm) (N M : Nat) (e : Ending) (w' : World) : Prop :=
  ∃ (l : List Sp) (a1 a2 : Option Addr) (c1 c2 : Nat), e = .returned (.agg #[.slice a1 N c1, .slice a2 M c2]) ∧ l.map Sp.s = A.1 ∧ OwnR w' w.heap.size a1 a2 N M c1 c2 l A.2 ∧ Below w.heap.size w w'
theorem AnsO.parts {w w' : World} {A : List Sx × List Sm} {e : Ending} {N M : Nat} (h : AnsO w A e w') (hN : A.1.length = N) (hM : A.2.length = M) : AnsN w A N M e w' := by
  obtain ⟨l, a1, a2, c1, c2, rfl, hl, ho, hb⟩ := h
  have hn : l.length = N := by rw [← hN, ← hl, List.length_map]
  rw [hn, hM] at ho
  exact ⟨l, a1, a2, c1, c2, by rw [hn, hM], hl, ho, hb⟩
theorem short_same {l l' : List Sp} (h : l'.map Sp.s = l.map Sp.s) (hf : ∀ y ∈ l, y.s.short) : ∀ y ∈ l', y.s.short := fun y hy => by
  have hm : y.s ∈ l.map Sp.s := by rw [← h]; exact List.mem_map_of_mem hy
  obtain ⟨z, hz, e⟩ := List.mem_map.1 hm
  rw [← e]; exact hf z hz
end Go.Proofs.Ytjpclpjhigongaa

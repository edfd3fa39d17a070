/-
  What is told by valid symbols.
-/
import Derived.Test.YtdbedkjnoppkmaaObjV
namespace Go.Proofs.Ytdbedkjnoppkmaa
open Go.RowKit

theorem symsOk_told (ss : List Sx) : ∀ (ms d : List Sm), symsOk ss d ms = true → (∀ m ∈ ms, symOk m ss = true) ∧ (∀ x ∈ d, ∀ m ∈ ms, clash x m = false) ∧ ms.Pairwise (fun x y => clash x y = false)
  | [], d, _ => ⟨by simp, by simp, List.Pairwise.nil⟩
  | y :: r, d, h => by
    simp only [symsOk, Bool.and_eq_true, List.all_eq_true, Bool.not_eq_true'] at h
    obtain ⟨h1, h2, h3⟩ := h
    obtain ⟨i1, i2, i3⟩ := symsOk_told ss r (d ++ [y]) h3
    refine ⟨fun m hm => ?_, fun x hx m hm => ?_, List.Pairwise.cons (fun m hm => i2 y (by simp) m hm) i3⟩
    · rcases List.mem_cons.1 hm with rfl | hm
      · exact h1
      · exact i1 m hm
    · rcases List.mem_cons.1 hm with rfl | hm
      · exact h2 x hx
      · exact i2 x (by simp [hx]) m hm

end Go.Proofs.Ytdbedkjnoppkmaa

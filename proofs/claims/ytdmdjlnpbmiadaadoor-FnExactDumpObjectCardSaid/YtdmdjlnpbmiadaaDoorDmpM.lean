/-
  What is wanted of impl.DumpObject stands.
-/
import Derived.Test.YtdmdjlnpbmiadaaDoorDmpL
namespace Go.Proofs.YtdmdjlnpbmiadaaDoor
open Go.RowKit

theorem wantDumpObject : WantDumpObject := fun w B a1 a2 c1 c2 l ms hT h1 h2 hB k1 k2 k3 k4 => by
  refine (dumpObject_any w B a1 a2 c1 c2 l.length ms.length l ms rfl rfl hT h1 h2 hB k1 k2 k3 k4).mono ?_
  rintro e w' ⟨v, rfl, ho, hb⟩
  generalize dumpX (l.map Sp.s) ms = S at ho ⊢
  rcases ho.2 with ⟨rfl, h0⟩ | ⟨g, cap, cur, rfl, hg0, hg, hn, hm, hs, ht⟩
  · refine ⟨⟨none, 0, by rw [h0], fun h => by omega, hb⟩, fun a n c e => ?_⟩
    injection e with e
    injection e with e1 e2 e3
    subst e2; subst e3
    exact ⟨Nat.le_refl _, Nat.zero_le _⟩
  · refine ⟨⟨some ⟨g, 0, none⟩, cap, rfl, fun _ => ⟨g, cur, rfl, hg0, hg, by omega, fun i s hi => ?_⟩, hb⟩, fun a n c e => ?_⟩
    · have h1 : (cur.toList.take (S.length * 1))[i]? = some (Value.string s) := by rw [ht, List.getElem?_map, hi]; rfl
      rw [List.getElem?_take] at h1
      split at h1
      · simpa using h1
      · cases h1
    · injection e with e
      injection e with e1 e2 e3
      subst e2; subst e3
      exact ⟨hn, hm⟩
end Go.Proofs.YtdmdjlnpbmiadaaDoor

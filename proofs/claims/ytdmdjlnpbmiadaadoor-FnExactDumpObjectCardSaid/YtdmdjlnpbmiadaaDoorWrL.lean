/-
  spec.l6Fixups and spec.l6Names. spec.ObjectLength.
-/
import Derived.IntWalk
import Derived.Deep.CutBlock
import Derived.Test.YtdmdjlnpbmiadaaDoorObjV
import Derived.Test.YtdmdjlnpbmiadaaDoorRegion
import Derived.Test.YtdmdjlnpbmiadaaDoorDrawN
import Derived.Test.YtdmdjlnpbmiadaaDoorTableS
import Derived.Test.YtdmdjlnpbmiadaaDoorRegionV
import Derived.Test.YtdmdjlnpbmiadaaDoorRowI
/- spec.l6Fixups and spec.l6Names. -/
namespace Go.Proofs.YtdmdjlnpbmiadaaDoor
open Go.RowKit

/-- How many fixups the sections have. -/
def manyFix (l : List Sp) : Nat := (l.map fun y => y.s.fixs.length).sum
/-- All names of an object. -/
def allNames (l : List Sp) (ms : List Sm) : List ByteArray := (l.map fun y => y.s.name) ++ ms.map Sm.name
theorem manyFix_snoc (l : List Sp) (k : Nat) (y : Sp) (h : l[k]? = some y) : manyFix (l.take (k + 1)) = manyFix (l.take k) + y.s.fixs.length := by
  unfold manyFix
  rw [List.take_add_one, h, List.map_append, List.sum_append]
  simp
theorem manyFix_le : ∀ (l : List Sp), (∀ y ∈ l, y.s.fixs.length ≤ 1000) → manyFix l ≤ 1000 * l.length
  | [], _ => by simp [manyFix]
  | y :: r, h => by
    have h1 := h y (by simp)
    have h2 := manyFix_le r (fun z hz => h z (by simp [hz]))
    unfold manyFix at h2 ⊢
    simp only [List.map_cons, List.sum_cons, List.length_cons]
    omega









































































































































































end Go.Proofs.YtdmdjlnpbmiadaaDoor
/- spec.ObjectLength. -/
namespace Go.Proofs.YtdmdjlnpbmiadaaDoor
open Go.RowKit

/-- How many bytes the sections have. -/
def manyBytes (l : List Sp) : Nat := (l.map fun y => y.s.bytes.length).sum
theorem manyBytes_snoc (l : List Sp) (k : Nat) (y : Sp) (h : l[k]? = some y) : manyBytes (l.take (k + 1)) = manyBytes (l.take k) + y.s.bytes.length := by
  unfold manyBytes
  rw [List.take_add_one, h, List.map_append, List.sum_append]
  simp
theorem manyBytes_le : ∀ (l : List Sp), (∀ y ∈ l, y.s.bytes.length ≤ 1000) → manyBytes l ≤ 1000 * l.length
  | [], _ => by simp [manyBytes]
  | y :: r, h => by
    have h1 := h y (by simp)
    have h2 := manyBytes_le r (fun z hz => h z (by simp [hz]))
    unfold manyBytes at h2 ⊢
    simp only [List.map_cons, List.sum_cons, List.length_cons]
    omega

/-- How many bytes an object takes. -/
def objLen (l : List Sp) (ms : List Sm) : Nat :=
  if objOk (l.map Sp.s) ms then 10 + 6 * l.length + 6 * ms.length + 5 * manyFix l + (nameTab (allNames l ms)).length + manyBytes l else 0
theorem nameTab_401' (names : List ByteArray) : (nameTab names).length ≤ 401 := by
  unfold nameTab
  split
  · rename_i hn
    simp only [namesOk, Bool.and_eq_true, decide_eq_true_eq, List.all_eq_true] at hn
    have h1 := fold_length names []
    have h2 := tabBytes_short (names.foldl insertS []) (fun x hx => by
      rcases mem_fold names [] x hx with h' | h'
      · simp at h'
      · have := nameOk_size (hn.1 x h'); omega) (names.foldl insertS []).length
    simp only [List.length_nil] at h1
    omega
  · simp
/-- Around the sum: what holds when so many of the chain are done. -/
structure JL (w2 : World) (base F K : Nat) (T : Int) (n m : Nat) (names : List ByteArray) (k : Nat) (W : World) (vals : Nat → Value) : Prop where
  below : Below w2.heap.size w2 W
  fix : vals 0 = .int .i64 F
  end_ : k = 6 → vals 5 = .int .i64 T
  row : k = 2 → W.ownsRow base 9 1 (vals 1) (n + m) (names.map Value.string)
  tab : k = 3 → ∃ a c, vals 2 = .slice a K c
  len : k = 4 → vals 3 = .int .i64 K
  all : k = 5 → vals 4 = .int .i64 T











































































































































































































































































end Go.Proofs.YtdmdjlnpbmiadaaDoor

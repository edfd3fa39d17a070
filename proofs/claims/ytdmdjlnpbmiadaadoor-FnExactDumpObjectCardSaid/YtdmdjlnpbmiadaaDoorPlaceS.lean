/-
  Contract of spec.NameAt. Contract of spec.PlaceOf.
-/
import Derived.Test.YtdmdjlnpbmiadaaDoorMem
import Derived.Test.YtdmdjlnpbmiadaaDoorBase
/- Contract of spec.NameAt. -/
namespace Go.Proofs.YtdmdjlnpbmiadaaDoor
open Go.RowKit


















































































end Go.Proofs.YtdmdjlnpbmiadaaDoor
/- Contract of spec.PlaceOf. -/
namespace Go.Proofs.YtdmdjlnpbmiadaaDoor
open Go.RowKit

theorem firstAt_hit {l : List Int} {s : ByteArray} {k n : Nat} {t : List Int} (h : textAt l k = some t) (hs : strOfNums t = s) : firstAt l s k (n + 1) = k := by
  simp [firstAt, h, hs]
theorem firstAt_miss {l : List Int} {s : ByteArray} {k n : Nat} {t : List Int} (h : textAt l k = some t) (hs : strOfNums t ≠ s) : firstAt l s k (n + 1) = firstAt l s (k + 1) n := by
  simp [firstAt, h, hs]
theorem firstAt_none {l : List Int} {s : ByteArray} {k n : Nat} (h : textAt l k = none) : firstAt l s k (n + 1) = firstAt l s (k + 1) n := by
  simp [firstAt, h]










































































end Go.Proofs.YtdmdjlnpbmiadaaDoor

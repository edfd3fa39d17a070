/-
  Contracts of impl.GetNumber and spec.GetNumber: what each returns at every place of every bytes. impl.GetNumber and spec.GetNumber answer one number, for all bytes, places and widths; and the walk of FnExactGetNumber.
-/
import Derived.Test.YtdmdjlnpbmiadaaGreatDoorNum
import Derived.Test.YtdmdjlnpbmiadaaGreatDoorMem
import Derived.Test.YtdmdjlnpbmiadaaGreatDoorBase
/- Contracts of impl.GetNumber and spec.GetNumber: what each returns at every place of every bytes. -/
namespace Go.Proofs.YtdmdjlnpbmiadaaGreatDoor
open Go.RowKit

/-- Bits that don't meet are added: 'x | y << i' where x is below 2^i. -/
theorem i64_or_add (i : Nat) (x y z : Int) (hz : z = y * 2 ^ i) (hx : 0 ≤ x) (hx' : x < 2 ^ i) (hy : 0 ≤ y) (hb : x + z < 9223372036854775808) : bits .or .i64 x z = x + z := by
  subst hz
  obtain ⟨a, rfl⟩ := Int.eq_ofNat_of_zero_le hx
  obtain ⟨c, rfl⟩ := Int.eq_ofNat_of_zero_le hy
  have ha : a < 2 ^ i := by exact_mod_cast hx'
  have e : ((c : Int) * 2 ^ i) = ((c * 2 ^ i : Nat) : Int) := by simp
  rw [e] at hb ⊢
  have hor : a ||| (c * 2 ^ i) = a + c * 2 ^ i := by
    rw [Nat.or_comm, nat_join i (c * 2 ^ i) a (Nat.mul_mod_left _ _) ha, Nat.add_comm]
  show IntKind.i64.wrap (((BitVec.ofInt 64 (a : Int) ||| BitVec.ofInt 64 ((c * 2 ^ i : Nat) : Int)).toNat : Nat) : Int) = _
  generalize c * 2 ^ i = q at hor hb ⊢
  rw [BitVec.toNat_or, BitVec.ofInt_natCast, BitVec.ofInt_natCast, BitVec.toNat_ofNat, BitVec.toNat_ofNat, Nat.mod_eq_of_lt (by omega), Nat.mod_eq_of_lt (by omega), hor, IntKind.wrap_i64]
  omega











































































































































end Go.Proofs.YtdmdjlnpbmiadaaGreatDoor
/- impl.GetNumber and spec.GetNumber answer one number, for all bytes, places and widths; and the walk of FnExactGetNumber. -/
namespace Go.Proofs.YtdmdjlnpbmiadaaGreatDoor
open Go.RowKit

/-- The number whose bytes stand at place n. -/
def leAt (l : List Int) (n : Nat) (k : Int) : Int :=
  if k = 1 then l.getD n 0 else if k = 2 then l.getD n 0 + 256 * l.getD (n + 1) 0 else if k = 3 then l.getD n 0 + 256 * l.getD (n + 1) 0 + 65536 * l.getD (n + 2) 0
  else l.getD n 0 + 256 * l.getD (n + 1) 0 + 65536 * l.getD (n + 2) 0 + 16777216 * l.getD (n + 3) 0
/-- What GetNumber answers: -1 where it has no answer. -/
def getVal (l : List Int) (n k : Int) : Int :=
  if k < 1 ∨ 4 < k then -1 else if n < 0 then -1 else if (l.length : Int) - k < n then -1 else leAt l n.toNat k







































































































end Go.Proofs.YtdmdjlnpbmiadaaGreatDoor

/-
  Plain words on sorted lists of texts.
-/
import Derived.WalkKit
namespace Go.Proofs.Ytdbedkjnoppkmaa
open Go.RowKit

/-- A text is before another one, byte by byte. -/
def ltS (a b : ByteArray) : Bool := Op.bytesLess a.toList b.toList
/-- Where a text goes in a sorted list. -/
def posS (l : List ByteArray) (s : ByteArray) : Nat := (l.takeWhile fun x => ltS x s).length
/-- A text put into a sorted list, once. -/
def insertS (l : List ByteArray) (s : ByteArray) : List ByteArray := if l[posS l s]? = some s then l else l.take (posS l s) ++ s :: l.drop (posS l s)
theorem posS_le (l : List ByteArray) (s : ByteArray) : posS l s ≤ l.length := List.Sublist.length_le (List.takeWhile_sublist _)
theorem posS_at : ∀ (l : List ByteArray) (s : ByteArray) (k : Nat), k ≤ l.length → (∀ j x, j < k → l[j]? = some x → ltS x s = true) → (∀ x, l[k]? = some x → ltS x s = false) → posS l s = k
  | [], s, k, hk, _, _ => by simp at hk; subst hk; rfl
  | y :: r, s, 0, _, _, h => by
    have := h y (by simp)
    simp [posS, this]
  | y :: r, s, k + 1, hk, h1, h2 => by
    have hy := h1 0 y (by omega) (by simp)
    have := posS_at r s k (by simpa using hk) (fun j x hj hx => h1 (j + 1) x (by omega) (by simpa using hx)) (fun x hx => h2 x (by simpa using hx))
    unfold posS at this ⊢
    rw [List.takeWhile_cons, if_pos hy, List.length_cons, this]
theorem insertS_length (l : List ByteArray) (s : ByteArray) : (insertS l s).length ≤ l.length + 1 := by
  unfold insertS; split
  · omega
  · have := posS_le l s; simp; omega

end Go.Proofs.Ytdbedkjnoppkmaa

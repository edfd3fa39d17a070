/-
  Plain words on tables of names: the text at a place; the first place of a text.
-/
import Derived.Laws.BytesArg
import Derived.WalkKit
namespace Go.Proofs.Ytdbedkjnoppkmaa
open Go.RowKit

/-- The text whose bytes stand from place n on up to the next byte 0. -/
def textAt (l : List Int) (n : Int) : Option (List Int) :=
  if 0 ≤ n ∧ n < l.length ∧ (0 : Int) ∈ l.drop n.toNat then some ((l.drop n.toNat).takeWhile fun x => decide (x ≠ 0)) else none
theorem textAt_out {l : List Int} {n : Int} (h : n < 0 ∨ (l.length : Int) ≤ n) : textAt l n = none := by
  unfold textAt; rw [if_neg (by omega)]
theorem textAt_none {l : List Int} {m : Nat} (h : ∀ j, m ≤ j → j < l.length → l.getD j 0 ≠ 0) : textAt l m = none := by
  unfold textAt
  rw [if_neg]
  rintro ⟨_, _, h0⟩
  rw [Int.toNat_natCast] at h0
  obtain ⟨i, hi, hx⟩ := List.getElem_of_mem h0
  rw [List.length_drop] at hi
  apply h (m + i) (by omega) (by omega)
  rw [List.getElem_drop] at hx
  simp [List.getD, List.getElem?_eq_getElem (show m + i < l.length by omega), hx]
theorem takeWhile_stop : ∀ (l : List Int) (k : Nat), k < l.length → l.getD k 0 = 0 → (∀ j, j < k → l.getD j 0 ≠ 0) → (l.takeWhile fun x => decide (x ≠ 0)) = l.take k
  | [], k, hk, _, _ => by simp at hk
  | x :: r, 0, _, h0, _ => by simp at h0; simp [h0]
  | x :: r, k + 1, hk, h0, hn => by
    have hx : x ≠ 0 := by have := hn 0 (by omega); simpa using this
    rw [List.takeWhile_cons, if_pos (by simpa using hx), List.take_succ_cons, takeWhile_stop r k (by simpa using hk) (by simpa using h0) (fun j hj => by have := hn (j + 1) (by omega); simpa using this)]
theorem textAt_found {l : List Int} {m e : Nat} (he : m ≤ e) (hl : e < l.length) (h0 : l.getD e 0 = 0) (h : ∀ j, m ≤ j → j < e → l.getD j 0 ≠ 0) : textAt l m = some ((l.drop m).take (e - m)) := by
  have g : ∀ i, (l.drop m).getD i 0 = l.getD (m + i) 0 := fun i => by simp [List.getD]
  have hm : (0 : Int) ∈ l.drop m := by
    rw [List.mem_iff_getElem]
    refine ⟨e - m, by simp; omega, ?_⟩
    rw [List.getElem_drop]
    have : l[m + (e - m)]'(by omega) = l.getD e 0 := by
      simp only [show m + (e - m) = e by omega]
      simp [List.getD, List.getElem?_eq_getElem hl]
    rw [this, h0]
  unfold textAt
  rw [Int.toNat_natCast, if_pos ⟨by omega, by omega, hm⟩, takeWhile_stop (l.drop m) (e - m) (by simp; omega) (by rw [g, show m + (e - m) = e by omega]; exact h0) (fun j hj => by rw [g]; exact h (m + j) (by omega) (by omega))]
/-- What NameAt answers. -/
def textVal : Option (List Int) → Value
  | some t => .tuple #[.string (strOfNums t), .bool true]
  | none => .tuple #[.string ⟨#[]⟩, .bool false]
/-- The first place from which a text stands. -/
def firstAt (l : List Int) (s : ByteArray) : Nat → Nat → Int
  | _, 0 => -1
  | k, n + 1 => if (textAt l k).map strOfNums = some s then k else firstAt l s (k + 1) n

end Go.Proofs.Ytdbedkjnoppkmaa

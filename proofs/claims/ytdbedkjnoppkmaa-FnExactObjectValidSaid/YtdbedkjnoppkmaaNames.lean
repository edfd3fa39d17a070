/-
  Plain words on names: which texts are names.
-/
import Derived.WalkKit
namespace Go.Proofs.Ytdbedkjnoppkmaa
open Go.RowKit

def letterC (c : Nat) : Bool := decide (97 ≤ c ∧ c ≤ 122) || decide (c = 95) || decide (c = 46)
def digitC (c : Nat) : Bool := decide (48 ≤ c ∧ c ≤ 57)
/-- The byte at place k may stand in a name. -/
def okAt (l : List UInt8) (k : Nat) : Bool := letterC (l.getD k 0).toNat || (digitC (l.getD k 0).toNat && decide (k ≠ 0))
def nameOk (l : List UInt8) : Bool := decide (1 ≤ l.length ∧ l.length ≤ 8) && (List.range l.length).all (okAt l)
theorem nameOk_iff (l : List UInt8) : nameOk l = true ↔ (1 ≤ l.length ∧ l.length ≤ 8) ∧ ∀ k, k < l.length → okAt l k = true := by
  simp [nameOk, List.all_eq_true]
theorem nameOk_bad {l : List UInt8} {k : Nat} (hk : k < l.length) (h : okAt l k = false) : nameOk l = false := by
  rcases hb : nameOk l with _ | _
  · rfl
  · rw [nameOk_iff] at hb
    rw [hb.2 k hk] at h; cases h
theorem nameOk_all {l : List UInt8} (h : ∀ k, k < l.length → okAt l k = true) : nameOk l = decide (1 ≤ l.length ∧ l.length ≤ 8) := by
  have : (List.range l.length).all (okAt l) = true := by simp [List.all_eq_true]; exact h
  simp [nameOk, this]
theorem all_next {l : List UInt8} {k : Nat} (h : ∀ j, j < k → okAt l j = true) (hk : okAt l k = true) : ∀ j, j < k + 1 → okAt l j = true := by
  intro j hj
  rcases Nat.lt_or_ge j k with h1 | h1
  · exact h j h1
  · have : j = k := by omega
    subst this; exact hk
theorem toList_loop (s : ByteArray) : ∀ (n i : Nat) (r : List UInt8), n = s.size - i → ByteArray.toList.loop s i r = r.reverse ++ s.data.toList.drop i := by
  intro n
  induction n with
  | zero =>
    intro i r h
    unfold ByteArray.toList.loop
    rw [if_neg (by omega), List.drop_eq_nil_of_le (by simp; omega)]; simp
  | succ n ih =>
    intro i r h
    unfold ByteArray.toList.loop
    rw [if_pos (by omega), ih _ _ (by omega)]
    have hi : i < s.data.toList.length := by simp; omega
    rw [List.drop_eq_getElem_cons hi]
    have hi' : i < s.size := by omega
    have : s.get! i = s.data.toList[i] := by simp [ByteArray.get!, hi']
    rw [this]; simp
theorem toList_data (s : ByteArray) : s.toList = s.data.toList := by
  unfold ByteArray.toList; rw [toList_loop s s.size 0 [] (by omega)]; simp
theorem str_ne {u s : ByteArray} (h : u ≠ s) : (u.toList == s.toList) = false := by
  rw [toList_data, toList_data]
  rcases hb : (u.data.toList == s.data.toList) with _ | _
  · rfl
  · exfalso; apply h
    have := eq_of_beq hb
    exact ByteArray.ext (Array.toList_inj.1 this)
theorem byte_at (s : ByteArray) (k : Nat) (h : k < s.size) : s.data.toList.getD k 0 = s[k] := by
  have h' : k < s.data.toList.length := by simpa using h
  rw [List.getD, List.getElem?_eq_getElem h']
  rfl

end Go.Proofs.Ytdbedkjnoppkmaa

/-
  Plain words on tables of names: which bytes a table has.
-/
import Derived.Test.YtdbedkjnoppkmaaInsertP
import Derived.Test.YtdbedkjnoppkmaaNames
namespace Go.Proofs.Ytdbedkjnoppkmaa
open Go.RowKit

/-- A text ends with another one. -/
def endsS (a b : ByteArray) : Bool := decide (b.size ≤ a.size) && decide (a.extract (a.size - b.size) a.size = b)
/-- The text at place k of a list is the end of no other one of it. -/
def keepB (S : List ByteArray) (k : Nat) : Bool := (List.range S.length).all fun j => decide (j = k) || !endsS (S.getD j ⟨#[]⟩) (S.getD k ⟨#[]⟩)
/-- The bytes of a text, as numbers. -/
def numsOf (s : ByteArray) : List Int := s.data.toList.map fun c => (c.toNat : Int)
def tabBytes (S : List ByteArray) : Nat → List Int
  | 0 => [0]
  | k + 1 => if keepB S k then tabBytes S k ++ numsOf (S.getD k ⟨#[]⟩) ++ [0] else tabBytes S k
/-- Which names make a table. -/
def namesOk (names : List ByteArray) : Bool := names.all (fun s => nameOk s.data.toList) && decide (names.length ≤ 40)
/-- What NameTable answers: no bytes where it has no answer. -/
def nameTab (names : List ByteArray) : List Int := if namesOk names then tabBytes (names.foldl insertS []) (names.foldl insertS []).length else []
theorem nameTab_bad {names : List ByteArray} {k : Nat} {x : ByteArray} (hx : names[k]? = some x) (h : nameOk x.data.toList = false) : nameTab names = [] := by
  unfold nameTab; rw [if_neg]
  intro hn
  simp only [namesOk, Bool.and_eq_true, List.all_eq_true] at hn
  have := hn.1 x (List.mem_of_getElem? hx)
  rw [h] at this; cases this
theorem nameTab_many {names : List ByteArray} (h : 40 < names.length) : nameTab names = [] := by
  unfold nameTab; rw [if_neg]
  intro hn
  simp only [namesOk, Bool.and_eq_true, decide_eq_true_eq] at hn
  omega
theorem nameTab_ok {names : List ByteArray} (h : ∀ j x, j < names.length → names[j]? = some x → nameOk x.data.toList = true) (hl : names.length ≤ 40) : nameTab names = tabBytes (names.foldl insertS []) (names.foldl insertS []).length := by
  unfold nameTab; rw [if_pos]
  simp only [namesOk, Bool.and_eq_true, List.all_eq_true, decide_eq_true_eq]
  refine ⟨fun x hx => ?_, hl⟩
  obtain ⟨j, hj, he⟩ := List.getElem_of_mem hx
  exact h j x hj (by rw [List.getElem?_eq_getElem hj, he])
theorem fold_length (names : List ByteArray) : ∀ (l : List ByteArray), (names.foldl insertS l).length ≤ l.length + names.length := by
  induction names with
  | nil => intro l; simp
  | cons x r ih => intro l; have h1 := ih (insertS l x); have h2 := insertS_length l x; simp at *; omega
theorem mem_insertS {l : List ByteArray} {s x : ByteArray} (h : x ∈ insertS l s) : x ∈ l ∨ x = s := by
  unfold insertS at h
  split at h
  · exact .inl h
  · rcases List.mem_append.1 h with h | h
    · exact .inl (List.mem_of_mem_take h)
    · rcases List.mem_cons.1 h with h | h
      · exact .inr h
      · exact .inl (List.mem_of_mem_drop h)
theorem mem_fold (names : List ByteArray) : ∀ (l : List ByteArray) (x : ByteArray), x ∈ names.foldl insertS l → x ∈ l ∨ x ∈ names := by
  induction names with
  | nil => intro l x h; exact .inl h
  | cons y r ih =>
    intro l x h
    rcases ih _ x h with h | h
    · rcases mem_insertS h with h | h
      · exact .inl h
      · exact .inr (by simp [h])
    · exact .inr (by simp [h])
theorem take_fold {names : List ByteArray} {k : Nat} {x : ByteArray} (h : names[k]? = some x) : (names.take (k + 1)).foldl insertS [] = insertS ((names.take k).foldl insertS []) x := by
  have hk : k < names.length := by
    rcases Nat.lt_or_ge k names.length with h1 | h1
    · exact h1
    · rw [List.getElem?_eq_none h1] at h; cases h
  rw [List.take_succ_eq_append_getElem hk, List.foldl_append]
  rw [List.getElem?_eq_getElem hk] at h
  injection h with h
  rw [h]; rfl
/-- No other text, of the first j, ends with the one at place k. -/
def freeB (S : List ByteArray) (k j : Nat) : Bool := (List.range j).all fun i => decide (i = k) || !endsS (S.getD i ⟨#[]⟩) (S.getD k ⟨#[]⟩)
theorem freeB_next (S : List ByteArray) (k j : Nat) : freeB S k (j + 1) = (freeB S k j && (decide (j = k) || !endsS (S.getD j ⟨#[]⟩) (S.getD k ⟨#[]⟩))) := by
  simp [freeB, List.range_succ]
theorem keepB_free (S : List ByteArray) (k : Nat) : keepB S k = freeB S k S.length := rfl
theorem numsOf_wf (s : ByteArray) : ∀ x ∈ numsOf s, 0 ≤ x ∧ x < 256 := by
  intro x hx
  obtain ⟨c, _, rfl⟩ := List.mem_map.1 hx
  have := c.toNat_lt
  omega
theorem numsOf_length (s : ByteArray) : (numsOf s).length = s.size := by simp [numsOf]
theorem tabBytes_wf (S : List ByteArray) : ∀ (k : Nat), ∀ x ∈ tabBytes S k, 0 ≤ x ∧ x < 256
  | 0, x, hx => by simp [tabBytes] at hx; omega
  | k + 1, x, hx => by
    unfold tabBytes at hx
    split at hx
    · rcases List.mem_append.1 hx with h | h
      · rcases List.mem_append.1 h with h | h
        · exact tabBytes_wf S k x h
        · exact numsOf_wf _ x h
      · simp at h; omega
    · exact tabBytes_wf S k x hx
theorem tabBytes_short (S : List ByteArray) (h : ∀ x ∈ S, x.size ≤ 9) : ∀ (k : Nat), (tabBytes S k).length ≤ 1 + 10 * k
  | 0 => by simp [tabBytes]
  | k + 1 => by
    have ih := tabBytes_short S h k
    unfold tabBytes
    split
    · have hs : (S.getD k ⟨#[]⟩).size ≤ 9 := by
        by_cases hk : k < S.length
        · have : S.getD k ⟨#[]⟩ = S[k] := by simp [List.getD, List.getElem?_eq_getElem hk]
          rw [this]; exact h _ (List.getElem_mem hk)
        · have : S.getD k ⟨#[]⟩ = ⟨#[]⟩ := by simp [List.getD, List.getElem?_eq_none (Nat.le_of_not_lt hk)]
          rw [this]; decide
      simp only [List.length_append, numsOf_length, List.length_singleton]; omega
    · omega
theorem nameOk_size {s : ByteArray} (h : nameOk s.data.toList = true) : s.size ≤ 8 := by
  rw [nameOk_iff] at h
  have := h.1.2
  simpa using this

end Go.Proofs.Ytdbedkjnoppkmaa

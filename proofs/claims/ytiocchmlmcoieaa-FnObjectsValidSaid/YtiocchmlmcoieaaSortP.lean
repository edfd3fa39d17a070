/-
  Plain words on tables of names: which bytes a table has. Plain words on sorted lists of texts: the order in which they are put in does not matter. Plain words on sorted lists of texts: sorted, each once, is inserted one by one.
-/
import Derived.Lib.SlicesCompact
import Derived.Sort.Walk0
import Derived.Test.YtiocchmlmcoieaaMem
/- Plain words on tables of names: which bytes a table has. -/
namespace Go.Proofs.Ytiocchmlmcoieaa
open Go.RowKit

/-- A text ends with another one. -/
def endsS (a b : ByteArray) : Bool := decide (b.size ≤ a.size) && decide (a.extract (a.size - b.size) a.size = b)
/-- The text at place k of a list is the end of no other one of it. -/
def keepB (S : List ByteArray) (k : Nat) : Bool := (List.range S.length).all fun j => decide (j = k) || !endsS (S.getD j ⟨#[]⟩) (S.getD k ⟨#[]⟩)
/-- The bytes of a text, as numbers. -/
def numsOf (s : ByteArray) : List Int := s.data.toList.map fun c => (c.toNat : Int)
def tabBytes (S : List ByteArray) : Nat → List Int
  | 0 => [0]
  | k + 1 => if keepB S k then tabBytes S k ++ numsOf (S.getD k ⟨#[]⟩) ++ [0] else tabBytes S k
/-- Which names make a table. -/
def namesOk (names : List ByteArray) : Bool := names.all (fun s => nameOk s.data.toList) && decide (names.length ≤ 40)
/-- What NameTable answers: no bytes where it has no answer. -/
def nameTab (names : List ByteArray) : List Int := if namesOk names then tabBytes (names.foldl insertS []) (names.foldl insertS []).length else []
theorem nameTab_bad {names : List ByteArray} {k : Nat} {x : ByteArray} (hx : names[k]? = some x) (h : nameOk x.data.toList = false) : nameTab names = [] := by
  unfold nameTab; rw [if_neg]
  intro hn
  simp only [namesOk, Bool.and_eq_true, List.all_eq_true] at hn
  have := hn.1 x (List.mem_of_getElem? hx)
  rw [h] at this; cases this
theorem nameTab_many {names : List ByteArray} (h : 40 < names.length) : nameTab names = [] := by
  unfold nameTab; rw [if_neg]
  intro hn
  simp only [namesOk, Bool.and_eq_true, decide_eq_true_eq] at hn
  omega
theorem nameTab_ok {names : List ByteArray} (h : ∀ j x, j < names.length → names[j]? = some x → nameOk x.data.toList = true) (hl : names.length ≤ 40) : nameTab names = tabBytes (names.foldl insertS []) (names.foldl insertS []).length := by
  unfold nameTab; rw [if_pos]
  simp only [namesOk, Bool.and_eq_true, List.all_eq_true, decide_eq_true_eq]
  refine ⟨fun x hx => ?_, hl⟩
  obtain ⟨j, hj, he⟩ := List.getElem_of_mem hx
  exact h j x hj (by rw [List.getElem?_eq_getElem hj, he])
theorem fold_length (names : List ByteArray) : ∀ (l : List ByteArray), (names.foldl insertS l).length ≤ l.length + names.length := by
  induction names with
  | nil => intro l; simp
  | cons x r ih => intro l; have h1 := ih (insertS l x); have h2 := insertS_length l x; simp at *; omega
theorem mem_insertS {l : List ByteArray} {s x : ByteArray} (h : x ∈ insertS l s) : x ∈ l ∨ x = s := by
  unfold insertS at h
  split at h
  · exact .inl h
  · rcases List.mem_append.1 h with h | h
    · exact .inl (List.mem_of_mem_take h)
    · rcases List.mem_cons.1 h with h | h
      · exact .inr h
      · exact .inl (List.mem_of_mem_drop h)
theorem mem_fold (names : List ByteArray) : ∀ (l : List ByteArray) (x : ByteArray), x ∈ names.foldl insertS l → x ∈ l ∨ x ∈ names := by
  induction names with
  | nil => intro l x h; exact .inl h
  | cons y r ih =>
    intro l x h
    rcases ih _ x h with h | h
    · rcases mem_insertS h with h | h
      · exact .inl h
      · exact .inr (by simp [h])
    · exact .inr (by simp [h])
theorem take_fold {names : List ByteArray} {k : Nat} {x : ByteArray} (h : names[k]? = some x) : (names.take (k + 1)).foldl insertS [] = insertS ((names.take k).foldl insertS []) x := by
  have hk : k < names.length := by
    rcases Nat.lt_or_ge k names.length with h1 | h1
    · exact h1
    · rw [List.getElem?_eq_none h1] at h; cases h
  rw [List.take_succ_eq_append_getElem hk, List.foldl_append]
  rw [List.getElem?_eq_getElem hk] at h
  injection h with h
  rw [h]; rfl
/-- No other text, of the first j, ends with the one at place k. -/
def freeB (S : List ByteArray) (k j : Nat) : Bool := (List.range j).all fun i => decide (i = k) || !endsS (S.getD i ⟨#[]⟩) (S.getD k ⟨#[]⟩)
theorem freeB_next (S : List ByteArray) (k j : Nat) : freeB S k (j + 1) = (freeB S k j && (decide (j = k) || !endsS (S.getD j ⟨#[]⟩) (S.getD k ⟨#[]⟩))) := by
  simp [freeB, List.range_succ]
theorem keepB_free (S : List ByteArray) (k : Nat) : keepB S k = freeB S k S.length := rfl
theorem numsOf_wf (s : ByteArray) : ∀ x ∈ numsOf s, 0 ≤ x ∧ x < 256 := by
  intro x hx
  obtain ⟨c, _, rfl⟩ := List.mem_map.1 hx
  have := c.toNat_lt
  omega
theorem numsOf_length (s : ByteArray) : (numsOf s).length = s.size := by simp [numsOf]
theorem tabBytes_wf (S : List ByteArray) : ∀ (k : Nat), ∀ x ∈ tabBytes S k, 0 ≤ x ∧ x < 256
  | 0, x, hx => by simp [tabBytes] at hx; omega
  | k + 1, x, hx => by
    unfold tabBytes at hx
    split at hx
    · rcases List.mem_append.1 hx with h | h
      · rcases List.mem_append.1 h with h | h
        · exact tabBytes_wf S k x h
        · exact numsOf_wf _ x h
      · simp at h; omega
    · exact tabBytes_wf S k x hx
theorem tabBytes_short (S : List ByteArray) (h : ∀ x ∈ S, x.size ≤ 9) : ∀ (k : Nat), (tabBytes S k).length ≤ 1 + 10 * k
  | 0 => by simp [tabBytes]
  | k + 1 => by
    have ih := tabBytes_short S h k
    unfold tabBytes
    split
    · have hs : (S.getD k ⟨#[]⟩).size ≤ 9 := by
        by_cases hk : k < S.length
        · have : S.getD k ⟨#[]⟩ = S[k] := by simp [List.getD, List.getElem?_eq_getElem hk]
          rw [this]; exact h _ (List.getElem_mem hk)
        · have : S.getD k ⟨#[]⟩ = ⟨#[]⟩ := by simp [List.getD, List.getElem?_eq_none (Nat.le_of_not_lt hk)]
          rw [this]; decide
      simp only [List.length_append, numsOf_length, List.length_singleton]; omega
    · omega
theorem nameOk_size {s : ByteArray} (h : nameOk s.data.toList = true) : s.size ≤ 8 := by
  rw [nameOk_iff] at h
  have := h.1.2
  simpa using this

end Go.Proofs.Ytiocchmlmcoieaa
/- Plain words on sorted lists of texts: the order in which they are put in does not matter. -/
namespace Go.Proofs.Ytiocchmlmcoieaa
open Go.RowKit

theorem less_irrefl : ∀ l : List UInt8, Op.bytesLess l l = false
  | [] => rfl
  | a :: l => by
    have h : ¬ a < a := by rw [UInt8.lt_iff_toNat_lt]; omega
    simp [Op.bytesLess, h, less_irrefl l]
theorem less_trans : ∀ a b c : List UInt8, Op.bytesLess a b = true → Op.bytesLess b c = true → Op.bytesLess a c = true
  | [], [], _, h, _ => by simp [Op.bytesLess] at h
  | _ :: _, [], _, h, _ => by simp [Op.bytesLess] at h
  | _, _ :: _, [], _, h => by simp [Op.bytesLess] at h
  | [], _ :: _, _ :: _, _, _ => by simp [Op.bytesLess]
  | x :: a, y :: b, z :: c, h1, h2 => by
    simp only [Op.bytesLess, Bool.or_eq_true, Bool.and_eq_true, decide_eq_true_eq, beq_iff_eq] at h1 h2 ⊢
    rcases h1 with h1 | ⟨h1, h1'⟩
    · rcases h2 with h2 | ⟨h2, _⟩
      · left; rw [UInt8.lt_iff_toNat_lt] at *; omega
      · left; rw [← h2]; exact h1
    · rcases h2 with h2 | ⟨h2, h2'⟩
      · left; rw [h1]; exact h2
      · right; exact ⟨h1.trans h2, less_trans a b c h1' h2'⟩
theorem less_or : ∀ a b : List UInt8, Op.bytesLess a b = true ∨ a = b ∨ Op.bytesLess b a = true
  | [], [] => .inr (.inl rfl)
  | [], _ :: _ => .inl rfl
  | _ :: _, [] => .inr (.inr rfl)
  | x :: a, y :: b => by
    simp only [Op.bytesLess, Bool.or_eq_true, Bool.and_eq_true, decide_eq_true_eq, beq_iff_eq]
    rcases Nat.lt_trichotomy x.toNat y.toNat with h | h | h
    · exact .inl (.inl (by rw [UInt8.lt_iff_toNat_lt]; exact h))
    · have h : x = y := UInt8.toNat_inj.1 h
      subst h
      rcases less_or a b with h | h | h
      · exact .inl (.inr ⟨rfl, h⟩)
      · exact .inr (.inl (by rw [h]))
      · exact .inr (.inr (.inr ⟨rfl, h⟩))
    · exact .inr (.inr (.inl (by rw [UInt8.lt_iff_toNat_lt]; exact h)))
theorem ltS_irrefl (a : ByteArray) : ltS a a = false := less_irrefl _
theorem ltS_trans {a b c : ByteArray} (h1 : ltS a b = true) (h2 : ltS b c = true) : ltS a c = true := less_trans _ _ _ h1 h2
theorem ltS_or (a b : ByteArray) : ltS a b = true ∨ a = b ∨ ltS b a = true := by
  rcases less_or a.toList b.toList with h | h | h
  · exact .inl h
  · refine .inr (.inl ?_)
    rw [toList_data, toList_data] at h
    exact ByteArray.ext (Array.ext' h)
  · exact .inr (.inr h)
/-- A list of texts is sorted, each of them there once. -/
def SortedS (l : List ByteArray) : Prop := l.Pairwise fun a b => ltS a b = true
/-- The same as insertS, place by place. -/
theorem insertS_nil (s : ByteArray) : insertS [] s = [s] := rfl
theorem insertS_lt {x s : ByteArray} {l : List ByteArray} (h : ltS x s = true) : insertS (x :: l) s = x :: insertS l s := by
  have hp : posS (x :: l) s = posS l s + 1 := by simp [posS, h]
  unfold insertS
  rw [hp]
  simp only [List.getElem?_cons_succ, List.take_succ_cons, List.drop_succ_cons]
  split <;> rfl
theorem insertS_eq (s : ByteArray) (l : List ByteArray) : insertS (s :: l) s = s :: l := by
  have hp : posS (s :: l) s = 0 := by simp [posS, ltS_irrefl]
  unfold insertS; rw [hp]; simp
theorem insertS_gt {x s : ByteArray} {l : List ByteArray} (h : ltS x s = false) (hn : x ≠ s) : insertS (x :: l) s = s :: x :: l := by
  have hp : posS (x :: l) s = 0 := by simp [posS, h]
  unfold insertS; rw [hp]; simp [hn]
theorem mem_insertS_iff {s : ByteArray} : ∀ {l : List ByteArray} {x : ByteArray}, x ∈ insertS l s ↔ x ∈ l ∨ x = s
  | [], x => by rw [insertS_nil]; simp
  | y :: l, x => by
    rcases hb : ltS y s with _ | _
    · by_cases hy : y = s
      · subst hy; rw [insertS_eq]; simp only [List.mem_cons]; constructor
        · intro h; exact .inl h
        · rintro (h | h)
          · exact h
          · exact .inl h
      · rw [insertS_gt hb hy]; simp only [List.mem_cons]; constructor
        · rintro (h | h | h)
          · exact .inr h
          · exact .inl (.inl h)
          · exact .inl (.inr h)
        · rintro ((h | h) | h)
          · exact .inr (.inl h)
          · exact .inr (.inr h)
          · exact .inl h
    · rw [insertS_lt hb]; simp only [List.mem_cons]; rw [mem_insertS_iff]; constructor
      · rintro (h | h | h)
        · exact .inl (.inl h)
        · exact .inl (.inr h)
        · exact .inr h
      · rintro ((h | h) | h)
        · exact .inl h
        · exact .inr (.inl h)
        · exact .inr (.inr h)
theorem sorted_insertS {s : ByteArray} : ∀ {l : List ByteArray}, SortedS l → SortedS (insertS l s)
  | [], _ => by rw [insertS_nil]; simp [SortedS]
  | y :: l, h => by
    have h' : (∀ a ∈ l, ltS y a = true) ∧ SortedS l := by simpa [SortedS, List.pairwise_cons] using h
    rcases hb : ltS y s with _ | _
    · by_cases hy : y = s
      · subst hy; rw [insertS_eq]; exact h
      · rw [insertS_gt hb hy]
        have hs : ltS s y = true := by
          rcases ltS_or y s with h1 | h1 | h1
          · rw [h1] at hb; cases hb
          · exact absurd h1 hy
          · exact h1
        refine List.pairwise_cons.2 ⟨?_, h⟩
        intro a ha
        rcases List.mem_cons.1 ha with ha | ha
        · subst ha; exact hs
        · exact ltS_trans hs (h'.1 a ha)
    · rw [insertS_lt hb]
      refine List.pairwise_cons.2 ⟨?_, sorted_insertS h'.2⟩
      intro a ha
      rcases mem_insertS_iff.1 ha with ha | ha
      · exact h'.1 a ha
      · subst ha; exact hb
theorem sorted_fold (names : List ByteArray) : ∀ (l : List ByteArray), SortedS l → SortedS (names.foldl insertS l) := by
  induction names with
  | nil => intro l h; exact h
  | cons x r ih => intro l h; exact ih _ (sorted_insertS h)
theorem mem_fold_iff (names : List ByteArray) : ∀ (l : List ByteArray) (x : ByteArray), x ∈ names.foldl insertS l ↔ x ∈ l ∨ x ∈ names := by
  induction names with
  | nil => intro l x; simp
  | cons y r ih =>
    intro l x
    rw [List.foldl_cons, ih, mem_insertS_iff, List.mem_cons]
    constructor
    · rintro ((h | h) | h)
      · exact .inl h
      · exact .inr (.inl h)
      · exact .inr (.inr h)
    · rintro (h | h | h)
      · exact .inl (.inl h)
      · exact .inl (.inr h)
      · exact .inr h
theorem sorted_ext : ∀ {a b : List ByteArray}, SortedS a → SortedS b → (∀ x, x ∈ a ↔ x ∈ b) → a = b
  | [], [], _, _, _ => rfl
  | [], y :: b, _, _, h => by have := (h y).2 (by simp); simp at this
  | x :: a, [], _, _, h => by have := (h x).1 (by simp); simp at this
  | x :: a, y :: b, ha, hb, h => by
    have ha' := List.pairwise_cons.1 ha
    have hb' := List.pairwise_cons.1 hb
    have hxy : x = y := by
      rcases List.mem_cons.1 ((h x).1 (by simp)) with h1 | h1
      · exact h1
      · rcases List.mem_cons.1 ((h y).2 (by simp)) with h2 | h2
        · exact h2.symm
        · have e1 := hb'.1 x h1
          have e2 := ha'.1 y h2
          have := ltS_trans e1 e2
          rw [ltS_irrefl] at this; cases this
    subst hxy
    have hab : a = b := sorted_ext ha'.2 hb'.2 fun z => by
      have hz := h z
      simp only [List.mem_cons] at hz
      constructor
      · intro hm
        rcases hz.1 (.inr hm) with h1 | h1
        · subst h1; have := ha'.1 _ hm; rw [ltS_irrefl] at this; cases this
        · exact h1
      · intro hm
        rcases hz.2 (.inr hm) with h1 | h1
        · subst h1; have := hb'.1 _ hm; rw [ltS_irrefl] at this; cases this
        · exact h1
    rw [hab]
theorem sorted_nodup {l : List ByteArray} (h : SortedS l) : l.Nodup := by
  refine List.Pairwise.imp ?_ h
  intro a b hab he
  subst he
  rw [ltS_irrefl] at hab; cases hab
/-- The order of the names does not matter. -/
theorem nameTab_members {a b : List ByteArray} (hm : ∀ x, x ∈ a ↔ x ∈ b) (hl : a.length ≤ 40 ↔ b.length ≤ 40) : nameTab a = nameTab b := by
  have hok : namesOk a = namesOk b := by
    unfold namesOk
    have h1 : (a.all fun s => nameOk s.data.toList) = (b.all fun s => nameOk s.data.toList) := by
      rw [Bool.eq_iff_iff]; simp only [List.all_eq_true]
      exact ⟨fun h x hx => h x ((hm x).2 hx), fun h x hx => h x ((hm x).1 hx)⟩
    rw [h1]; congr 1; exact decide_eq_decide.2 hl
  have hf : a.foldl insertS [] = b.foldl insertS [] := sorted_ext (sorted_fold a [] List.Pairwise.nil) (sorted_fold b [] List.Pairwise.nil) fun x => by
    rw [mem_fold_iff, mem_fold_iff, hm x]
  unfold nameTab; rw [hok, hf]

end Go.Proofs.Ytiocchmlmcoieaa
/- Plain words on sorted lists of texts: sorted, each once, is inserted one by one. -/
namespace Go.Proofs.Ytiocchmlmcoieaa
open Go.RowKit Go.Lib

def strL (l : List UInt8) : ByteArray := ⟨l.toArray⟩
theorem strL_data (s : ByteArray) : strL s.data.toList = s := by
  apply ByteArray.ext; simp [strL]
theorem ltS_strL (a b : List UInt8) : ltS (strL a) (strL b) = Op.bytesLess a b := by
  unfold ltS
  rw [toList_data, toList_data]
  rfl
theorem compactUpTo_sorted (d : Array (List UInt8)) (hd : ∀ i, i + 1 < d.size → Op.bytesLess d[i + 1]! d[i]! = false) : ∀ m, m ≤ d.size →
    (compactUpTo d m).Pairwise (fun x y => Op.bytesLess x y = true) ∧ (∀ x, x ∈ compactUpTo d m ↔ ∃ i, i < m ∧ d[i]! = x) ∧ (0 < m → ∀ x ∈ compactUpTo d m, Op.bytesLess d[m - 1]! x = false) := by
  intro m
  induction m with
  | zero => intro _; exact ⟨by simp [compactUpTo], by simp [compactUpTo], by omega⟩
  | succ m ih =>
    intro hm
    obtain ⟨h1, h2, h3⟩ := ih (by omega)
    rw [compactUpTo_succ]
    rcases Nat.eq_zero_or_pos m with h0 | hpos
    · subst h0
      have hk : keeps d 0 = true := by simp [keeps]
      rw [if_pos hk]
      have e : compactUpTo d 0 = [] := by simp [compactUpTo]
      rw [e]
      refine ⟨by simp, fun x => ?_, fun _ x hx => ?_⟩
      · simp only [List.nil_append, List.mem_singleton]
        exact ⟨fun h => ⟨0, by omega, h.symm⟩, fun ⟨i, hi, hx⟩ => by have : i = 0 := by omega
                                                                     subst this; exact hx.symm⟩
      · simp only [List.nil_append, List.mem_singleton] at hx
        rw [hx]; exact less_irrefl _
    · have hs := hd (m - 1) (by omega)
      rw [show m - 1 + 1 = m by omega] at hs
      by_cases e : d[m]! = d[m - 1]!
      · rw [if_neg (by rw [keeps_neg hpos e]; simp), List.append_nil]
        refine ⟨h1, fun x => ?_, fun _ x hx => ?_⟩
        · rw [h2]
          constructor
          · rintro ⟨i, hi, hx⟩; exact ⟨i, by omega, hx⟩
          · rintro ⟨i, hi, hx⟩
            by_cases hi2 : i = m
            · subst hi2; exact ⟨i - 1, by omega, by rw [← e]; exact hx⟩
            · exact ⟨i, by omega, hx⟩
        · rw [Nat.add_sub_cancel, e]; exact h3 hpos x hx
      · rw [if_pos (keeps_pos e)]
        have hlt : Op.bytesLess d[m - 1]! d[m]! = true := by
          rcases less_or d[m - 1]! d[m]! with h | h | h
          · exact h
          · exact absurd h.symm e
          · rw [hs] at h; cases h
        have hall : ∀ x ∈ compactUpTo d m, Op.bytesLess x d[m]! = true := fun x hx => by
          rcases less_or x d[m - 1]! with h | h | h
          · exact less_trans _ _ _ h hlt
          · rw [h]; exact hlt
          · rw [h3 hpos x hx] at h; cases h
        refine ⟨?_, fun x => ?_, fun _ x hx => ?_⟩
        · rw [List.pairwise_append]
          exact ⟨h1, by simp, fun x hx y hy => by simp only [List.mem_singleton] at hy; rw [hy]; exact hall x hx⟩
        · rw [List.mem_append, h2, List.mem_singleton]
          constructor
          · rintro (⟨i, hi, hx⟩ | hx)
            · exact ⟨i, by omega, hx⟩
            · exact ⟨m, by omega, hx.symm⟩
          · rintro ⟨i, hi, hx⟩
            by_cases hi2 : i = m
            · subst hi2; exact .inr hx.symm
            · exact .inl ⟨i, by omega, hx⟩
        · rw [Nat.add_sub_cancel]
          rcases List.mem_append.1 hx with hx | hx
          · cases hb : Op.bytesLess d[m]! x with
            | false => rfl
            | true => exfalso; have := less_trans _ _ _ (hall x hx) hb; rw [less_irrefl] at this; cases this
          · simp only [List.mem_singleton] at hx; rw [hx]; exact less_irrefl _
/-- What the program's sorting makes of names. -/
def sortedL (names : List ByteArray) : List (List UInt8) := compact ((names.map fun s => s.data.toList).mergeSort fun x y => decide (x ≤ y))
theorem sortedL_is (names : List ByteArray) : (sortedL names).map strL = names.foldl insertS [] := by
  obtain ⟨zs, hz⟩ : ∃ zs, (names.map fun s => s.data.toList).mergeSort (fun x y => decide (x ≤ y)) = zs := ⟨_, rfl⟩
  have hp : zs.Pairwise (fun x y => decide (x ≤ y) = true) := by
    rw [← hz]
    exact List.pairwise_mergeSort (fun a b c h1 h2 => by simp only [decide_eq_true_eq] at *; exact List.le_trans h1 h2) (fun a b => by
      simp only [Bool.or_eq_true, decide_eq_true_eq]; exact List.le_total a b) _
  have hmem : ∀ x, x ∈ zs ↔ x ∈ names.map fun s => s.data.toList := fun x => by rw [← hz]; exact List.mem_mergeSort
  have hd : ∀ i, i + 1 < zs.toArray.size → Op.bytesLess zs.toArray[i + 1]! zs.toArray[i]! = false := fun i hi => by
    have hi' : i + 1 < zs.length := by simpa using hi
    have h := List.pairwise_iff_getElem.1 hp i (i + 1) (by omega) hi' (by omega)
    simp only [decide_eq_true_eq] at h
    rw [bytesLess_eq]
    simp only [decide_eq_false_iff_not]
    have e1 : zs.toArray[i + 1]! = zs[i + 1] := by simp [hi']
    have e2 : zs.toArray[i]! = zs[i] := by simp [show i < zs.length by omega]
    rw [e1, e2]
    exact List.not_lt.2 h
  obtain ⟨h1, h2, _⟩ := compactUpTo_sorted zs.toArray hd zs.length (by simp)
  have e : sortedL names = compactUpTo zs.toArray zs.length := by unfold sortedL; rw [hz]; rfl
  rw [e]
  apply sorted_ext
  · unfold SortedS
    rw [List.pairwise_map]
    exact h1.imp fun {a b} h => by rw [ltS_strL]; exact h
  · exact sorted_fold names [] List.Pairwise.nil
  · intro x
    rw [mem_fold_iff, List.mem_map]
    constructor
    · rintro ⟨l, hl, rfl⟩
      obtain ⟨i, hi, hx⟩ := (h2 l).1 hl
      have : l ∈ zs := by
        rw [← hx]
        have e2 : zs.toArray[i]! = zs[i] := by simp [hi]
        rw [e2]; exact List.getElem_mem hi
      obtain ⟨s, hs, rfl⟩ := List.mem_map.1 ((hmem l).1 this)
      rw [strL_data]; exact .inr hs
    · rintro (h | h)
      · cases h
      · refine ⟨x.data.toList, ?_, strL_data x⟩
        rw [h2]
        obtain ⟨i, hi, he⟩ := List.getElem_of_mem ((hmem x.data.toList).2 (List.mem_map.2 ⟨x, h, rfl⟩))
        exact ⟨i, hi, by have e2 : zs.toArray[i]! = zs[i] := by simp [hi]
                         rw [e2, he]⟩

end Go.Proofs.Ytiocchmlmcoieaa

/-
  Plain words on sorted lists of texts: the order in which they are put in does not matter.
-/
import Derived.Test.YtdbedkjnoppkmaaTabP
namespace Go.Proofs.Ytdbedkjnoppkmaa
open Go.RowKit

theorem less_irrefl : ∀ l : List UInt8, Op.bytesLess l l = false
  | [] => rfl
  | a :: l => by
    have h : ¬ a < a := by rw [UInt8.lt_iff_toNat_lt]; omega
    simp [Op.bytesLess, h, less_irrefl l]
theorem less_trans : ∀ a b c : List UInt8, Op.bytesLess a b = true → Op.bytesLess b c = true → Op.bytesLess a c = true
  | [], [], _, h, _ => by simp [Op.bytesLess] at h
  | _ :: _, [], _, h, _ => by simp [Op.bytesLess] at h
  | _, _ :: _, [], _, h => by simp [Op.bytesLess] at h
  | [], _ :: _, _ :: _, _, _ => by simp [Op.bytesLess]
  | x :: a, y :: b, z :: c, h1, h2 => by
    simp only [Op.bytesLess, Bool.or_eq_true, Bool.and_eq_true, decide_eq_true_eq, beq_iff_eq] at h1 h2 ⊢
    rcases h1 with h1 | ⟨h1, h1'⟩
    · rcases h2 with h2 | ⟨h2, _⟩
      · left; rw [UInt8.lt_iff_toNat_lt] at *; omega
      · left; rw [← h2]; exact h1
    · rcases h2 with h2 | ⟨h2, h2'⟩
      · left; rw [h1]; exact h2
      · right; exact ⟨h1.trans h2, less_trans a b c h1' h2'⟩
theorem less_or : ∀ a b : List UInt8, Op.bytesLess a b = true ∨ a = b ∨ Op.bytesLess b a = true
  | [], [] => .inr (.inl rfl)
  | [], _ :: _ => .inl rfl
  | _ :: _, [] => .inr (.inr rfl)
  | x :: a, y :: b => by
    simp only [Op.bytesLess, Bool.or_eq_true, Bool.and_eq_true, decide_eq_true_eq, beq_iff_eq]
    rcases Nat.lt_trichotomy x.toNat y.toNat with h | h | h
    · exact .inl (.inl (by rw [UInt8.lt_iff_toNat_lt]; exact h))
    · have h : x = y := UInt8.toNat_inj.1 h
      subst h
      rcases less_or a b with h | h | h
      · exact .inl (.inr ⟨rfl, h⟩)
      · exact .inr (.inl (by rw [h]))
      · exact .inr (.inr (.inr ⟨rfl, h⟩))
    · exact .inr (.inr (.inl (by rw [UInt8.lt_iff_toNat_lt]; exact h)))
theorem ltS_irrefl (a : ByteArray) : ltS a a = false := less_irrefl _
theorem ltS_trans {a b c : ByteArray} (h1 : ltS a b = true) (h2 : ltS b c = true) : ltS a c = true := less_trans _ _ _ h1 h2
theorem ltS_or (a b : ByteArray) : ltS a b = true ∨ a = b ∨ ltS b a = true := by
  rcases less_or a.toList b.toList with h | h | h
  · exact .inl h
  · refine .inr (.inl ?_)
    rw [toList_data, toList_data] at h
    exact ByteArray.ext (Array.ext' h)
  · exact .inr (.inr h)
/-- A list of texts is sorted, each of them there once. -/
def SortedS (l : List ByteArray) : Prop := l.Pairwise fun a b => ltS a b = true
/-- The same as insertS, place by place. -/
theorem insertS_nil (s : ByteArray) : insertS [] s = [s] := rfl
theorem insertS_lt {x s : ByteArray} {l : List ByteArray} (h : ltS x s = true) : insertS (x :: l) s = x :: insertS l s := by
  have hp : posS (x :: l) s = posS l s + 1 := by simp [posS, h]
  unfold insertS
  rw [hp]
  simp only [List.getElem?_cons_succ, List.take_succ_cons, List.drop_succ_cons]
  split <;> rfl
theorem insertS_eq (s : ByteArray) (l : List ByteArray) : insertS (s :: l) s = s :: l := by
  have hp : posS (s :: l) s = 0 := by simp [posS, ltS_irrefl]
  unfold insertS; rw [hp]; simp
theorem insertS_gt {x s : ByteArray} {l : List ByteArray} (h : ltS x s = false) (hn : x ≠ s) : insertS (x :: l) s = s :: x :: l := by
  have hp : posS (x :: l) s = 0 := by simp [posS, h]
  unfold insertS; rw [hp]; simp [hn]
theorem mem_insertS_iff {s : ByteArray} : ∀ {l : List ByteArray} {x : ByteArray}, x ∈ insertS l s ↔ x ∈ l ∨ x = s
  | [], x => by rw [insertS_nil]; simp
  | y :: l, x => by
    rcases hb : ltS y s with _ | _
    · by_cases hy : y = s
      · subst hy; rw [insertS_eq]; simp only [List.mem_cons]; constructor
        · intro h; exact .inl h
        · rintro (h | h)
          · exact h
          · exact .inl h
      · rw [insertS_gt hb hy]; simp only [List.mem_cons]; constructor
        · rintro (h | h | h)
          · exact .inr h
          · exact .inl (.inl h)
          · exact .inl (.inr h)
        · rintro ((h | h) | h)
          · exact .inr (.inl h)
          · exact .inr (.inr h)
          · exact .inl h
    · rw [insertS_lt hb]; simp only [List.mem_cons]; rw [mem_insertS_iff]; constructor
      · rintro (h | h | h)
        · exact .inl (.inl h)
        · exact .inl (.inr h)
        · exact .inr h
      · rintro ((h | h) | h)
        · exact .inl h
        · exact .inr (.inl h)
        · exact .inr (.inr h)
theorem sorted_insertS {s : ByteArray} : ∀ {l : List ByteArray}, SortedS l → SortedS (insertS l s)
  | [], _ => by rw [insertS_nil]; simp [SortedS]
  | y :: l, h => by
    have h' : (∀ a ∈ l, ltS y a = true) ∧ SortedS l := by simpa [SortedS, List.pairwise_cons] using h
    rcases hb : ltS y s with _ | _
    · by_cases hy : y = s
      · subst hy; rw [insertS_eq]; exact h
      · rw [insertS_gt hb hy]
        have hs : ltS s y = true := by
          rcases ltS_or y s with h1 | h1 | h1
          · rw [h1] at hb; cases hb
          · exact absurd h1 hy
          · exact h1
        refine List.pairwise_cons.2 ⟨?_, h⟩
        intro a ha
        rcases List.mem_cons.1 ha with ha | ha
        · subst ha; exact hs
        · exact ltS_trans hs (h'.1 a ha)
    · rw [insertS_lt hb]
      refine List.pairwise_cons.2 ⟨?_, sorted_insertS h'.2⟩
      intro a ha
      rcases mem_insertS_iff.1 ha with ha | ha
      · exact h'.1 a ha
      · subst ha; exact hb
theorem sorted_fold (names : List ByteArray) : ∀ (l : List ByteArray), SortedS l → SortedS (names.foldl insertS l) := by
  induction names with
  | nil => intro l h; exact h
  | cons x r ih => intro l h; exact ih _ (sorted_insertS h)
theorem mem_fold_iff (names : List ByteArray) : ∀ (l : List ByteArray) (x : ByteArray), x ∈ names.foldl insertS l ↔ x ∈ l ∨ x ∈ names := by
  induction names with
  | nil => intro l x; simp
  | cons y r ih =>
    intro l x
    rw [List.foldl_cons, ih, mem_insertS_iff, List.mem_cons]
    constructor
    · rintro ((h | h) | h)
      · exact .inl h
      · exact .inr (.inl h)
      · exact .inr (.inr h)
    · rintro (h | h | h)
      · exact .inl (.inl h)
      · exact .inl (.inr h)
      · exact .inr h
theorem sorted_ext : ∀ {a b : List ByteArray}, SortedS a → SortedS b → (∀ x, x ∈ a ↔ x ∈ b) → a = b
  | [], [], _, _, _ => rfl
  | [], y :: b, _, _, h => by have := (h y).2 (by simp); simp at this
  | x :: a, [], _, _, h => by have := (h x).1 (by simp); simp at this
  | x :: a, y :: b, ha, hb, h => by
    have ha' := List.pairwise_cons.1 ha
    have hb' := List.pairwise_cons.1 hb
    have hxy : x = y := by
      rcases List.mem_cons.1 ((h x).1 (by simp)) with h1 | h1
      · exact h1
      · rcases List.mem_cons.1 ((h y).2 (by simp)) with h2 | h2
        · exact h2.symm
        · have e1 := hb'.1 x h1
          have e2 := ha'.1 y h2
          have := ltS_trans e1 e2
          rw [ltS_irrefl] at this; cases this
    subst hxy
    have hab : a = b := sorted_ext ha'.2 hb'.2 fun z => by
      have hz := h z
      simp only [List.mem_cons] at hz
      constructor
      · intro hm
        rcases hz.1 (.inr hm) with h1 | h1
        · subst h1; have := ha'.1 _ hm; rw [ltS_irrefl] at this; cases this
        · exact h1
      · intro hm
        rcases hz.2 (.inr hm) with h1 | h1
        · subst h1; have := hb'.1 _ hm; rw [ltS_irrefl] at this; cases this
        · exact h1
    rw [hab]
theorem sorted_nodup {l : List ByteArray} (h : SortedS l) : l.Nodup := by
  refine List.Pairwise.imp ?_ h
  intro a b hab he
  subst he
  rw [ltS_irrefl] at hab; cases hab
/-- The order of the names does not matter. -/
theorem nameTab_members {a b : List ByteArray} (hm : ∀ x, x ∈ a ↔ x ∈ b) (hl : a.length ≤ 40 ↔ b.length ≤ 40) : nameTab a = nameTab b := by
  have hok : namesOk a = namesOk b := by
    unfold namesOk
    have h1 : (a.all fun s => nameOk s.data.toList) = (b.all fun s => nameOk s.data.toList) := by
      rw [Bool.eq_iff_iff]; simp only [List.all_eq_true]
      exact ⟨fun h x hx => h x ((hm x).2 hx), fun h x hx => h x ((hm x).1 hx)⟩
    rw [h1]; congr 1; exact decide_eq_decide.2 hl
  have hf : a.foldl insertS [] = b.foldl insertS [] := sorted_ext (sorted_fold a [] List.Pairwise.nil) (sorted_fold b [] List.Pairwise.nil) fun x => by
    rw [mem_fold_iff, mem_fold_iff, hm x]
  unfold nameTab; rw [hok, hf]

end Go.Proofs.Ytdbedkjnoppkmaa

/-
  Plain words on the names that a table keeps: those that are the end of no other one. Plain words on names in tables: each one of a table's names is found there; the text behind a first byte.
-/
import Derived.Test.YtiocchmlmcoieaaSortP
import Derived.Test.YtiocchmlmcoieaaMem
import Derived.Test.YtiocchmlmcoieaaPlaceS
/- Plain words on the names that a table keeps: those that are the end of no other one. -/
namespace Go.Proofs.Ytiocchmlmcoieaa
open Go.RowKit

theorem endsS_iff (a b : ByteArray) : endsS a b = true ↔ b.data.toList <:+ a.data.toList := by
  unfold endsS
  rw [List.suffix_iff_eq_drop]
  simp only [Bool.and_eq_true, decide_eq_true_eq]
  have hx : (a.extract (a.size - b.size) a.size).data.toList = a.data.toList.drop (a.size - b.size) := by
    rw [ByteArray.data_extract, Array.toList_extract, List.extract_eq_take_drop]
    refine List.take_of_length_le ?_
    rw [List.length_drop]
    exact Nat.le_refl _
  have hs : a.data.toList.length - b.data.toList.length = a.size - b.size := rfl
  rw [hs]
  constructor
  · rintro ⟨_, h⟩
    rw [← hx, h]
  · intro h
    have he : a.extract (a.size - b.size) a.size = b := ByteArray.ext (Array.ext' (by rw [hx, ← h]))
    refine ⟨?_, he⟩
    have := congrArg List.length h
    simp at this
    have h1 : b.size = b.data.size := rfl
    have h2 : a.size = a.data.size := rfl
    omega
theorem endsS_self (a : ByteArray) : endsS a a = true := (endsS_iff a a).2 (List.suffix_refl _)
theorem endsS_trans {a b c : ByteArray} (h1 : endsS a b = true) (h2 : endsS b c = true) : endsS a c = true := by
  rw [endsS_iff] at *
  exact h2.trans h1
theorem endsS_size {a b : ByteArray} (h : endsS a b = true) : b.size ≤ a.size := by
  rw [endsS_iff] at h
  have := h.length_le
  simpa using this
theorem endsS_eq {a b : ByteArray} (h : endsS a b = true) (hs : a.size ≤ b.size) : a = b := by
  have h0 := endsS_size h
  rw [endsS_iff] at h
  have he := h.eq_of_length (by simp; have h1 : b.size = b.data.size := rfl; have h2 : a.size = a.data.size := rfl; omega)
  exact ByteArray.ext (Array.ext' he.symm)
/-- A text is the end of no other one of a list. -/
def kept (S : List ByteArray) (x : ByteArray) : Bool := S.all fun y => decide (y = x) || !endsS y x
theorem kept_iff (S : List ByteArray) (x : ByteArray) : kept S x = true ↔ ∀ y ∈ S, endsS y x = true → y = x := by
  unfold kept
  simp only [List.all_eq_true, Bool.or_eq_true, decide_eq_true_eq, Bool.not_eq_true']
  constructor
  · intro h y hy he
    rcases h y hy with h1 | h1
    · exact h1
    · rw [he] at h1; cases h1
  · intro h y hy
    rcases hb : endsS y x with _ | _
    · exact .inr rfl
    · exact .inl (h y hy hb)
theorem nodup_at {S : List ByteArray} (hS : S.Nodup) {j k : Nat} (hj : j < S.length) (hk : k < S.length) (h : S[j] = S[k]) : j = k := by
  have hp := List.pairwise_iff_getElem.1 hS
  rcases Nat.lt_trichotomy j k with h1 | h1 | h1
  · exact absurd h (hp j k hj hk h1)
  · exact h1
  · exact absurd h.symm (hp k j hk hj h1)
theorem keepB_kept {S : List ByteArray} (hS : S.Nodup) {k : Nat} (hk : k < S.length) : keepB S k = kept S S[k] := by
  have g : ∀ j, (hj : j < S.length) → S.getD j ⟨#[]⟩ = S[j] := fun j hj => by simp [List.getD, List.getElem?_eq_getElem hj]
  rw [Bool.eq_iff_iff, kept_iff]
  unfold keepB
  simp only [List.all_eq_true, Bool.or_eq_true, decide_eq_true_eq, Bool.not_eq_true', List.mem_range]
  constructor
  · intro h y hy he
    obtain ⟨j, hj, rfl⟩ := List.getElem_of_mem hy
    rcases h j hj with h1 | h1
    · subst h1; rfl
    · rw [g j hj, g k hk, he] at h1; cases h1
  · intro h j hj
    rw [g j hj, g k hk]
    rcases hb : endsS S[j] S[k] with _ | _
    · exact .inr rfl
    · exact .inl (nodup_at hS hj hk (h _ (List.getElem_mem hj) hb))
/-- The bytes of a table, text by text. -/
def bodyOf (K : List ByteArray) : List Int := 0 :: K.flatMap fun s => numsOf s ++ [0]
theorem tabBytes_eq {S : List ByteArray} (hS : S.Nodup) : ∀ k, k ≤ S.length → tabBytes S k = bodyOf ((S.take k).filter (kept S))
  | 0, _ => rfl
  | k + 1, h => by
    have ih := tabBytes_eq hS k (by omega)
    have hk : k < S.length := by omega
    have g : S.getD k ⟨#[]⟩ = S[k] := by simp [List.getD, List.getElem?_eq_getElem hk]
    unfold tabBytes
    rw [keepB_kept hS hk, g, ih, List.take_succ_eq_append_getElem hk, List.filter_append]
    rcases hb : kept S S[k] with _ | _
    · simp [hb]
    · simp [hb, bodyOf]
theorem nameTab_body {names : List ByteArray} (h : namesOk names = true) : nameTab names = bodyOf ((names.foldl insertS []).filter (kept (names.foldl insertS []))) := by
  have hs := sorted_nodup (sorted_fold names [] List.Pairwise.nil)
  unfold nameTab
  rw [if_pos h, tabBytes_eq hs _ (Nat.le_refl _), List.take_length]
/-- Every text of a list is the end of one that is kept. -/
theorem kept_some {S : List ByteArray} {M : Nat} (hM : ∀ x ∈ S, x.size ≤ M) : ∀ (f : Nat) (x : ByteArray), x ∈ S → M ≤ x.size + f → ∃ m ∈ S, kept S m = true ∧ endsS m x = true
  | f, x, hx, hf => by
    rcases hb : kept S x with _ | _
    · have : ∃ y ∈ S, endsS y x = true ∧ y ≠ x := by
        apply Classical.byContradiction
        intro hn
        have : kept S x = true := (kept_iff S x).2 fun y hy he => Classical.byContradiction fun h1 => hn ⟨y, hy, he, h1⟩
        rw [this] at hb; cases hb
      obtain ⟨y, hy, he, hne⟩ := this
      have hlt : x.size < y.size := by
        rcases Nat.lt_or_ge x.size y.size with h1 | h1
        · exact h1
        · exact absurd (endsS_eq he h1) hne
      have hyM := hM y hy
      match f with
      | 0 => omega
      | f + 1 =>
        obtain ⟨m, hm, hk, hem⟩ := kept_some hM f y hy (by omega)
        exact ⟨m, hm, hk, endsS_trans hem he⟩
    · exact ⟨x, hx, hb, endsS_self x⟩
/-- The end of a name, put in, changes nothing. -/
theorem kept_short {S : List ByteArray} (hS : SortedS S) {n t : ByteArray} (hn : n ∈ S) (he : endsS n t = true) : (insertS S t).filter (kept (insertS S t)) = S.filter (kept S) := by
  have hT : SortedS (insertS S t) := sorted_insertS hS
  by_cases ht : t ∈ S
  · have : insertS S t = S := sorted_ext hT hS fun x => by
      rw [mem_insertS_iff]
      constructor
      · rintro (h | h)
        · exact h
        · subst h; exact ht
      · exact .inl
    rw [this]
  · have p1 : SortedS ((insertS S t).filter (kept (insertS S t))) := List.Pairwise.filter _ hT
    have p2 : SortedS (S.filter (kept S)) := List.Pairwise.filter _ hS
    refine sorted_ext p1 p2 fun x => ?_
    simp only [List.mem_filter, mem_insertS_iff, kept_iff]
    constructor
    · rintro ⟨hx, hk⟩
      rcases hx with hx | hx
      · exact ⟨hx, fun y hy hye => hk y (.inl hy) hye⟩
      · subst hx
        have := hk n (.inl hn) he
        subst this
        exact absurd hn ht
    · rintro ⟨hx, hk⟩
      refine ⟨.inl hx, fun y hy hye => ?_⟩
      rcases hy with hy | hy
      · exact hk y hy hye
      · subst hy
        have h1 := hk n hn (endsS_trans he hye)
        subst h1
        have h2 := endsS_size hye
        have := endsS_eq he h2
        subst this
        exact absurd hn ht
theorem nameTab_end {names : List ByteArray} {n t : ByteArray} (hok : namesOk names = true) (hlen : names.length < 40) (hn : n ∈ names) (he : endsS n t = true) (ht : nameOk t.data.toList = true) : nameTab (names ++ [t]) = nameTab names := by
  have hok2 : namesOk (names ++ [t]) = true := by
    simp only [namesOk, Bool.and_eq_true, List.all_eq_true, decide_eq_true_eq] at hok ⊢
    refine ⟨fun x hx => ?_, by simp; omega⟩
    rcases List.mem_append.1 hx with h | h
    · exact hok.1 x h
    · simp at h; subst h; exact ht
  rw [nameTab_body hok, nameTab_body hok2, List.foldl_append, List.foldl_cons, List.foldl_nil]
  rw [kept_short (sorted_fold names [] List.Pairwise.nil) ((mem_fold_iff names [] n).2 (.inr hn)) he]

end Go.Proofs.Ytiocchmlmcoieaa
/- Plain words on names in tables: each one of a table's names is found there; the text behind a first byte. -/
namespace Go.Proofs.Ytiocchmlmcoieaa
open Go.RowKit

theorem takeWhile_all (b c : List Int) (h : ∀ x ∈ b, x ≠ 0) : ((b ++ 0 :: c).takeWhile fun x => decide (x ≠ 0)) = b := by
  induction b with
  | nil => simp
  | cons y r ih =>
    have hy := h y (by simp)
    rw [List.cons_append, List.takeWhile_cons, if_pos (by simpa using hy), ih fun x hx => h x (by simp [hx])]
theorem textAt_split (a b c : List Int) (h : ∀ x ∈ b, x ≠ 0) : textAt (a ++ (b ++ 0 :: c)) (a.length : Nat) = some b := by
  have hd : (a ++ (b ++ 0 :: c)).drop a.length = b ++ 0 :: c := List.drop_left
  unfold textAt
  rw [Int.toNat_natCast, hd, if_pos ⟨by omega, by simp; omega, by simp⟩, takeWhile_all b c h]
/-- What is found is split so. -/
theorem textAt_some {l t : List Int} {n : Int} (h : textAt l n = some t) : ∃ a c, l = a ++ (t ++ 0 :: c) ∧ n = (a.length : Nat) ∧ ∀ x ∈ t, x ≠ 0 := by
  unfold textAt at h
  split at h
  · rename_i hc
    injection h with h
    obtain ⟨h0, h1, h2⟩ := hc
    have hsp := List.takeWhile_append_dropWhile (p := fun x => decide (x ≠ (0:Int))) (l := l.drop n.toNat)
    have hall : ∀ x ∈ t, x ≠ 0 := by
      intro x hx
      rw [← h] at hx
      have := List.all_takeWhile (p := fun x => decide (x ≠ (0:Int))) (l := l.drop n.toNat)
      rw [List.all_eq_true] at this
      simpa using this x hx
    have hne : (l.drop n.toNat).dropWhile (fun x => decide (x ≠ (0:Int))) ≠ [] := by
      intro he
      rw [he, List.append_nil, h] at hsp
      rw [← hsp] at h2
      exact hall 0 h2 rfl
    have hhd : ∃ c, (l.drop n.toNat).dropWhile (fun x => decide (x ≠ (0:Int))) = 0 :: c := by
      rcases hd : (l.drop n.toNat).dropWhile (fun x => decide (x ≠ (0:Int))) with _ | ⟨y, c⟩
      · exact absurd hd hne
      · have := List.head_dropWhile_not (fun x => decide (x ≠ (0:Int))) hne
        simp only [hd, List.head_cons] at this
        have : y = 0 := by simpa using this
        exact ⟨c, by rw [this]⟩
    obtain ⟨c, hc⟩ := hhd
    refine ⟨l.take n.toNat, c, ?_, ?_, hall⟩
    · rw [hc, h] at hsp
      rw [hsp, List.take_append_drop]
    · rw [List.length_take]; omega
  · cases h
theorem textAt_next {l r : List Int} {n x : Int} (h : textAt l n = some (x :: r)) : textAt l (n + 1) = some r := by
  obtain ⟨a, c, rfl, rfl, hall⟩ := textAt_some h
  have h1 : a ++ (x :: r ++ 0 :: c) = (a ++ [x]) ++ (r ++ 0 :: c) := by simp
  have h2 : ((a.length : Nat) : Int) + 1 = ((a ++ [x]).length : Nat) := by simp
  rw [h1, h2]
  exact textAt_split _ _ _ fun y hy => hall y (by simp [hy])
theorem textAt_ends {l t : List Int} {n : Int} (h : textAt l n = some t) : 0 ≤ n ∧ n + (t.length : Nat) < (l.length : Nat) ∧ l.getD (n + (t.length : Nat)).toNat 0 = 0 := by
  obtain ⟨a, c, rfl, rfl, hall⟩ := textAt_some h
  refine ⟨by omega, by simp; omega, ?_⟩
  have h1 : (((a.length : Nat) : Int) + (t.length : Nat)).toNat = (a ++ t).length := by simp; omega
  rw [h1, ← List.append_assoc]
  simp [List.getD]
theorem firstAt_found {l : List Int} {s : ByteArray} : ∀ (n k p : Nat), k ≤ p → p < k + n → (textAt l p).map strOfNums = some s → ∃ q : Nat, firstAt l s k n = (q : Int) ∧ (textAt l q).map strOfNums = some s
  | 0, k, p, h1, h2, _ => by omega
  | n + 1, k, p, h1, h2, h => by
    unfold firstAt
    by_cases hk : (textAt l k).map strOfNums = some s
    · rw [if_pos hk]; exact ⟨k, rfl, hk⟩
    · rw [if_neg hk]
      refine firstAt_found n (k + 1) p ?_ (by omega) h
      rcases Nat.lt_or_ge k p with h3 | h3
      · omega
      · have : k = p := by omega
        subst this; exact absurd h hk
theorem numsOf_ne (s : ByteArray) (h : nameOk s.data.toList = true) : ∀ x ∈ numsOf s, x ≠ 0 := by
  rw [nameOk_iff] at h
  intro x hx
  unfold numsOf at hx
  obtain ⟨c, hc, rfl⟩ := List.mem_map.1 hx
  obtain ⟨k, hk, rfl⟩ := List.getElem_of_mem hc
  have := h.2 k hk
  unfold okAt at this
  have g : s.data.toList.getD k 0 = s.data.toList[k] := by simp [List.getD, List.getElem?_eq_getElem hk]
  rw [g] at this
  intro h0
  have h0 : s.data.toList[k].toNat = 0 := by omega
  rw [h0] at this
  simp [letterC, digitC] at this
theorem strOfNums_numsOf (s : ByteArray) : strOfNums (numsOf s) = s := by
  refine ByteArray.ext (Array.ext' ?_)
  rw [strOfNums_data, numsOf, List.map_map]
  have : (fun n : Int => UInt8.ofNat n.toNat) ∘ (fun c : UInt8 => (c.toNat : Int)) = id := by
    funext c
    simp
  rw [this, List.map_id]
/-- Each of a table's names stands somewhere in it. -/
theorem nameTab_has {names : List ByteArray} {s : ByteArray} (hok : namesOk names = true) (hs : s ∈ names) : ∃ p : Nat, p < (nameTab names).length ∧ textAt (nameTab names) p = some (numsOf s) := by
  have hall : ∀ x ∈ names, nameOk x.data.toList = true := by
    simp only [namesOk, Bool.and_eq_true, List.all_eq_true] at hok; exact hok.1
  have hmem : ∀ x, x ∈ names.foldl insertS [] ↔ x ∈ names := fun x => by rw [mem_fold_iff]; simp
  obtain ⟨m, hm, hk, he⟩ := kept_some (S := names.foldl insertS []) (M := 8) (fun x hx => nameOk_size (hall x ((hmem x).1 hx))) 8 s ((hmem s).2 hs) (by omega)
  have hf : m ∈ (names.foldl insertS []).filter (kept (names.foldl insertS [])) := List.mem_filter.2 ⟨hm, hk⟩
  obtain ⟨A, C, hAC⟩ := List.append_of_mem hf
  rw [endsS_iff] at he
  obtain ⟨q, hq⟩ := he
  have hn : numsOf m = q.map (fun c => (c.toNat : Int)) ++ numsOf s := by unfold numsOf; rw [← hq, List.map_append]
  have hb : nameTab names = ((0 :: A.flatMap fun s => numsOf s ++ [0]) ++ q.map (fun c => (c.toNat : Int))) ++ (numsOf s ++ 0 :: C.flatMap fun s => numsOf s ++ [0]) := by
    rw [nameTab_body hok, hAC]
    simp [bodyOf, hn]
  rw [hb]
  refine ⟨_, ?_, textAt_split _ _ _ (numsOf_ne s (hall s hs))⟩
  simp; omega
theorem nameTab_finds {names : List ByteArray} {s : ByteArray} (hok : namesOk names = true) (hs : s ∈ names) : ∃ q : Nat, firstAt (nameTab names) s 0 (nameTab names).length = (q : Int) ∧ (textAt (nameTab names) q).map strOfNums = some s := by
  obtain ⟨p, hp, ht⟩ := nameTab_has hok hs
  exact firstAt_found _ 0 p (by omega) (by omega) (by rw [ht, Option.map_some, strOfNums_numsOf])
theorem nameTab_head {names : List ByteArray} (hok : namesOk names = true) : (nameTab names).getD 0 1 = 0 := by
  rw [nameTab_body hok]; rfl
theorem nameTab_none {names : List ByteArray} (hok : namesOk names = false) : nameTab names = [] := by
  unfold nameTab; rw [hok]; rfl

end Go.Proofs.Ytiocchmlmcoieaa

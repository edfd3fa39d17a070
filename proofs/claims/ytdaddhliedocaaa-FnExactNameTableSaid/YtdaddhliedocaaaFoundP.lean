/-
  Plain words on names in tables: each one of a table's names is found there; the text behind a first byte.
-/
import Derived.Test.YtdaddhliedocaaaKeptP
import Derived.Test.YtdaddhliedocaaaTexts
import Derived.Test.YtdaddhliedocaaaPlaceS
namespace Go.Proofs.Ytdaddhliedocaaa
open Go.RowKit

theorem takeWhile_all (b c : List Int) (h : ∀ x ∈ b, x ≠ 0) : ((b ++ 0 :: c).takeWhile fun x => decide (x ≠ 0)) = b := by
  induction b with
  | nil => simp
  | cons y r ih =>
    have hy := h y (by simp)
    rw [List.cons_append, List.takeWhile_cons, if_pos (by simpa using hy), ih fun x hx => h x (by simp [hx])]
theorem textAt_split (a b c : List Int) (h : ∀ x ∈ b, x ≠ 0) : textAt (a ++ (b ++ 0 :: c)) (a.length : Nat) = some b := by
  have hd : (a ++ (b ++ 0 :: c)).drop a.length = b ++ 0 :: c := List.drop_left
  unfold textAt
  rw [Int.toNat_natCast, hd, if_pos ⟨by omega, by simp; omega, by simp⟩, takeWhile_all b c h]
/-- What is found is split so. -/
theorem textAt_some {l t : List Int} {n : Int} (h : textAt l n = some t) : ∃ a c, l = a ++ (t ++ 0 :: c) ∧ n = (a.length : Nat) ∧ ∀ x ∈ t, x ≠ 0 := by
  unfold textAt at h
  split at h
  · rename_i hc
    injection h with h
    obtain ⟨h0, h1, h2⟩ := hc
    have hsp := List.takeWhile_append_dropWhile (p := fun x => decide (x ≠ (0:Int))) (l := l.drop n.toNat)
    have hall : ∀ x ∈ t, x ≠ 0 := by
      intro x hx
      rw [← h] at hx
      have := List.all_takeWhile (p := fun x => decide (x ≠ (0:Int))) (l := l.drop n.toNat)
      rw [List.all_eq_true] at this
      simpa using this x hx
    have hne : (l.drop n.toNat).dropWhile (fun x => decide (x ≠ (0:Int))) ≠ [] := by
      intro he
      rw [he, List.append_nil, h] at hsp
      rw [← hsp] at h2
      exact hall 0 h2 rfl
    have hhd : ∃ c, (l.drop n.toNat).dropWhile (fun x => decide (x ≠ (0:Int))) = 0 :: c := by
      rcases hd : (l.drop n.toNat).dropWhile (fun x => decide (x ≠ (0:Int))) with _ | ⟨y, c⟩
      · exact absurd hd hne
      · have := List.head_dropWhile_not (fun x => decide (x ≠ (0:Int))) hne
        simp only [hd, List.head_cons] at this
        have : y = 0 := by simpa using this
        exact ⟨c, by rw [this]⟩
    obtain ⟨c, hc⟩ := hhd
    refine ⟨l.take n.toNat, c, ?_, ?_, hall⟩
    · rw [hc, h] at hsp
      rw [hsp, List.take_append_drop]
    · rw [List.length_take]; omega
  · cases h
theorem textAt_next {l r : List Int} {n x : Int} (h : textAt l n = some (x :: r)) : textAt l (n + 1) = some r := by
  obtain ⟨a, c, rfl, rfl, hall⟩ := textAt_some h
  have h1 : a ++ (x :: r ++ 0 :: c) = (a ++ [x]) ++ (r ++ 0 :: c) := by simp
  have h2 : ((a.length : Nat) : Int) + 1 = ((a ++ [x]).length : Nat) := by simp
  rw [h1, h2]
  exact textAt_split _ _ _ fun y hy => hall y (by simp [hy])
theorem textAt_ends {l t : List Int} {n : Int} (h : textAt l n = some t) : 0 ≤ n ∧ n + (t.length : Nat) < (l.length : Nat) ∧ l.getD (n + (t.length : Nat)).toNat 0 = 0 := by
  obtain ⟨a, c, rfl, rfl, hall⟩ := textAt_some h
  refine ⟨by omega, by simp; omega, ?_⟩
  have h1 : (((a.length : Nat) : Int) + (t.length : Nat)).toNat = (a ++ t).length := by simp; omega
  rw [h1, ← List.append_assoc]
  simp [List.getD]
theorem firstAt_found {l : List Int} {s : ByteArray} : ∀ (n k p : Nat), k ≤ p → p < k + n → (textAt l p).map strOfNums = some s → ∃ q : Nat, firstAt l s k n = (q : Int) ∧ (textAt l q).map strOfNums = some s
  | 0, k, p, h1, h2, _ => by omega
  | n + 1, k, p, h1, h2, h => by
    unfold firstAt
    by_cases hk : (textAt l k).map strOfNums = some s
    · rw [if_pos hk]; exact ⟨k, rfl, hk⟩
    · rw [if_neg hk]
      refine firstAt_found n (k + 1) p ?_ (by omega) h
      rcases Nat.lt_or_ge k p with h3 | h3
      · omega
      · have : k = p := by omega
        subst this; exact absurd h hk
theorem numsOf_ne (s : ByteArray) (h : nameOk s.data.toList = true) : ∀ x ∈ numsOf s, x ≠ 0 := by
  rw [nameOk_iff] at h
  intro x hx
  unfold numsOf at hx
  obtain ⟨c, hc, rfl⟩ := List.mem_map.1 hx
  obtain ⟨k, hk, rfl⟩ := List.getElem_of_mem hc
  have := h.2 k hk
  unfold okAt at this
  have g : s.data.toList.getD k 0 = s.data.toList[k] := by simp [List.getD, List.getElem?_eq_getElem hk]
  rw [g] at this
  intro h0
  have h0 : s.data.toList[k].toNat = 0 := by omega
  rw [h0] at this
  simp [letterC, digitC] at this
theorem strOfNums_numsOf (s : ByteArray) : strOfNums (numsOf s) = s := by
  refine ByteArray.ext (Array.ext' ?_)
  rw [strOfNums_data, numsOf, List.map_map]
  have : (fun n : Int => UInt8.ofNat n.toNat) ∘ (fun c : UInt8 => (c.toNat : Int)) = id := by
    funext c
    simp
  rw [this, List.map_id]
/-- Each of a table's names stands somewhere in it. -/
theorem nameTab_has {names : List ByteArray} {s : ByteArray} (hok : namesOk names = true) (hs : s ∈ names) : ∃ p : Nat, p < (nameTab names).length ∧ textAt (nameTab names) p = some (numsOf s) := by
  have hall : ∀ x ∈ names, nameOk x.data.toList = true := by
    simp only [namesOk, Bool.and_eq_true, List.all_eq_true] at hok; exact hok.1
  have hmem : ∀ x, x ∈ names.foldl insertS [] ↔ x ∈ names := fun x => by rw [mem_fold_iff]; simp
  obtain ⟨m, hm, hk, he⟩ := kept_some (S := names.foldl insertS []) (M := 8) (fun x hx => nameOk_size (hall x ((hmem x).1 hx))) 8 s ((hmem s).2 hs) (by omega)
  have hf : m ∈ (names.foldl insertS []).filter (kept (names.foldl insertS [])) := List.mem_filter.2 ⟨hm, hk⟩
  obtain ⟨A, C, hAC⟩ := List.append_of_mem hf
  rw [endsS_iff] at he
  obtain ⟨q, hq⟩ := he
  have hn : numsOf m = q.map (fun c => (c.toNat : Int)) ++ numsOf s := by unfold numsOf; rw [← hq, List.map_append]
  have hb : nameTab names = ((0 :: A.flatMap fun s => numsOf s ++ [0]) ++ q.map (fun c => (c.toNat : Int))) ++ (numsOf s ++ 0 :: C.flatMap fun s => numsOf s ++ [0]) := by
    rw [nameTab_body hok, hAC]
    simp [bodyOf, hn]
  rw [hb]
  refine ⟨_, ?_, textAt_split _ _ _ (numsOf_ne s (hall s hs))⟩
  simp; omega
theorem nameTab_finds {names : List ByteArray} {s : ByteArray} (hok : namesOk names = true) (hs : s ∈ names) : ∃ q : Nat, firstAt (nameTab names) s 0 (nameTab names).length = (q : Int) ∧ (textAt (nameTab names) q).map strOfNums = some s := by
  obtain ⟨p, hp, ht⟩ := nameTab_has hok hs
  exact firstAt_found _ 0 p (by omega) (by omega) (by rw [ht, Option.map_some, strOfNums_numsOf])
theorem nameTab_head {names : List ByteArray} (hok : namesOk names = true) : (nameTab names).getD 0 1 = 0 := by
  rw [nameTab_body hok]; rfl
theorem nameTab_none {names : List ByteArray} (hok : namesOk names = false) : nameTab names = [] := by
  unfold nameTab; rw [hok]; rfl

end Go.Proofs.Ytdaddhliedocaaa

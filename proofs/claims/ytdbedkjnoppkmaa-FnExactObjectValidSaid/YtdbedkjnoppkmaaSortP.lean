/-
  Plain words on sorted lists of texts: sorted, each once, is inserted one by one.
-/
import Derived.Test.YtdbedkjnoppkmaaOrderP
import Derived.Lib.SlicesCompact
import Derived.Sort.Walk0
namespace Go.Proofs.Ytdbedkjnoppkmaa
open Go.RowKit Go.Lib

def strL (l : List UInt8) : ByteArray := ⟨l.toArray⟩
theorem strL_data (s : ByteArray) : strL s.data.toList = s := by
  apply ByteArray.ext; simp [strL]
theorem ltS_strL (a b : List UInt8) : ltS (strL a) (strL b) = Op.bytesLess a b := by
  unfold ltS
  rw [toList_data, toList_data]
  rfl
theorem compactUpTo_sorted (d : Array (List UInt8)) (hd : ∀ i, i + 1 < d.size → Op.bytesLess d[i + 1]! d[i]! = false) : ∀ m, m ≤ d.size →
    (compactUpTo d m).Pairwise (fun x y => Op.bytesLess x y = true) ∧ (∀ x, x ∈ compactUpTo d m ↔ ∃ i, i < m ∧ d[i]! = x) ∧ (0 < m → ∀ x ∈ compactUpTo d m, Op.bytesLess d[m - 1]! x = false) := by
  intro m
  induction m with
  | zero => intro _; exact ⟨by simp [compactUpTo], by simp [compactUpTo], by omega⟩
  | succ m ih =>
    intro hm
    obtain ⟨h1, h2, h3⟩ := ih (by omega)
    rw [compactUpTo_succ]
    rcases Nat.eq_zero_or_pos m with h0 | hpos
    · subst h0
      have hk : keeps d 0 = true := by simp [keeps]
      rw [if_pos hk]
      have e : compactUpTo d 0 = [] := by simp [compactUpTo]
      rw [e]
      refine ⟨by simp, fun x => ?_, fun _ x hx => ?_⟩
      · simp only [List.nil_append, List.mem_singleton]
        exact ⟨fun h => ⟨0, by omega, h.symm⟩, fun ⟨i, hi, hx⟩ => by have : i = 0 := by omega
                                                                     subst this; exact hx.symm⟩
      · simp only [List.nil_append, List.mem_singleton] at hx
        rw [hx]; exact less_irrefl _
    · have hs := hd (m - 1) (by omega)
      rw [show m - 1 + 1 = m by omega] at hs
      by_cases e : d[m]! = d[m - 1]!
      · rw [if_neg (by rw [keeps_neg hpos e]; simp), List.append_nil]
        refine ⟨h1, fun x => ?_, fun _ x hx => ?_⟩
        · rw [h2]
          constructor
          · rintro ⟨i, hi, hx⟩; exact ⟨i, by omega, hx⟩
          · rintro ⟨i, hi, hx⟩
            by_cases hi2 : i = m
            · subst hi2; exact ⟨i - 1, by omega, by rw [← e]; exact hx⟩
            · exact ⟨i, by omega, hx⟩
        · rw [Nat.add_sub_cancel, e]; exact h3 hpos x hx
      · rw [if_pos (keeps_pos e)]
        have hlt : Op.bytesLess d[m - 1]! d[m]! = true := by
          rcases less_or d[m - 1]! d[m]! with h | h | h
          · exact h
          · exact absurd h.symm e
          · rw [hs] at h; cases h
        have hall : ∀ x ∈ compactUpTo d m, Op.bytesLess x d[m]! = true := fun x hx => by
          rcases less_or x d[m - 1]! with h | h | h
          · exact less_trans _ _ _ h hlt
          · rw [h]; exact hlt
          · rw [h3 hpos x hx] at h; cases h
        refine ⟨?_, fun x => ?_, fun _ x hx => ?_⟩
        · rw [List.pairwise_append]
          exact ⟨h1, by simp, fun x hx y hy => by simp only [List.mem_singleton] at hy; rw [hy]; exact hall x hx⟩
        · rw [List.mem_append, h2, List.mem_singleton]
          constructor
          · rintro (⟨i, hi, hx⟩ | hx)
            · exact ⟨i, by omega, hx⟩
            · exact ⟨m, by omega, hx.symm⟩
          · rintro ⟨i, hi, hx⟩
            by_cases hi2 : i = m
            · subst hi2; exact .inr hx.symm
            · exact .inl ⟨i, by omega, hx⟩
        · rw [Nat.add_sub_cancel]
          rcases List.mem_append.1 hx with hx | hx
          · cases hb : Op.bytesLess d[m]! x with
            | false => rfl
            | true => exfalso; have := less_trans _ _ _ (hall x hx) hb; rw [less_irrefl] at this; cases this
          · simp only [List.mem_singleton] at hx; rw [hx]; exact less_irrefl _
/-- What the program's sorting makes of names. -/
def sortedL (names : List ByteArray) : List (List UInt8) := compact ((names.map fun s => s.data.toList).mergeSort fun x y => decide (x ≤ y))
theorem sortedL_is (names : List ByteArray) : (sortedL names).map strL = names.foldl insertS [] := by
  obtain ⟨zs, hz⟩ : ∃ zs, (names.map fun s => s.data.toList).mergeSort (fun x y => decide (x ≤ y)) = zs := ⟨_, rfl⟩
  have hp : zs.Pairwise (fun x y => decide (x ≤ y) = true) := by
    rw [← hz]
    exact List.pairwise_mergeSort (fun a b c h1 h2 => by simp only [decide_eq_true_eq] at *; exact List.le_trans h1 h2) (fun a b => by
      simp only [Bool.or_eq_true, decide_eq_true_eq]; exact List.le_total a b) _
  have hmem : ∀ x, x ∈ zs ↔ x ∈ names.map fun s => s.data.toList := fun x => by rw [← hz]; exact List.mem_mergeSort
  have hd : ∀ i, i + 1 < zs.toArray.size → Op.bytesLess zs.toArray[i + 1]! zs.toArray[i]! = false := fun i hi => by
    have hi' : i + 1 < zs.length := by simpa using hi
    have h := List.pairwise_iff_getElem.1 hp i (i + 1) (by omega) hi' (by omega)
    simp only [decide_eq_true_eq] at h
    rw [bytesLess_eq]
    simp only [decide_eq_false_iff_not]
    have e1 : zs.toArray[i + 1]! = zs[i + 1] := by simp [hi']
    have e2 : zs.toArray[i]! = zs[i] := by simp [show i < zs.length by omega]
    rw [e1, e2]
    exact List.not_lt.2 h
  obtain ⟨h1, h2, _⟩ := compactUpTo_sorted zs.toArray hd zs.length (by simp)
  have e : sortedL names = compactUpTo zs.toArray zs.length := by unfold sortedL; rw [hz]; rfl
  rw [e]
  apply sorted_ext
  · unfold SortedS
    rw [List.pairwise_map]
    exact h1.imp fun {a b} h => by rw [ltS_strL]; exact h
  · exact sorted_fold names [] List.Pairwise.nil
  · intro x
    rw [mem_fold_iff, List.mem_map]
    constructor
    · rintro ⟨l, hl, rfl⟩
      obtain ⟨i, hi, hx⟩ := (h2 l).1 hl
      have : l ∈ zs := by
        rw [← hx]
        have e2 : zs.toArray[i]! = zs[i] := by simp [hi]
        rw [e2]; exact List.getElem_mem hi
      obtain ⟨s, hs, rfl⟩ := List.mem_map.1 ((hmem l).1 this)
      rw [strL_data]; exact .inr hs
    · rintro (h | h)
      · cases h
      · refine ⟨x.data.toList, ?_, strL_data x⟩
        rw [h2]
        obtain ⟨i, hi, he⟩ := List.getElem_of_mem ((hmem x.data.toList).2 (List.mem_map.2 ⟨x, h, rfl⟩))
        exact ⟨i, hi, by have e2 : zs.toArray[i]! = zs[i] := by simp [hi]
                         rw [e2, he]⟩

end Go.Proofs.Ytdbedkjnoppkmaa

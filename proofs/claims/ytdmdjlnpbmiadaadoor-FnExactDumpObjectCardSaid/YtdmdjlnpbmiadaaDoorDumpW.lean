/-
  spec.l8Words and spec.l8Read.
-/
import Derived.Test.YtdmdjlnpbmiadaaDoorDumpH
import Derived.Test.YtdmdjlnpbmiadaaDoorMem
import Derived.RegionTactic
import Derived.BigRegion
import Derived.Deep.CutBlock
namespace Go.Proofs.YtdmdjlnpbmiadaaDoor
open Go.RowKit

/-- The words of a text. -/
def wordsT (t : List Int) : List ByteArray := (wordsL t).map strOfNums
theorem wordsT_length (t : List Int) : 0 < (wordsT t).length := by
  unfold wordsT
  rw [List.length_map]
  exact List.length_pos_iff.2 (wordsL_ne t)
theorem wordsT_space {t : List Int} {k : Nat} (h : t[k]? = some 32) : wordsT (t.take (k + 1)) = wordsT (t.take k) ++ [⟨#[]⟩] := by
  unfold wordsT
  rw [List.take_add_one, h, show (some (32 : Int)).toList = [32] from rfl, wordsL_space, List.map_append]; rfl
theorem wordsT_byte {t : List Int} {k : Nat} {c : Int} (h : t[k]? = some c) (hc : c ≠ 32) {S : List ByteArray} {u : ByteArray} (hS : wordsT (t.take k) = S ++ [u]) : wordsT (t.take (k + 1)) = S ++ [u ++ strOfNums [c]] := by
  unfold wordsT at hS ⊢
  rw [List.take_add_one, h, show (some c).toList = [c] from rfl, wordsL_byte hc]
  rcases List.eq_nil_or_concat (wordsL (t.take k)) with e | ⟨q, x, e⟩
  · exact absurd e (wordsL_ne _)
  · rw [e, List.concat_eq_append] at hS ⊢
    rw [List.map_append, List.map_cons, List.map_nil] at hS
    obtain ⟨h1, h2⟩ := List.append_inj' hS rfl
    injection h2 with h2
    simp only [List.dropLast_concat, List.getLast?_append, List.getLast?_singleton, Option.some_or, Option.getD_some, List.map_append, List.map_cons, List.map_nil]
    rw [strOfNums_append, h1, h2]
theorem wordsT_few (t : List Int) : (wordsT t).length ≤ t.length + 1 := by
  unfold wordsT
  rw [List.length_map]
  induction t with
  | nil => simp [wordsL]
  | cons c r ih =>
    rw [wordsL]
    split
    · simp; exact ih
    · split
      · rename_i w q hq; rw [hq] at ih; simp at ih ⊢; omega
      · simp
theorem run_substr (W : World) (s : ByteArray) (k : Nat) (h : k < s.size) (_ : s.size ≤ 1200000) : (Instr.sliceAt 9 (.string s) (some (.int .i64 (k : Int))) (some (.int .i64 ((k : Int) + 1))) none).run Tryd.prog W = .ok (.string (strOfNums [((s[k].toNat : Nat) : Int)])) W := by
  have e : s.extract k (k + 1) = strOfNums [((s[k].toNat : Nat) : Int)] := by
    refine ByteArray.ext (Array.ext' ?_)
    have hl : k < s.data.toList.length := by simpa using h
    rw [ByteArray.data_extract, Array.toList_extract, strOfNums_data, List.extract_eq_take_drop, show k + 1 - k = 1 by omega, List.drop_eq_getElem_cons hl]
    simp
    rfl
  rw [run_sliceAt_string (h := Tryd.underlying9), run_slice_string (h := Tryd.underlying9) (h0 := by omega) (h1 := by omega) (h2 := by omega), ← e]
  rfl
































































































































/-- The digits read, the sign left out. -/
def fullD (t : List Int) : Option Int := if t.head? = some 45 then rdDig t.tail 1 0 else rdDig t 0 0
theorem rdNum_none {t : List Int} (h : fullD t = none) : rdNum t = 99999 := by
  unfold fullD at h
  unfold rdNum
  rw [h]
theorem rdNum_some {t : List Int} {n m : Int} (h : fullD t = some n) (hm : (if t.head? = some 45 then -n else n) = m) : rdNum t = if numL m = t then m else 99999 := by
  unfold fullD at h
  unfold rdNum
  rw [h]
  simp only [hm]
def bnd : Nat → Int
  | 0 => 0 | 1 => 9 | 2 => 99 | 3 => 999 | 4 => 9999 | 5 => 99999 | _ => 999999
theorem bnd_next {k : Nat} (h : k ≤ 5) : 10 * bnd k + 9 ≤ bnd (k + 1) ∧ bnd k ≤ 99999 := by
  have hc : k = 0 ∨ k = 1 ∨ k = 2 ∨ k = 3 ∨ k = 4 ∨ k = 5 := by omega
  rcases hc with rfl | rfl | rfl | rfl | rfl | rfl <;> decide
theorem bnd_le (k : Nat) : bnd k ≤ 999999 := by unfold bnd; split <;> decide
theorem numT_eq {m : Int} {s : ByteArray} : strOfNums (numL m) = s ↔ numL m = numsOf s := by
  constructor
  · intro h
    rw [← h]
    unfold numsOf
    rw [strOfNums_data, List.map_map]
    conv => lhs; rw [← List.map_id (numL m)]
    refine List.map_congr_left fun x hx => ?_
    have := numL_chars m x hx
    show x = ((UInt8.ofNat x.toNat).toNat : Int)
    rw [UInt8.toNat_ofNat']
    omega
  · intro h; rw [h, strOfNums_numsOf]
/-- Where one is among the digits. -/
def DigAt (t : List Int) (k : Nat) (n : Int) : Prop := (k = 0 ∧ n = 0) ∨ (0 < k ∧ fullD t = rdDig (t.drop k) k n)
theorem DigAt.sign {t : List Int} (h : t[0]? = some 45) : DigAt t 1 0 := .inr ⟨by omega, by
  cases t with
  | nil => cases h
  | cons c r =>
    simp at h
    subst h
    unfold fullD
    simp⟩
theorem DigAt.full {t : List Int} {k : Nat} {n c : Int} (h : DigAt t k n) (hc : t[k]? = some c) (hs : ¬ (c = 45 ∧ k = 0)) : fullD t = rdDig (c :: t.drop (k + 1)) k n := by
  have hd : t.drop k = c :: t.drop (k + 1) := by
    obtain ⟨hl, he⟩ := List.getElem?_eq_some_iff.1 hc
    rw [List.drop_eq_getElem_cons hl, he]
  rcases h with ⟨rfl, rfl⟩ | ⟨_, h⟩
  · have hd0 : t = c :: t.drop 1 := by simpa using hd
    rw [← hd, List.drop_zero]
    unfold fullD
    rw [if_neg]
    rw [hd0]
    simp
    intro e; exact hs ⟨e, rfl⟩
  · rw [h, hd]
theorem DigAt.next {t : List Int} {k : Nat} {n c : Int} (h : DigAt t k n) (hc : t[k]? = some c) (hs : ¬ (c = 45 ∧ k = 0)) (h0 : 48 ≤ c) (h1 : c ≤ 57) (hk : k ≤ 5) : DigAt t (k + 1) (10 * n + (c - 48)) := .inr ⟨by omega, by
  rw [h.full hc hs, rdDig, if_pos]
  unfold digC
  simp
  omega⟩
theorem DigAt.bad {t : List Int} {k : Nat} {n c : Int} (h : DigAt t k n) (hc : t[k]? = some c) (hs : ¬ (c = 45 ∧ k = 0)) (hb : c < 48 ∨ 57 < c ∨ 5 < k) : rdNum t = 99999 := rdNum_none (by
  rw [h.full hc hs, rdDig, if_neg]
  unfold digC
  simp
  omega)
theorem DigAt.fin {t : List Int} {k : Nat} {n : Int} (h : DigAt t k n) (hk : t.length = k) : fullD t = some n := by
  rcases h with ⟨rfl, rfl⟩ | ⟨_, h⟩
  · rw [List.eq_nil_of_length_eq_zero hk]; rfl
  · rw [h, List.drop_eq_nil_of_le (by omega), rdDig]
















































































































































































































end Go.Proofs.YtdmdjlnpbmiadaaDoor

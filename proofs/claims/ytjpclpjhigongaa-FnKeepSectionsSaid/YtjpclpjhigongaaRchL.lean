/-
  Numbers of sections in plain words and in memory: marks one by one, what a list of numbers marks, and answers that are lists of numbers.
-/
import Derived.Test.YtjpclpjhigongaaRchK
import Derived.Test.YtjpclpjhigongaaCopS
namespace Go.Proofs.Ytjpclpjhigongaa
open Go.RowKit

theorem Try.info_truth : (Try.prog.info? 4).map (fun i => (i.zero, i.size, i.bytes)) = some (some (.bool false), 1, 1) := by kernel_rfl
/-- Numbers that were answered, in a row of their own. -/
def AnsI (w : World) (l : List Int) (n : Nat) (e : Ending) (w' : World) : Prop :=
  ∃ (a : Option Addr) (c : Nat), e = .returned (.slice a n c) ∧ n = l.length ∧ w'.ownsRow w.heap.size 3 1 (.slice a n c) n (l.map (Value.int .i64)) ∧ Below w.heap.size w w'
/-- The sections that are reached, of a valid object. -/
def reachA (K : List ByteArray) (ss : List Sx) (ms : List Sm) : List Int := if objOk ss ms then numsM 0 (reachB K ss ms) else []
theorem numsM_snoc : ∀ (t : List Bool) (b : Bool) (k : Nat), numsM k (t ++ [b]) = numsM k t ++ if b then [((k + t.length : Nat) : Int)] else []
  | [], b, k => by cases b <;> simp [numsM]
  | c :: t, b, k => by
    have ih := numsM_snoc t b (k + 1)
    rw [show k + 1 + t.length = k + (t.length + 1) by omega] at ih
    rw [List.cons_append, List.length_cons]
    unfold numsM
    rw [ih]
    cases c <;> simp
theorem numsM_next {S : List Bool} {k : Nat} {b : Bool} (h : S[k]? = some b) : numsM 0 (S.take (k + 1)) = numsM 0 (S.take k) ++ if b then [(k : Int)] else [] := by
  have hl : (S.take k).length = k := by rw [List.length_take]; have := (List.getElem?_eq_some_iff.1 h).1; omega
  rw [take_next h, numsM_snoc, hl, Nat.zero_add]
theorem numsM_le (k : Nat) (t : List Bool) : (numsM k t).length ≤ t.length := by rw [numsM_length]; exact List.countP_le_length
/-- The symbols of valid objects lie in sections of it, or in none. -/
theorem loc_in {ss : List Sx} {ms : List Sm} (h : objOk ss ms = true) {m : Sm} (hm : m ∈ ms) (h0 : 0 ≤ m.loc) : m.loc.toNat < ss.length := by
  have ho := objOk_sym h m hm
  unfold symOk at ho
  rw [if_neg (by omega), if_neg (by omega)] at ho
  simp only [Bool.and_eq_true, decide_eq_true_eq] at ho
  omega
theorem mark_neg {s : List Bool} {w : Int} (h : ¬ 0 ≤ w) : mark s w = s := by unfold mark; rw [if_neg h]
theorem mark_nat (s : List Bool) (p : Nat) : mark s (p : Int) = s.set p true := by unfold mark; rw [if_pos (by omega)]; rfl
theorem mark_again (s : List Bool) (w : Int) : mark (mark s w) w = mark s w := by
  unfold mark
  split
  · rw [List.set_set]
  · rfl
theorem mark_length (s : List Bool) (w : Int) : (mark s w).length = s.length := (mark_le s w).1.symm
/-- The marks of a symbol, name by name. -/
def symM (K : List ByteArray) (y : Sm) (s : List Bool) : List Bool := if starts K y then mark s y.loc else s
theorem symM_none (y : Sm) (s : List Bool) : symM [] y s = s := by unfold symM starts; rfl
theorem symM_length (K : List ByteArray) (y : Sm) (s : List Bool) : (symM K y s).length = s.length := by
  unfold symM
  split
  · exact mark_length s _
  · rfl
theorem symM_yes {K : List ByteArray} {y : Sm} {s : List Bool} {x : ByteArray} (hx : x = y.name) (hb : y.bind ≠ 0) : symM (K ++ [x]) y s = mark (symM K y s) y.loc := by
  have h1 : starts (K ++ [x]) y = true := by
    unfold starts
    rw [List.any_append, Bool.and_eq_true]
    exact ⟨by simp [hx], by simp [hb]⟩
  unfold symM
  rw [if_pos h1]
  split
  · exact (mark_again s y.loc).symm
  · rfl
theorem symM_no {K : List ByteArray} {y : Sm} {s : List Bool} {x : ByteArray} (h : x ≠ y.name ∨ y.bind = 0) : symM (K ++ [x]) y s = symM K y s := by
  have h1 : starts (K ++ [x]) y = starts K y := by
    unfold starts
    rw [List.any_append]
    rcases h with h | h
    · simp [h]
    · simp [h]
  unfold symM
  rw [h1]
theorem startM_next {K : List ByteArray} {s : List Bool} {ms : List Sm} {k : Nat} {y : Sm} (h : ms[k]? = some y) : startM K s (ms.take (k + 1)) = symM K y (startM K s (ms.take k)) := by
  unfold startM
  rw [take_next h, List.foldl_append]; rfl
/-- What a list of marked cells is in memory. -/
def cellsB (s : List Bool) : Array Value := (s.map Value.bool).toArray
theorem cellsB_at {s : List Bool} {k : Nat} {b : Bool} (h : s[k]? = some b) : (cellsB s)[k]? = some (.bool b) := by
  unfold cellsB
  rw [List.getElem?_toArray, List.getElem?_map, h]; rfl
theorem cellsB_set (s : List Bool) (p : Nat) : (cellsB s).setIfInBounds p (.bool true) = cellsB (s.set p true) := by
  unfold cellsB
  rw [List.setIfInBounds_toArray, List.map_set]
theorem cellsB_made (n : Nat) : madeCells #[.bool false] n = cellsB (List.replicate n false) := by
  apply Array.ext'
  rw [toList_madeCells_one]
  unfold cellsB
  rw [List.map_replicate]
/-- A marked cell is written. -/
theorem Has.mark {W : World} {sb : Nat} {s : List Bool} (h : Has W sb 4 (cellsB s)) (p : Nat) : Has (W.setCell ⟨sb, p, none⟩ (.bool true)) sb 4 (cellsB (mark s (p : Int))) := by
  rw [mark_nat, ← cellsB_set]
  exact h.put p _

end Go.Proofs.Ytjpclpjhigongaa

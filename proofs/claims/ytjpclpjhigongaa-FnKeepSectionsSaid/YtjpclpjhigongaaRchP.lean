/-
  Reach in plain words: marks on sections, spread along what they use, until nothing is left to mark.
-/
import Derived.Test.YtjpclpjhigongaaStpP
namespace Go.Proofs.Ytjpclpjhigongaa
open Go.RowKit

/-- A section is marked; a number below 0 is none. -/
def mark (s : List Bool) (w : Int) : List Bool := if 0 ≤ w then s.set w.toNat true else s
def markL (s : List Bool) (l : List Int) : List Bool := l.foldl mark s
/-- What a section uses is marked, if it is marked itself. -/
def secM (s : List Bool) (k : Nat) (l : List Int) : List Bool := if s.getD k false then markL s l else s
def roundM : Nat → List Bool → List (List Int) → List Bool
  | _, s, [] => s
  | k, s, l :: r => roundM (k + 1) (secM s k l) r
def manyM (adj : List (List Int)) (s : List Bool) : Nat → List Bool
  | 0 => s
  | n + 1 => roundM 0 (manyM adj s n) adj
def LeB (s t : List Bool) : Prop := s.length = t.length ∧ ∀ i : Nat, s[i]? = some true → t[i]? = some true
theorem LeB.refl (s : List Bool) : LeB s s := ⟨rfl, fun _ h => h⟩
theorem LeB.trans {s t u : List Bool} (h : LeB s t) (g : LeB t u) : LeB s u := ⟨h.1.trans g.1, fun i hi => g.2 i (h.2 i hi)⟩
theorem LeB.eq {s t : List Bool} (h : LeB s t) (g : LeB t s) : s = t := by
  apply List.ext_getElem?
  intro i
  cases hs : s[i]? with
  | none =>
    have h1 := List.getElem?_eq_none_iff.1 hs
    rw [List.getElem?_eq_none (by rw [← h.1]; exact h1)]
  | some b =>
    have hl := (List.getElem?_eq_some_iff.1 hs).1
    obtain ⟨c, ht⟩ : ∃ c, t[i]? = some c := ⟨_, List.getElem?_eq_getElem (by rw [← h.1]; exact hl)⟩
    rw [ht]
    cases b with
    | true => rw [h.2 i hs] at ht; exact ht
    | false =>
      cases c with
      | true => rw [g.2 i ht] at hs; cases hs
      | false => rfl
theorem mark_le (s : List Bool) (w : Int) : LeB s (mark s w) := by
  unfold mark
  split
  · refine ⟨(List.length_set ..).symm, fun i hi => ?_⟩
    rw [List.getElem?_set]
    split
    · rename_i e
      rw [if_pos (by rw [e]; exact (List.getElem?_eq_some_iff.1 hi).1)]
    · exact hi
  · exact LeB.refl s
theorem markL_le : ∀ (l : List Int) (s : List Bool), LeB s (markL s l)
  | [], s => LeB.refl s
  | w :: r, s => (mark_le s w).trans (markL_le r (mark s w))
theorem secM_le (s : List Bool) (k : Nat) (l : List Int) : LeB s (secM s k l) := by
  unfold secM
  split
  · exact markL_le l s
  · exact LeB.refl s
theorem roundM_le : ∀ (adj : List (List Int)) (k : Nat) (s : List Bool), LeB s (roundM k s adj)
  | [], _, s => LeB.refl s
  | l :: r, k, s => (secM_le s k l).trans (roundM_le r (k + 1) (secM s k l))
theorem manyM_le (adj : List (List Int)) (s : List Bool) : ∀ n, LeB s (manyM adj s n)
  | 0 => LeB.refl s
  | n + 1 => (manyM_le adj s n).trans (roundM_le adj 0 _)
/-- What a round that changes nothing says. -/
theorem markL_fix : ∀ (l : List Int) (s : List Bool), markL s l = s → ∀ w ∈ l, 0 ≤ w → w.toNat < s.length → s[w.toNat]? = some true
  | [], _, _, _, hw, _, _ => by cases hw
  | x :: r, s, h, w, hw, h0, hl => by
    have h' : markL (mark s x) r = s := h
    have e : mark s x = s := by
      have g := markL_le r (mark s x)
      rw [h'] at g
      exact (g.eq (mark_le s x))
    rw [e] at h'
    rcases List.mem_cons.1 hw with rfl | hw
    · unfold mark at e
      rw [if_pos h0] at e
      have : (s.set w.toNat true)[w.toNat]? = some true := by rw [List.getElem?_set, if_pos rfl, if_pos hl]
      rwa [e] at this
    · exact markL_fix r s h' w hw h0 hl
theorem secM_fix {s : List Bool} {k : Nat} {l : List Int} (h : secM s k l = s) (hk : s[k]? = some true) : markL s l = s := by
  unfold secM at h
  rwa [if_pos (by rw [List.getD_eq_getElem?_getD, hk]; rfl)] at h
theorem roundM_fix : ∀ (adj : List (List Int)) (k : Nat) (s : List Bool), roundM k s adj = s → ∀ (i : Nat) (l : List Int), adj[i]? = some l → s[k + i]? = some true → ∀ w ∈ l, 0 ≤ w → w.toNat < s.length → s[w.toNat]? = some true
  | [], _, _, _, i, l, hi, _, _, _, _, _ => by simp at hi
  | x :: r, k, s, h, i, l, hi, hk, w, hw, h0, hl => by
    have h' : roundM (k + 1) (secM s k x) r = s := h
    have e : secM s k x = s := by
      have g := roundM_le r (k + 1) (secM s k x)
      rw [h'] at g
      exact g.eq (secM_le s k x)
    rw [e] at h'
    cases i with
    | zero =>
      rw [List.getElem?_cons_zero] at hi
      injection hi with hi
      subst hi
      exact markL_fix x s (secM_fix e hk) w hw h0 hl
    | succ j =>
      rw [List.getElem?_cons_succ] at hi
      exact roundM_fix r (k + 1) s h' j l hi (by rw [show k + 1 + j = k + (j + 1) by omega]; exact hk) w hw h0 hl
/-- How many are marked. -/
theorem LeB.count : ∀ {s t : List Bool}, LeB s t → s.countP id ≤ t.countP id ∧ (s.countP id = t.countP id → s = t)
  | [], [], _ => ⟨Nat.le_refl _, fun _ => rfl⟩
  | [], _ :: _, h => by simp [LeB] at h
  | _ :: _, [], h => by simp [LeB] at h
  | a :: s, b :: t, h => by
    have hr : LeB s t := ⟨by have := h.1; simpa using this, fun i hi => by have := h.2 (i + 1) (by simpa using hi); simpa using this⟩
    have h0 : a = true → b = true := fun e => by have := h.2 0 (by simp [e]); simpa using this
    obtain ⟨i1, i2⟩ := LeB.count hr
    rw [List.countP_cons, List.countP_cons]
    cases a <;> cases b
    · exact ⟨by simpa using i1, fun e => by rw [i2 (by simpa using e)]⟩
    · refine ⟨by simp only [id]; simp; omega, fun e => ?_⟩
      simp at e
      omega
    · exact absurd (h0 rfl) (by decide)
    · exact ⟨by simpa using i1, fun e => by rw [i2 (by simpa using e)]⟩
theorem roundM_none : ∀ (adj : List (List Int)) (k : Nat) (s : List Bool), (∀ i : Nat, s[i]? ≠ some true) → roundM k s adj = s
  | [], _, _, _ => rfl
  | l :: r, k, s, h => by
    have e : secM s k l = s := by
      unfold secM
      rw [if_neg]
      intro hc
      rw [List.getD_eq_getElem?_getD] at hc
      cases hs : s[k]? with
      | none => rw [hs] at hc; cases hc
      | some b => rw [hs] at hc; exact h k (by rw [hs]; exact congrArg some hc)
    show roundM (k + 1) (secM s k l) r = s
    rw [e]
    exact roundM_none r (k + 1) s h
/-- After as many rounds as there are sections nothing is left to mark. -/
theorem manyM_fix (adj : List (List Int)) (s : List Bool) : roundM 0 (manyM adj s s.length) adj = manyM adj s s.length := by
  by_cases h0 : ∀ i : Nat, s[i]? ≠ some true
  · have e : ∀ n, manyM adj s n = s := by
      intro n
      induction n with
      | zero => rfl
      | succ n ih => show roundM 0 (manyM adj s n) adj = s; rw [ih]; exact roundM_none adj 0 s h0
    rw [e]; exact roundM_none adj 0 s h0
  · have hc : 0 < s.countP id := by
      rw [List.countP_pos_iff]
      refine Classical.byContradiction fun hn => h0 fun i hi => hn ⟨true, List.mem_of_getElem? hi, rfl⟩
    have step : ∀ n, roundM 0 (manyM adj s n) adj = manyM adj s n ∨ n + 1 + s.countP id ≤ (manyM adj s (n + 1)).countP id := by
      intro n
      induction n with
      | zero =>
        have g := (roundM_le adj 0 s).count
        rcases Nat.lt_or_ge (s.countP id) ((roundM 0 s adj).countP id) with h | h
        · exact .inr (by show 0 + 1 + _ ≤ (roundM 0 s adj).countP id; omega)
        · exact .inl (g.2 (by omega)).symm
      | succ n ih =>
        rcases ih with ih | ih
        · refine .inl ?_
          show roundM 0 (roundM 0 (manyM adj s n) adj) adj = roundM 0 (manyM adj s n) adj
          rw [ih, ih]
        · have g := (roundM_le adj 0 (manyM adj s (n + 1))).count
          rcases Nat.lt_or_ge ((manyM adj s (n + 1)).countP id) ((roundM 0 (manyM adj s (n + 1)) adj).countP id) with h | h
          · exact .inr (by show n + 1 + 1 + _ ≤ (roundM 0 (manyM adj s (n + 1)) adj).countP id; omega)
          · exact .inl (g.2 (by omega)).symm
    rcases step s.length with h | h
    · exact h
    · have h1 : (manyM adj s (s.length + 1)).countP id ≤ (manyM adj s (s.length + 1)).length := List.countP_le_length
      rw [← (manyM_le adj s (s.length + 1)).1] at h1
      omega
/-- The marks in the end. -/
def reachM (adj : List (List Int)) (s : List Bool) : List Bool := manyM adj s s.length
def ClosedM (adj : List (List Int)) (t : List Bool) : Prop := ∀ (i : Nat) (l : List Int), adj[i]? = some l → t[i]? = some true → ∀ w ∈ l, 0 ≤ w → w.toNat < t.length → t[w.toNat]? = some true
theorem reachM_length (adj : List (List Int)) (s : List Bool) : (reachM adj s).length = s.length := (manyM_le adj s _).1.symm
theorem reachM_closed (adj : List (List Int)) (s : List Bool) : ClosedM adj (reachM adj s) := fun i l hi hk => roundM_fix adj 0 _ (manyM_fix adj s) i l hi (by rw [Nat.zero_add]; exact hk)
theorem mark_least {s t : List Bool} {w : Int} (h : LeB s t) (hw : 0 ≤ w → w.toNat < t.length → t[w.toNat]? = some true) : LeB (mark s w) t := by
  unfold mark
  split
  · rename_i h0
    refine ⟨by rw [List.length_set]; exact h.1, fun i hi => ?_⟩
    rw [List.getElem?_set] at hi
    split at hi
    · rename_i e
      split at hi
      · rename_i hl
        subst e
        exact hw h0 (by rw [← h.1]; exact hl)
      · cases hi
    · exact h.2 i hi
  · exact h
theorem markL_least : ∀ (l : List Int) {s t : List Bool}, LeB s t → (∀ w ∈ l, 0 ≤ w → w.toNat < t.length → t[w.toNat]? = some true) → LeB (markL s l) t
  | [], _, _, h, _ => h
  | w :: r, s, t, h, hw => markL_least r (mark_least h (hw w (by simp))) (fun x hx => hw x (by simp [hx]))
theorem secM_least {s t : List Bool} {k : Nat} {l : List Int} (h : LeB s t) (hw : t[k]? = some true → ∀ w ∈ l, 0 ≤ w → w.toNat < t.length → t[w.toNat]? = some true) : LeB (secM s k l) t := by
  unfold secM
  split
  · rename_i hk
    refine markL_least l h (hw (h.2 k ?_))
    rw [List.getD_eq_getElem?_getD] at hk
    cases hs : s[k]? with
    | none => rw [hs] at hk; cases hk
    | some b => rw [hs] at hk; exact congrArg some hk
  · exact h
theorem roundM_least : ∀ (adj : List (List Int)) (k : Nat) {s t : List Bool}, LeB s t → (∀ (i : Nat) (l : List Int), adj[i]? = some l → t[k + i]? = some true → ∀ w ∈ l, 0 ≤ w → w.toNat < t.length → t[w.toNat]? = some true) → LeB (roundM k s adj) t
  | [], _, _, _, h, _ => h
  | l :: r, k, s, t, h, hc => roundM_least r (k + 1) (secM_least h (fun hk => hc 0 l rfl hk)) (fun i x hx hk => hc (i + 1) x (by simpa using hx) (by rw [show k + (i + 1) = k + 1 + i by omega]; exact hk))
/-- They are the least that are closed. -/
theorem reachM_least {adj : List (List Int)} {s t : List Bool} (h : LeB s t) (hc : ClosedM adj t) : LeB (reachM adj s) t := by
  unfold reachM
  induction s.length with
  | zero => exact h
  | succ n ih => exact roundM_least adj 0 ih (fun i l hi hk => hc i l hi (by rw [Nat.zero_add] at hk; exact hk))
/-- More to begin with, more in the end. -/
theorem reachM_mono {adj : List (List Int)} {s t : List Bool} (h : LeB s t) : LeB (reachM adj s) (reachM adj t) := reachM_least (h.trans (manyM_le adj t _)) (reachM_closed adj t)
/-- Marks that begin so, are closed and least, are these. -/
theorem reachM_unique {adj : List (List Int)} {s t : List Bool} (h : LeB s t) (hc : ClosedM adj t) (hl : LeB t (reachM adj s)) : t = reachM adj s := hl.eq (reachM_least h hc)

end Go.Proofs.Ytjpclpjhigongaa

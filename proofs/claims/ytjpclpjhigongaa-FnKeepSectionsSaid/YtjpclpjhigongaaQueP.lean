/-
  A queue of sections in plain words: what it holds in the end are the reached sections, and sorted it is their numbers.
-/
import Derived.Test.YtjpclpjhigongaaRchL
namespace Go.Proofs.Ytjpclpjhigongaa
open Go.RowKit

/-- A number is put behind the others, if it is one of a section and not there. -/
def putQ (Q : List Int) (w : Int) : List Int := if 0 ≤ w ∧ w ∉ Q then Q ++ [w] else Q
theorem putQ_mem {Q : List Int} {w x : Int} : x ∈ putQ Q w ↔ x ∈ Q ∨ (0 ≤ w ∧ x = w) := by
  unfold putQ
  split
  · rename_i h
    rw [List.mem_append, List.mem_singleton]
    exact ⟨fun e => e.imp id fun e => ⟨h.1, e⟩, fun e => e.imp id fun e => e.2⟩
  · rename_i h
    refine ⟨.inl, fun e => e.elim id fun e => ?_⟩
    rcases Decidable.em (x ∈ Q) with hx | hx
    · exact hx
    · exact absurd ⟨e.1, by rw [← e.2]; exact hx⟩ h
theorem putQ_yes {Q : List Int} {w : Int} (h0 : 0 ≤ w) (h : w ∉ Q) : putQ Q w = Q ++ [w] := if_pos ⟨h0, h⟩
theorem putQ_no {Q : List Int} {w : Int} (h : ¬ 0 ≤ w ∨ w ∈ Q) : putQ Q w = Q := if_neg fun e => h.elim (fun h => h e.1) (fun h => e.2 h)
theorem putQ_at {Q : List Int} {w x : Int} {i : Nat} (h : Q[i]? = some x) : (putQ Q w)[i]? = some x := by
  unfold putQ
  split
  · rw [List.getElem?_append_left (List.getElem?_eq_some_iff.1 h).1]; exact h
  · exact h
theorem putQ_length (Q : List Int) (w : Int) : Q.length ≤ (putQ Q w).length := by
  unfold putQ
  split
  · simp
  · exact Nat.le_refl _
/-- What a list of numbers marks. -/
def marksQ (n : Nat) (Q : List Int) : List Bool := (List.range n).map fun (i : Nat) => decide ((i : Int) ∈ Q)
theorem marksQ_length (n : Nat) (Q : List Int) : (marksQ n Q).length = n := by unfold marksQ; simp
theorem marksQ_at {n : Nat} {Q : List Int} {i : Nat} (h : i < n) : (marksQ n Q)[i]? = some (decide ((i : Int) ∈ Q)) := by unfold marksQ; rw [List.getElem?_map, List.getElem?_range h]; rfl
theorem marksQ_true {n : Nat} {Q : List Int} {i : Nat} : (marksQ n Q)[i]? = some true ↔ i < n ∧ (i : Int) ∈ Q := by
  constructor
  · intro h
    have hl := (List.getElem?_eq_some_iff.1 h).1
    rw [marksQ_length] at hl
    rw [marksQ_at hl] at h
    exact ⟨hl, of_decide_eq_true (Option.some.inj h)⟩
  · intro ⟨h1, h2⟩
    rw [marksQ_at h1, decide_eq_true h2]
theorem marksQ_put {n : Nat} {Q : List Int} {w : Int} : marksQ n (putQ Q w) = mark (marksQ n Q) w := by
  apply List.ext_getElem?
  intro i
  rcases Nat.lt_or_ge i n with h | h
  · rw [marksQ_at h]
    unfold mark
    split
    · rename_i h0
      rw [List.getElem?_set, marksQ_length]
      split
      · rename_i e
        rw [if_pos (by omega), decide_eq_true (putQ_mem.2 (.inr ⟨h0, by omega⟩))]
      · rename_i e
        rw [marksQ_at h]
        congr 1
        rw [decide_eq_decide, putQ_mem]
        exact ⟨fun g => g.elim id fun g => absurd g.2 (by omega), .inl⟩
    · rename_i h0
      rw [marksQ_at h]
      congr 1
      rw [decide_eq_decide, putQ_mem]
      exact ⟨fun g => g.elim id fun g => absurd g.1 h0, .inl⟩
  · rw [List.getElem?_eq_none (by rw [marksQ_length]; exact h), List.getElem?_eq_none (by rw [mark_length, marksQ_length]; exact h)]
theorem marksQ_none (n : Nat) : marksQ n [] = List.replicate n false := by
  apply List.ext_getElem?
  intro i
  rcases Nat.lt_or_ge i n with h | h
  · rw [marksQ_at h, List.getElem?_replicate, if_pos h]; rfl
  · rw [List.getElem?_eq_none (by rw [marksQ_length]; exact h), List.getElem?_eq_none (by simpa using h)]
/-- The queue when the symbols have been looked at. -/
def startQ (K : List ByteArray) (Q : List Int) (ms : List Sm) : List Int := ms.foldl (fun Q m => if starts K m then putQ Q m.loc else Q) Q
theorem startQ_next {K : List ByteArray} {Q : List Int} {ms : List Sm} {k : Nat} {y : Sm} (h : ms[k]? = some y) : startQ K Q (ms.take (k + 1)) = if starts K y then putQ (startQ K Q (ms.take k)) y.loc else startQ K Q (ms.take k) := by
  unfold startQ
  rw [take_next h, List.foldl_append]; rfl
theorem startQ_marks (K : List ByteArray) (n : Nat) : ∀ (ms : List Sm) (Q : List Int), marksQ n (startQ K Q ms) = startM K (marksQ n Q) ms
  | [], _ => rfl
  | m :: r, Q => by
    show marksQ n (startQ K (if starts K m then putQ Q m.loc else Q) r) = startM K (if starts K m then mark (marksQ n Q) m.loc else marksQ n Q) r
    rw [startQ_marks K n r]
    split
    · rw [marksQ_put]
    · rfl
/-- Different numbers of sections. -/
structure QOk (n : Nat) (Q : List Int) : Prop where
  once : Q.Nodup
  inn : ∀ x ∈ Q, 0 ≤ x ∧ x.toNat < n
theorem QOk.none (n : Nat) : QOk n [] := ⟨List.nodup_nil, by simp⟩
theorem QOk.put {n : Nat} {Q : List Int} (h : QOk n Q) {w : Int} (hw : 0 ≤ w → w.toNat < n) : QOk n (putQ Q w) := by
  refine ⟨?_, fun x hx => ?_⟩
  · unfold putQ
    split
    · rename_i hn
      rw [List.nodup_append]
      refine ⟨h.once, by simp, fun a ha b hb => ?_⟩
      rw [List.mem_singleton.1 hb]
      intro e
      exact hn.2 (by rw [← e]; exact ha)
    · exact h.once
  · rcases putQ_mem.1 hx with h1 | ⟨h0, rfl⟩
    · exact h.inn x h1
    · exact ⟨h0, hw h0⟩
theorem lt_ext : ∀ {l l' : List Int}, l.Pairwise (· < ·) → l'.Pairwise (· < ·) → (∀ x, x ∈ l ↔ x ∈ l') → l = l'
  | [], [], _, _, _ => rfl
  | [], b :: r, _, _, h => absurd ((h b).2 (by simp)) (by simp)
  | a :: r, [], _, _, h => absurd ((h a).1 (by simp)) (by simp)
  | a :: r, b :: s, h1, h2, h => by
    rw [List.pairwise_cons] at h1 h2
    have hab : a = b := by
      have e1 : a ≤ b := by
        rcases List.mem_cons.1 ((h b).2 (by simp)) with e | e
        · omega
        · exact Int.le_of_lt (h1.1 b e)
      have e2 : b ≤ a := by
        rcases List.mem_cons.1 ((h a).1 (by simp)) with e | e
        · omega
        · exact Int.le_of_lt (h2.1 a e)
      omega
    subst hab
    rw [lt_ext h1.2 h2.2 fun x => ?_]
    constructor
    · intro hx
      rcases List.mem_cons.1 ((h x).1 (by simp [hx])) with e | e
      · have := h1.1 x hx; omega
      · exact e
    · intro hx
      rcases List.mem_cons.1 ((h x).2 (by simp [hx])) with e | e
      · have := h2.1 x hx; omega
      · exact e
theorem numsM_up : ∀ (t : List Bool) (k : Nat), (numsM k t).Pairwise (· < ·)
  | [], k => by simp [numsM]
  | b :: t, k => by
    have ih := numsM_up t (k + 1)
    unfold numsM
    cases b
    · simpa using ih
    · rw [if_pos rfl, List.pairwise_cons]
      refine ⟨fun x hx => ?_, ih⟩
      obtain ⟨i, _, rfl⟩ := (numsM_mem t (k + 1) x).1 hx
      omega
/-- Sorted, different numbers are those that they mark. -/
theorem QOk.sorted {n : Nat} {Q : List Int} (h : QOk n Q) : (Q.mergeSort fun x y => decide (x ≤ y)) = numsM 0 (marksQ n Q) := by
  refine lt_ext ?_ (numsM_up _ _) fun x => ?_
  · have h1 : (Q.mergeSort fun x y => decide (x ≤ y)).Pairwise fun a b => decide (a ≤ b) = true :=
      List.pairwise_mergeSort (fun a b c h1 h2 => by simp only [decide_eq_true_eq] at *; omega) (fun a b => by simp only [Bool.or_eq_true, decide_eq_true_eq]; omega) Q
    have h2 : (Q.mergeSort fun x y => decide (x ≤ y)).Nodup := by rw [(List.mergeSort_perm _ _).nodup_iff]; exact h.once
    refine List.Pairwise.imp₂ (fun a b g1 g2 => ?_) h1 h2
    have g1 : a ≤ b := by simpa using g1
    have g2 : a ≠ b := g2
    omega
  · rw [List.mem_mergeSort, numsM_mem]
    constructor
    · intro hx
      obtain ⟨h0, h1⟩ := h.inn x hx
      refine ⟨x.toNat, marksQ_true.2 ⟨h1, ?_⟩, by omega⟩
      rw [Int.toNat_of_nonneg h0]; exact hx
    · rintro ⟨i, hi, rfl⟩
      rw [Nat.zero_add]
      exact (marksQ_true.1 hi).2
theorem QOk.few {n : Nat} {Q : List Int} (h : QOk n Q) : Q.length ≤ n := by
  have h1 := congrArg List.length h.sorted
  rw [List.length_mergeSort, numsM_length] at h1
  have h2 : (marksQ n Q).countP id ≤ (marksQ n Q).length := List.countP_le_length
  rw [marksQ_length] at h2
  omega
/-- The queue on its way: of the first numbers all that they use is there. -/
structure Que (adj : List (List Int)) (n : Nat) (s0 : List Bool) (Q : List Int) (p : Nat) : Prop where
  ok : QOk n Q
  low : LeB s0 (marksQ n Q)
  high : LeB (marksQ n Q) (reachM adj s0)
  shut : ∀ (i : Nat) (x : Int) (lk : List Int), i < p → Q[i]? = some x → adj[x.toNat]? = some lk → ∀ w ∈ lk, 0 ≤ w → w ∈ Q
  le : p ≤ Q.length
section
variable {adj : List (List Int)} {n : Nat} {s0 : List Bool} {Q : List Int} {p : Nat}
theorem Que.start (h : QOk n Q) : Que adj n (marksQ n Q) Q 0 :=
  ⟨h, LeB.refl _, manyM_le adj _ _, fun _ _ _ h => absurd h (by omega), Nat.zero_le _⟩
theorem Que.put (h : Que adj n s0 Q p) {w : Int} (hw : 0 ≤ w → w.toNat < n) (hr : 0 ≤ w → w.toNat < (reachM adj s0).length → (reachM adj s0)[w.toNat]? = some true) : Que adj n s0 (putQ Q w) p := by
  refine ⟨h.ok.put hw, ?_, ?_, fun i x lk hi hx ha z hz h0 => ?_, Nat.le_trans h.le (putQ_length Q w)⟩
  · rw [marksQ_put]; exact h.low.trans (mark_le _ _)
  · rw [marksQ_put]; exact mark_least h.high hr
  · obtain ⟨y, hy⟩ : ∃ y, Q[i]? = some y := ⟨_, List.getElem?_eq_getElem (Nat.lt_of_lt_of_le hi h.le)⟩
    have := putQ_at (w := w) hy
    rw [this] at hx
    injection hx with hx
    subst hx
    exact putQ_mem.2 (.inl (h.shut i y lk hi hy ha z hz h0))
theorem Que.next (h : Que adj n s0 Q p) (hp : p < Q.length) (hk : ∀ (x : Int) (lk : List Int), Q[p]? = some x → adj[x.toNat]? = some lk → ∀ w ∈ lk, 0 ≤ w → w ∈ Q) : Que adj n s0 Q (p + 1) :=
  ⟨h.ok, h.low, h.high, fun i x lk hi hx ha z hz h0 => by
    rcases Nat.lt_or_ge i p with g | g
    · exact h.shut i x lk g hx ha z hz h0
    · have : i = p := by omega
      subst this
      exact hk x lk hx ha z hz h0, hp⟩
theorem Que.done (h : Que adj n s0 Q Q.length) : marksQ n Q = reachM adj s0 := by
  refine reachM_unique h.low (fun i lk ha hi w hw h0 hl => ?_) h.high
  obtain ⟨hin, hiq⟩ := marksQ_true.1 hi
  obtain ⟨j, hj⟩ := List.getElem?_of_mem hiq
  rw [marksQ_length] at hl
  refine marksQ_true.2 ⟨hl, ?_⟩
  rw [Int.toNat_of_nonneg h0]
  exact h.shut j _ lk (List.getElem?_eq_some_iff.1 hj).1 hj (by rw [Int.toNat_natCast]; exact ha) w hw h0
/-- What a number of the queue uses may be put. -/
theorem Que.may (h : Que adj n s0 Q p) {i : Nat} {x : Int} {lk : List Int} (hx : Q[i]? = some x) (ha : adj[x.toNat]? = some lk) {w : Int} (hw : w ∈ lk) (h0 : 0 ≤ w) (hl : w.toNat < (reachM adj s0).length) : (reachM adj s0)[w.toNat]? = some true := by
  obtain ⟨x0, x1⟩ := h.ok.inn x (List.mem_of_getElem? hx)
  exact reachM_closed adj s0 x.toNat lk ha (h.high.2 x.toNat (marksQ_true.2 ⟨x1, by rw [Int.toNat_of_nonneg x0]; exact List.mem_of_getElem? hx⟩)) w hw h0 hl
end

end Go.Proofs.Ytjpclpjhigongaa

/-
  Reached sections of an object in plain words; it can be kept with them alone.
-/
import Derived.Test.YtjpclpjhigongaaRchP
import Derived.Test.YtjpclpjhigongaaKepP
namespace Go.Proofs.Ytjpclpjhigongaa
open Go.RowKit

/-- Where a symbol lies. -/
def locAt (ms : List Sm) (n : Int) : Int := ((ms[n.toNat]?).map Sm.loc).getD (-1)
/-- What the sections use: the places of their fixups' symbols. -/
def adjO (ss : List Sx) (ms : List Sm) : List (List Int) := ss.map fun s => s.fixs.map fun f => locAt ms f.to
/-- A symbol that a list of names begins with. -/
def starts (K : List ByteArray) (m : Sm) : Bool := (K.any fun x => decide (x = m.name)) && decide (m.bind ≠ 0)
def startM (K : List ByteArray) (s : List Bool) (ms : List Sm) : List Bool := ms.foldl (fun s m => if starts K m then mark s m.loc else s) s
/-- The reached sections. -/
def reachB (K : List ByteArray) (ss : List Sx) (ms : List Sm) : List Bool := reachM (adjO ss ms) (startM K (List.replicate ss.length false) ms)
theorem startM_length (K : List ByteArray) : ∀ (ms : List Sm) (s : List Bool), (startM K s ms).length = s.length
  | [], _ => rfl
  | m :: r, s => by
    show (startM K (if starts K m then mark s m.loc else s) r).length = s.length
    rw [startM_length K r]
    split
    · exact (mark_le s m.loc).1.symm
    · rfl
theorem reachB_length (K : List ByteArray) (ss : List Sx) (ms : List Sm) : (reachB K ss ms).length = ss.length := by
  unfold reachB
  rw [reachM_length, startM_length, List.length_replicate]
theorem mark_both {s t : List Bool} (h : LeB s t) (w : Int) : LeB (mark s w) (mark t w) := by
  refine mark_least (h.trans (mark_le t w)) (fun h0 hl => ?_)
  unfold mark at hl ⊢
  rw [if_pos h0] at hl ⊢
  rw [List.length_set] at hl
  rw [List.getElem?_set, if_pos rfl, if_pos hl]
theorem startM_mono {K K' : List ByteArray} (h : ∀ x ∈ K, x ∈ K') : ∀ (ms : List Sm) {s t : List Bool}, LeB s t → LeB (startM K s ms) (startM K' t ms)
  | [], _, _, g => g
  | m :: r, s, t, g => by
    refine startM_mono h r ?_
    show LeB (if starts K m = true then mark s m.loc else s) (if starts K' m = true then mark t m.loc else t)
    by_cases hs : starts K m = true
    · have ht : starts K' m = true := by
        unfold starts at hs ⊢
        simp only [Bool.and_eq_true, List.any_eq_true] at hs ⊢
        obtain ⟨⟨x, hx, hxe⟩, hb⟩ := hs
        exact ⟨⟨x, h x hx, hxe⟩, hb⟩
      rw [if_pos hs, if_pos ht]
      exact mark_both g m.loc
    · rw [if_neg hs]
      split
      · exact g.trans (mark_le t m.loc)
      · exact g
/-- With more names not fewer sections are reached. -/
theorem reachB_mono {K K' : List ByteArray} (h : ∀ x ∈ K, x ∈ K') (ss : List Sx) (ms : List Sm) : LeB (reachB K ss ms) (reachB K' ss ms) :=
  reachM_mono (startM_mono h ms (LeB.refl _))
theorem objOk_sym {ss : List Sx} {ms : List Sm} (h : objOk ss ms = true) : ∀ m ∈ ms, symOk m ss = true := by
  unfold objOk at h
  simp only [Bool.and_eq_true] at h
  exact (symsOk_told ss ms [] h.2.1).1
/-- What is closed can be kept. -/
theorem closed_tight {t : List Bool} {ss : List Sx} {ms : List Sm} (h : objOk ss ms = true) (hl : t.length = ss.length) (hc : ClosedM (adjO ss ms) t) : looseS (ms.map (inKept t)) t ss = false := by
  have key : ∀ (bs : List Bool) (q : List Sx), (∀ (k : Nat) (s : Sx), bs[k]? = some true → q[k]? = some s → ∀ f ∈ s.fixs, (ms.map (inKept t)).getD f.to.toNat false = true) → looseS (ms.map (inKept t)) bs q = false := by
    intro bs
    induction bs with
    | nil => intro q _; unfold looseS; rfl
    | cons b bs ih =>
      intro q hq
      cases q with
      | nil => unfold looseS; rfl
      | cons s q =>
        unfold looseS
        rw [Bool.or_eq_false_iff]
        refine ⟨?_, ih q (fun k x hb hx => hq (k + 1) x (by simpa using hb) (by simpa using hx))⟩
        cases b with
        | false => rfl
        | true =>
          rw [Bool.true_and, List.any_eq_false]
          intro f hf
          rw [hq 0 s rfl rfl f hf]
          decide
  refine key t ss (fun k s hb hs f hf => ?_)
  obtain ⟨_, _, hp⟩ := objOk_parts h
  obtain ⟨f0, f1⟩ := (hp s (List.mem_of_getElem? hs)).2.2 f hf
  have hfl : f.to.toNat < ms.length := by omega
  have hm : ms[f.to.toNat]? = some ms[f.to.toNat] := List.getElem?_eq_getElem hfl
  obtain ⟨m, hme⟩ : ∃ m, ms[f.to.toNat] = m := ⟨_, rfl⟩
  rw [hme] at hm
  rw [List.getD_eq_getElem?_getD, List.getElem?_map, hm]
  show inKept t m = true
  unfold inKept
  by_cases h0 : m.loc < 0
  · rw [decide_eq_true h0]; rfl
  · have hin : m.loc.toNat < t.length := by
      have hsy := objOk_sym h m (List.mem_of_getElem? hm)
      unfold symOk at hsy
      rw [if_neg (by omega), if_neg (by omega)] at hsy
      simp only [Bool.and_eq_true, decide_eq_true_eq] at hsy
      rw [hl]; omega
    have := hc k (s.fixs.map fun f => locAt ms f.to) (by unfold adjO; rw [List.getElem?_map, hs]; rfl) hb m.loc (List.mem_map.2 ⟨f, hf, by unfold locAt; rw [hm]; rfl⟩) (by omega) hin
    rw [List.getD_eq_getElem?_getD, this]
    simp
/-- The object can be kept with its reached sections alone. -/
theorem reach_keeps {K : List ByteArray} {ss : List Sx} {ms : List Sm} (h : objOk ss ms = true) : keepA (reachB K ss ms) ss ms = some (keepO (reachB K ss ms) ss ms) := by
  unfold keepA
  rw [h, closed_tight h (reachB_length K ss ms) (reachM_closed _ _)]
  rfl
/-- With all sections nothing changes. -/
theorem keep_all {kp : List Bool} {ss : List Sx} {ms : List Sm} (h : objOk ss ms = true) (hl : kp.length = ss.length) (ha : ∀ b ∈ kp, b = true) : keepA kp ss ms = some (ss, ms) := by
  have hin : ∀ m ∈ ms, inKept kp m = true ∧ (0 ≤ m.loc → m.loc.toNat < kp.length) := fun m hm => by
    have ho := objOk_sym h m hm
    unfold inKept
    by_cases h0 : m.loc < 0
    · exact ⟨by rw [decide_eq_true h0]; rfl, fun h1 => by omega⟩
    · unfold symOk at ho
      rw [if_neg (by omega), if_neg (by omega)] at ho
      simp only [Bool.and_eq_true, decide_eq_true_eq] at ho
      have hlt : m.loc.toNat < kp.length := by rw [hl]; omega
      refine ⟨?_, fun _ => hlt⟩
      rw [List.getD_eq_getElem?_getD, List.getElem?_eq_getElem hlt, ha _ (List.getElem_mem hlt)]
      simp
  have hsb : ∀ b ∈ ms.map (inKept kp), b = true := fun b hb => by
    obtain ⟨m, hm, rfl⟩ := List.mem_map.1 hb
    exact (hin m hm).1
  obtain ⟨_, _, hp⟩ := objOk_parts h
  have hto : ∀ s ∈ ss, ∀ f ∈ s.fixs, keptN (ms.map (inKept kp)) f.to = f.to := fun s hs f hf => by
    obtain ⟨f0, f1⟩ := (hp s hs).2.2 f hf
    exact keptN_all hsb f0 (by rw [List.length_map]; omega)
  have hloose : looseS (ms.map (inKept kp)) kp ss = false := closed_tight h hl (fun i l _ _ w _ _ hw => by
    rw [List.getElem?_eq_getElem hw, ha _ (List.getElem_mem hw)])
  unfold keepA
  rw [h, hloose]
  simp only [Bool.not_false, Bool.and_self, if_true, Option.some.injEq]
  unfold keepO
  have e1 : ss.map (fixTo (keptN (ms.map (inKept kp)))) = ss := by
    conv => rhs; rw [← List.map_id ss]
    apply List.map_congr_left
    intro s hs
    have : s.fixs.map (fun f => f.re (keptN (ms.map (inKept kp)) f.to)) = s.fixs := by
      conv => rhs; rw [← List.map_id s.fixs]
      apply List.map_congr_left
      intro f hf
      rw [hto s hs f hf]; rfl
    unfold fixTo
    rw [this]; rfl
  have e2 : ms.map (reLoc (keptN kp)) = ms := by
    conv => rhs; rw [← List.map_id ms]
    apply List.map_congr_left
    intro m hm
    unfold reLoc
    split
    · rename_i h0
      rw [keptN_all ha h0 (by have := (hin m hm).2 h0; omega)]; rfl
    · rfl
  rw [e1, keptS_all kp ss hl ha, keptL_all _ ms (List.length_map _) hsb, e2]
/-- The numbers of what is marked, in their order. -/
def numsM : Nat → List Bool → List Int
  | _, [] => []
  | k, b :: r => if b then (k : Int) :: numsM (k + 1) r else numsM (k + 1) r
theorem numsM_length : ∀ (t : List Bool) (k : Nat), (numsM k t).length = t.countP id
  | [], _ => rfl
  | b :: r, k => by
    have ih := numsM_length r (k + 1)
    unfold numsM
    cases b <;> simp [ih]
theorem numsM_mem : ∀ (t : List Bool) (k : Nat) (x : Int), x ∈ numsM k t ↔ ∃ i : Nat, t[i]? = some true ∧ x = ((k + i : Nat) : Int)
  | [], _, x => by simp [numsM]
  | b :: r, k, x => by
    have ih := numsM_mem r (k + 1) x
    have e : x ∈ numsM k (b :: r) ↔ ((b = true ∧ x = (k : Int)) ∨ x ∈ numsM (k + 1) r) := by
      show x ∈ (if b = true then (k : Int) :: numsM (k + 1) r else numsM (k + 1) r) ↔ _
      cases b <;> simp
    rw [e, ih]
    constructor
    · rintro (⟨hb, hx⟩ | ⟨i, hi, hx⟩)
      · exact ⟨0, by simp [hb], by rw [hx]; simp⟩
      · exact ⟨i + 1, by simpa using hi, by rw [hx]; congr 1; omega⟩
    · rintro ⟨i, hi, hx⟩
      cases i with
      | zero => exact .inl ⟨by simpa using hi, by rw [hx]; simp⟩
      | succ i => exact .inr ⟨i, by simpa using hi, by rw [hx]; congr 1; omega⟩
/-- Fewer marks, a part of the numbers in the same order. -/
theorem numsM_sub : ∀ {s t : List Bool} (k : Nat), LeB s t → (numsM k s).Sublist (numsM k t)
  | [], t, k, _ => by simp [numsM]
  | _ :: _, [], _, h => by simp [LeB] at h
  | a :: s, b :: t, k, h => by
    have hr : LeB s t := ⟨by have := h.1; simpa using this, fun i hi => by have := h.2 (i + 1) (by simpa using hi); simpa using this⟩
    have h0 : a = true → b = true := fun e => by have := h.2 0 (by simp [e]); simpa using this
    have ih := numsM_sub (k + 1) hr
    unfold numsM
    cases a <;> cases b
    · exact ih
    · exact ih.cons _
    · exact absurd (h0 rfl) (by decide)
    · exact ih.cons_cons _
/-- What a walk along the second list finds of the first. -/
def foundIn : List Int → List Int → Nat
  | _, [] => 0
  | [], _ :: _ => 0
  | x :: xs, y :: ys => if y = x then foundIn xs ys + 1 else foundIn (x :: xs) ys
theorem foundIn_sub : ∀ {ys xs : List Int}, xs.Sublist ys → foundIn xs ys = xs.length
  | [], xs, h => by
    have := List.sublist_nil.1 h
    subst this
    unfold foundIn; rfl
  | y :: ys, [], _ => by unfold foundIn; rfl
  | y :: ys, x :: xs, h => by
    unfold foundIn
    by_cases e : y = x
    · rw [if_pos e]
      subst e
      rw [foundIn_sub (List.cons_sublist_cons.1 h)]; rfl
    · rw [if_neg e]
      refine foundIn_sub ?_
      cases h with
      | cons _ h => exact h
      | cons_cons _ h => exact absurd rfl e

end Go.Proofs.Ytjpclpjhigongaa

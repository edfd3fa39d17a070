/-
  Keeping sections in plain words: masks and numbers against marks.
-/
import Derived.Test.YtjpclpjhigongaaRchL
import Derived.Test.YtjpclpjhigongaaStpI
import Derived.Lib.Slices
namespace Go.Proofs.Ytjpclpjhigongaa
open Go.RowKit

/-- Those of the sections that are kept, with their places. -/
def keptSp : List Bool → List Sp → List Sp
  | b :: bs, s :: ss => if b then s :: keptSp bs ss else keptSp bs ss
  | _, _ => []
theorem keptSp_map : ∀ (bs : List Bool) (l : List Sp), (keptSp bs l).map Sp.s = keptS bs (l.map Sp.s)
  | [], l => by simp [keptSp, keptS]
  | _ :: _, [] => by simp [keptSp, keptS]
  | b :: bs, s :: ss => by
    have ih := keptSp_map bs ss
    unfold keptSp
    rw [List.map_cons]
    unfold keptS
    cases b
    · exact ih
    · rw [if_pos rfl, if_pos rfl, List.map_cons, ih]
theorem keptS_map (g : Sx → Sx) : ∀ (bs : List Bool) (ss : List Sx), keptS bs (ss.map g) = (keptS bs ss).map g
  | [], ss => by simp [keptS]
  | _ :: _, [] => by simp [keptS]
  | b :: bs, s :: ss => by
    have ih := keptS_map g bs ss
    rw [List.map_cons]
    unfold keptS
    cases b
    · exact ih
    · rw [if_pos rfl, if_pos rfl, List.map_cons, ih]
theorem keptSp_snoc : ∀ (bs : List Bool) (ss : List Sp) (b : Bool) (s : Sp), bs.length = ss.length → keptSp (bs ++ [b]) (ss ++ [s]) = keptSp bs ss ++ if b then [s] else []
  | [], [], b, s, _ => by cases b <;> simp [keptSp]
  | c :: bs, x :: ss, b, s, h => by
    have ih := keptSp_snoc bs ss b s (by simpa using h)
    simp only [List.cons_append, keptSp, ih]
    split <;> simp
  | [], _ :: _, _, _, h => by simp at h
  | _ :: _, [], _, _, h => by simp at h
theorem keptSp_mem : ∀ (bs : List Bool) (ss : List Sp) (s : Sp), s ∈ keptSp bs ss → s ∈ ss
  | [], _, _, h => by simp [keptSp] at h
  | _ :: _, [], _, h => by simp [keptSp] at h
  | b :: bs, x :: ss, s, h => by
    unfold keptSp at h
    split at h
    · rcases List.mem_cons.1 h with h | h
      · rw [h]; exact List.mem_cons_self
      · exact List.mem_cons_of_mem _ (keptSp_mem bs ss s h)
    · exact List.mem_cons_of_mem _ (keptSp_mem bs ss s h)
theorem keptSp_next {bs : List Bool} {l : List Sp} (h : bs.length = l.length) {k : Nat} {b : Bool} {y : Sp} (hb : bs[k]? = some b) (hy : l[k]? = some y) : keptSp (bs.take (k + 1)) (l.take (k + 1)) = keptSp (bs.take k) (l.take k) ++ if b then [y] else [] := by
  rw [take_next hb, take_next hy]
  exact keptSp_snoc _ _ _ _ (by rw [List.length_take, List.length_take, h])
/-- A list of numbers, and the sections with these numbers. -/
theorem nums_kept : ∀ (t : List Bool) (k : Nat) (l : List Sp) (L : List Sp), t.length = l.length → (∀ i y, l[i]? = some y → L[k + i]? = some y) → ∀ (j : Nat) (x : Int), (numsM k t)[j]? = some x → ∃ y, L[x.toNat]? = some y ∧ (keptSp t l)[j]? = some y ∧ 0 ≤ x ∧ x.toNat < k + l.length
  | [], k, l, L, _, _, j, x, hx => by simp [numsM] at hx
  | _ :: _, _, [], _, h, _, _, _, _ => by simp at h
  | b :: t, k, y :: l, L, h, hL, j, x, hx => by
    have ih := nums_kept t (k + 1) l L (by simpa using h) (fun i z hz => by have := hL (i + 1) z (by simpa using hz); rwa [show k + (i + 1) = k + 1 + i by omega] at this)
    unfold numsM at hx
    unfold keptSp
    cases b with
    | false =>
      obtain ⟨z, h1, h2, h3, h4⟩ := ih j x hx
      exact ⟨z, h1, h2, h3, by rw [List.length_cons]; omega⟩
    | true =>
      rw [if_pos rfl] at hx ⊢
      cases j with
      | zero =>
        rw [List.getElem?_cons_zero] at hx
        injection hx with hx
        subst hx
        have := hL 0 y rfl
        rw [Nat.add_zero] at this
        exact ⟨y, this, rfl, by omega, by rw [List.length_cons]; omega⟩
      | succ j =>
        rw [List.getElem?_cons_succ] at hx
        obtain ⟨z, h1, h2, h3, h4⟩ := ih j x hx
        exact ⟨z, h1, by rw [List.getElem?_cons_succ]; exact h2, h3, by rw [List.length_cons]; omega⟩
theorem keptSp_length : ∀ (bs : List Bool) (ss : List Sp), bs.length = ss.length → (keptSp bs ss).length = bs.countP id
  | [], [], _ => by simp [keptSp]
  | c :: bs, x :: ss, h => by
    have ih := keptSp_length bs ss (by simpa using h)
    cases c <;> simp [keptSp, ih]
  | [], _ :: _, h => by simp at h
  | _ :: _, [], h => by simp at h
theorem mem_nums {kp : List Bool} {x : Int} (h0 : 0 ≤ x) : x ∈ numsM 0 kp ↔ kp.getD x.toNat false = true := by
  rw [numsM_mem, List.getD_eq_getElem?_getD]
  constructor
  · rintro ⟨i, hi, rfl⟩
    rw [Nat.zero_add, Int.toNat_natCast, hi]; rfl
  · intro h
    refine ⟨x.toNat, ?_, by omega⟩
    cases hq : kp[x.toNat]? with
    | none => rw [hq] at h; cases h
    | some b => rw [hq] at h; exact congrArg some h
/-- A symbol goes, if it is in a section that is not kept. -/
def goesM (kp : List Bool) (y : Sm) : Bool := decide (0 ≤ y.loc) && !decide (y.loc ∈ numsM 0 kp)
theorem goesM_kept (kp : List Bool) (y : Sm) : goesM kp y = !inKept kp y := by
  unfold goesM inKept
  by_cases h0 : 0 ≤ y.loc
  · rw [decide_eq_true h0, decide_eq_false (show ¬ y.loc < 0 by omega), Bool.true_and, Bool.false_or]
    congr 1
    rw [Bool.eq_iff_iff, decide_eq_true_iff]
    exact mem_nums h0
  · rw [decide_eq_false h0, decide_eq_true (show y.loc < 0 by omega)]; rfl
theorem numsM_at : ∀ (t : List Bool) (k i : Nat), t[i]? = some true → (numsM k t)[(t.take i).countP id]? = some ((k + i : Nat) : Int)
  | [], _, _, h => by simp at h
  | b :: t, k, 0, h => by
    have : b = true := by simpa using h
    subst this
    simp [numsM]
  | b :: t, k, i + 1, h => by
    have ih := numsM_at t (k + 1) i (by simpa using h)
    rw [List.take_succ_cons, List.countP_cons]
    rw [show k + 1 + i = k + (i + 1) by omega] at ih
    unfold numsM
    cases b with
    | true => rw [if_pos rfl]; simpa using ih
    | false => simpa using ih
theorem numsM_up0 (t : List Bool) : (numsM 0 t).Pairwise (· < ·) := by
  have key : ∀ (t : List Bool) (k : Nat), (numsM k t).Pairwise (· < ·) := by
    intro t
    induction t with
    | nil => intro k; simp [numsM]
    | cons b t ih =>
      intro k
      unfold numsM
      cases b
      · exact ih (k + 1)
      · rw [if_pos rfl, List.pairwise_cons]
        refine ⟨fun x hx => ?_, ih (k + 1)⟩
        obtain ⟨i, _, rfl⟩ := (numsM_mem t (k + 1) x).1 hx
        omega
  exact key t 0
theorem idx_kept {kp : List Bool} {i : Nat} (h : kp[i]? = some true) : Lib.idxOf (numsM 0 kp) (i : Int) = keptN kp (i : Int) := by
  have h1 := numsM_at kp 0 i h
  rw [Nat.zero_add] at h1
  have hl := (List.getElem?_eq_some_iff.1 h1).1
  have h2 := Lib.idxFrom_hit (i : Int) (numsM 0 kp) ((kp.take i).countP id) 0 hl (by rw [List.getD_eq_getElem?_getD, h1]; rfl) (fun j hj => by
    have hjl : j < (numsM 0 kp).length := by omega
    rw [List.getD_eq_getElem?_getD, List.getElem?_eq_getElem hjl]
    intro e
    have e : (numsM 0 kp)[j] = (i : Int) := e
    have e2 : (numsM 0 kp)[(kp.take i).countP id] = (i : Int) := by rw [List.getElem?_eq_getElem hl] at h1; injection h1
    have := List.pairwise_iff_getElem.1 (numsM_up0 kp) j _ hjl hl hj
    omega)
  unfold Lib.idxOf keptN
  rw [h2, Int.toNat_natCast, Nat.zero_add]
/-- No fixup of a kept section uses a symbol that goes. -/
theorem loose_none {sb : List Bool} : ∀ (bs : List Bool) (ss : List Sx), looseS sb bs ss = false ↔ ∀ s ∈ keptS bs ss, ∀ f ∈ s.fixs, sb.getD f.to.toNat false = true
  | [], ss => by simp [looseS, keptS]
  | _ :: _, [] => by simp [looseS, keptS]
  | b :: bs, s :: ss => by
    have ih := loose_none (sb := sb) bs ss
    unfold looseS keptS
    rw [Bool.or_eq_false_iff, ih]
    cases b with
    | false => simp
    | true =>
      rw [if_pos rfl, Bool.true_and, List.any_eq_false]
      constructor
      · intro ⟨h1, h2⟩ x hx f hf
        rcases List.mem_cons.1 hx with rfl | hx
        · have := h1 f hf
          simpa using this
        · exact h2 x hx f hf
      · intro h
        exact ⟨fun f hf => by rw [h s (by simp) f hf]; simp, fun x hx f hf => h x (by simp [hx]) f hf⟩
/-- The masks meet nowhere. -/
theorem and_loose {kp : List Bool} {ss : List Sx} {ms : List Sm} {M U : Nat} (hM : InM (goesM kp) ms M) (hU : InU (keptS kp ss) [] U) (hto : ∀ s ∈ keptS kp ss, ∀ f ∈ s.fixs, 0 ≤ f.to ∧ f.to < ms.length) : U &&& M = 0 ↔ looseS (ms.map (inKept kp)) kp ss = false := by
  rw [loose_none]
  constructor
  · intro h s hs f hf
    obtain ⟨h0, h1⟩ := hto s hs f hf
    obtain ⟨t, ht⟩ := Int.eq_ofNat_of_zero_le h0
    have hb : (U &&& M).testBit t = false := by rw [h]; simp
    rw [Nat.testBit_and, hU.2, hM.2] at hb
    have hu : usedB (keptS kp ss) (t : Int) = true := by
      unfold usedB usesF
      exact List.any_eq_true.2 ⟨s, hs, List.any_eq_true.2 ⟨f, hf, by rw [ht]; simp⟩⟩
    rw [hu, Bool.true_or, Bool.true_and] at hb
    have htl : t < ms.length := by omega
    rw [List.getElem?_eq_getElem htl] at hb
    have hb : goesM kp ms[t] = false := hb
    rw [goesM_kept] at hb
    rw [ht, Int.toNat_natCast, List.getD_eq_getElem?_getD, List.getElem?_map, List.getElem?_eq_getElem htl]
    simpa using hb
  · intro h
    apply Nat.eq_of_testBit_eq
    intro i
    rw [Nat.testBit_and, hU.2, hM.2, Nat.zero_testBit, List.any_nil, Bool.or_false]
    cases hu : usedB (keptS kp ss) (i : Int) with
    | false => rfl
    | true =>
      rw [Bool.true_and]
      unfold usedB at hu
      obtain ⟨s, hs, hus⟩ := List.any_eq_true.1 hu
      obtain ⟨f, hf, hfe⟩ := List.any_eq_true.1 hus
      have hfe : f.to = (i : Int) := of_decide_eq_true hfe
      have h2 := h s hs f hf
      obtain ⟨h0, h1⟩ := hto s hs f hf
      rw [hfe, Int.toNat_natCast, List.getD_eq_getElem?_getD, List.getElem?_map] at h2
      have hil : i < ms.length := by omega
      rw [List.getElem?_eq_getElem hil] at h2 ⊢
      have h2 : inKept kp ms[i] = true := h2
      show goesM kp ms[i] = false
      rw [goesM_kept, h2]; rfl
theorem InM.congr {tq tq' : Sm → Bool} {ms : List Sm} {M : Nat} (h : InM tq ms M) (he : ∀ y, tq y = tq' y) : InM tq' ms M := ⟨h.1, fun i => by rw [h.2 i]; congr 1; congr 1; funext y; exact he y⟩
/-- The symbols' places, numbered anew one by one. -/
def locN (t : Int → Int) (k : Nat) (ms : List Sm) : List Sm := (ms.take k).map (reLoc t) ++ ms.drop k
theorem locN_start (t : Int → Int) (ms : List Sm) : locN t 0 ms = ms := by simp [locN]
theorem locN_length (t : Int → Int) (k : Nat) (ms : List Sm) : (locN t k ms).length = ms.length := by
  unfold locN
  rw [List.length_append, List.length_map, List.length_take, List.length_drop]; omega
theorem locN_at {t : Int → Int} {k : Nat} {ms : List Sm} {m : Sm} (h : ms[k]? = some m) : (locN t k ms)[k]? = some m := by
  have hk := (List.getElem?_eq_some_iff.1 h).1
  unfold locN
  rw [List.getElem?_append_right (by rw [List.length_map, List.length_take]; omega), List.length_map, List.length_take, Nat.min_eq_left (by omega), Nat.sub_self, List.getElem?_drop]
  exact h
theorem locN_next {t : Int → Int} {k : Nat} {ms : List Sm} {m : Sm} (h : ms[k]? = some m) : locN t (k + 1) ms = (locN t k ms).set k (reLoc t m) := by
  have hk := (List.getElem?_eq_some_iff.1 h).1
  unfold locN
  have hl : ((ms.take k).map (reLoc t)).length = k := by rw [List.length_map, List.length_take]; omega
  rw [List.set_append_right _ _ (by omega), hl, Nat.sub_self, List.take_add_one, h]
  have hd : ms.drop k = m :: ms.drop (k + 1) := by
    rw [List.drop_eq_getElem_cons hk]
    rw [List.getElem?_eq_getElem hk] at h
    injection h with h
    rw [h]
  rw [hd]
  simp
theorem locN_all (t : Int → Int) (ms : List Sm) : locN t ms.length ms = ms.map (reLoc t) := by simp [locN]
theorem locN_no {t : Int → Int} {k : Nat} {ms : List Sm} {m : Sm} (h : ms[k]? = some m) (hn : ¬ 0 ≤ m.loc) : locN t (k + 1) ms = locN t k ms := by
  rw [locN_next h]
  unfold reLoc
  rw [if_neg hn]
  have hg := locN_at (t := t) h
  have hk := (List.getElem?_eq_some_iff.1 hg)
  apply List.ext_getElem?
  intro i
  rw [List.getElem?_set]
  split
  · rename_i e; subst e; rw [if_pos hk.1, hg]
  · rfl
theorem locN_yes {t : Int → Int} {k : Nat} {ms : List Sm} {m : Sm} (h : ms[k]? = some m) (h0 : 0 ≤ m.loc) : locN t (k + 1) ms = (locN t k ms).set k { m with loc := t m.loc } := by
  rw [locN_next h]
  unfold reLoc
  rw [if_pos h0]

end Go.Proofs.Ytjpclpjhigongaa

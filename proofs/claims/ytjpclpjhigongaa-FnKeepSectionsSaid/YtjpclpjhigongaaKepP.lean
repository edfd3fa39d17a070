/-
  Keeping sections in plain words: what is left of an object with some of its sections alone is valid.
-/
import Derived.Test.YtjpclpjhigongaaStpP
namespace Go.Proofs.Ytjpclpjhigongaa
open Go.RowKit

/-- Those of the sections that are kept. -/
def keptS : List Bool → List Sx → List Sx
  | b :: bs, s :: ss => if b then s :: keptS bs ss else keptS bs ss
  | _, _ => []
theorem keptS_snoc : ∀ (bs : List Bool) (ss : List Sx) (b : Bool) (s : Sx), bs.length = ss.length → keptS (bs ++ [b]) (ss ++ [s]) = keptS bs ss ++ if b then [s] else []
  | [], [], b, s, _ => by cases b <;> simp [keptS]
  | c :: bs, x :: ss, b, s, h => by
    have ih := keptS_snoc bs ss b s (by simpa using h)
    simp only [List.cons_append, keptS, ih]
    split <;> simp
  | [], _ :: _, _, _, h => by simp at h
  | _ :: _, [], _, _, h => by simp at h
theorem keptS_length : ∀ (bs : List Bool) (ss : List Sx), bs.length = ss.length → (keptS bs ss).length = bs.countP id
  | [], [], _ => by simp [keptS]
  | c :: bs, x :: ss, h => by
    have ih := keptS_length bs ss (by simpa using h)
    cases c <;> simp [keptS, ih]
  | [], _ :: _, h => by simp at h
  | _ :: _, [], h => by simp at h
theorem keptS_mem : ∀ (bs : List Bool) (ss : List Sx) (s : Sx), s ∈ keptS bs ss → ∃ k : Nat, bs[k]? = some true ∧ ss[k]? = some s
  | [], _, _, h => by simp [keptS] at h
  | _ :: _, [], _, h => by simp [keptS] at h
  | b :: bs, x :: ss, s, h => by
    unfold keptS at h
    cases b with
    | true =>
      rw [if_pos rfl] at h
      rcases List.mem_cons.1 h with rfl | h
      · exact ⟨0, rfl, rfl⟩
      · obtain ⟨k, h1, h2⟩ := keptS_mem bs ss s h
        exact ⟨k + 1, by simpa using h1, by simpa using h2⟩
    | false =>
      obtain ⟨k, h1, h2⟩ := keptS_mem bs ss s (by simpa using h)
      exact ⟨k + 1, by simpa using h1, by simpa using h2⟩
/-- How many are kept ahead of one: its new number. -/
theorem keptS_at : ∀ (bs : List Bool) (ss : List Sx) (k : Nat), bs.length = ss.length → bs[k]? = some true → (keptS bs ss)[(bs.take k).countP id]? = ss[k]?
  | [], _, _, _, h => by simp at h
  | _ :: _, [], _, h, _ => by simp at h
  | b :: bs, s :: ss, 0, _, h => by
    have : b = true := by simpa using h
    subst this
    simp [keptS]
  | b :: bs, s :: ss, k + 1, hl, h => by
    have ih := keptS_at bs ss k (by simpa using hl) (by simpa using h)
    rw [List.take_succ_cons, List.countP_cons, List.getElem?_cons_succ]
    cases b with
    | true => rw [show keptS (true :: bs) (s :: ss) = s :: keptS bs ss from rfl]; simpa using ih
    | false => rw [show keptS (false :: bs) (s :: ss) = keptS bs ss from rfl]; simpa using ih
theorem kept_lt : ∀ (bs : List Bool) (k : Nat), bs[k]? = some true → (bs.take k).countP id < bs.countP id
  | [], _, h => by simp at h
  | b :: bs, 0, h => by
    have : b = true := by simpa using h
    subst this
    simp
  | b :: bs, k + 1, h => by
    have ih := kept_lt bs k (by simpa using h)
    rw [List.take_succ_cons, List.countP_cons, List.countP_cons]
    omega
theorem keptN_lt {bs : List Bool} {n : Int} (h : bs[n.toNat]? = some true) : 0 ≤ keptN bs n ∧ keptN bs n < (bs.countP id : Nat) := by
  have := kept_lt bs n.toNat h
  unfold keptN
  omega
/-- All of them are kept. -/
theorem keptS_all : ∀ (bs : List Bool) (ss : List Sx), bs.length = ss.length → (∀ b ∈ bs, b = true) → keptS bs ss = ss
  | [], [], _, _ => rfl
  | b :: bs, s :: ss, h, ha => by
    have hb := ha b (by simp)
    subst hb
    show s :: keptS bs ss = _
    rw [keptS_all bs ss (by simpa using h) (fun x hx => ha x (by simp [hx]))]
  | [], _ :: _, h, _ => by simp at h
  | _ :: _, [], h, _ => by simp at h
theorem keptL_all : ∀ (bs : List Bool) (ms : List Sm), bs.length = ms.length → (∀ b ∈ bs, b = true) → keptL bs ms = ms
  | [], [], _, _ => rfl
  | b :: bs, s :: ss, h, ha => by
    have hb := ha b (by simp)
    subst hb
    show s :: keptL bs ss = _
    rw [keptL_all bs ss (by simpa using h) (fun x hx => ha x (by simp [hx]))]
  | [], _ :: _, h, _ => by simp at h
  | _ :: _, [], h, _ => by simp at h
theorem keptN_all {bs : List Bool} (ha : ∀ b ∈ bs, b = true) {n : Int} (h0 : 0 ≤ n) (hn : n.toNat ≤ bs.length) : keptN bs n = n := by
  unfold keptN
  have e : (bs.take n.toNat).countP id = (bs.take n.toNat).length := by
    rw [List.countP_eq_length]
    intro b hb
    exact ha b (List.mem_of_mem_take hb)
  rw [e, List.length_take]
  omega
/-- A symbol stays, if it is in no section or in one that is kept. -/
def inKept (kp : List Bool) (m : Sm) : Bool := decide (m.loc < 0) || kp.getD m.loc.toNat false
def reLoc (t : Int → Int) (m : Sm) : Sm := if 0 ≤ m.loc then { m with loc := t m.loc } else m
/-- A fixup in a section that is kept uses a symbol in one that is not. -/
def looseS (sb : List Bool) : List Bool → List Sx → Bool
  | b :: bs, s :: ss => (b && s.fixs.any fun f => !sb.getD f.to.toNat false) || looseS sb bs ss
  | _, _ => false
theorem looseS_at (sb : List Bool) : ∀ (bs : List Bool) (ss : List Sx), looseS sb bs ss = false → ∀ (k : Nat) (s : Sx), bs[k]? = some true → ss[k]? = some s → ∀ f ∈ s.fixs, sb.getD f.to.toNat false = true
  | [], _, _, k, _, hb, _, _, _ => by simp at hb
  | _ :: _, [], _, k, _, _, hs, _, _ => by simp at hs
  | b :: bs, s :: ss, h, k, x, hb, hx, f, hf => by
    unfold looseS at h
    rw [Bool.or_eq_false_iff] at h
    cases k with
    | zero =>
      have hb' : b = true := by simpa using hb
      have hx' : s = x := by simpa using hx
      subst hx'
      rw [hb', Bool.true_and, List.any_eq_false] at h
      have := h.1 f hf
      simpa using this
    | succ k => exact looseS_at sb bs ss h.2 k x (by simpa using hb) (by simpa using hx) f hf
/-- What is kept of an object. -/
def keepO (kp : List Bool) (ss : List Sx) (ms : List Sm) : List Sx × List Sm :=
  (keptS kp (ss.map (fixTo (keptN (ms.map (inKept kp))))), (keptL (ms.map (inKept kp)) ms).map (reLoc (keptN kp)))
def keepA (kp : List Bool) (ss : List Sx) (ms : List Sm) : Option (List Sx × List Sm) :=
  if objOk ss ms && !looseS (ms.map (inKept kp)) kp ss then some (keepO kp ss ms) else none
theorem keptL_sub : ∀ (bs : List Bool) (ms : List Sm), (keptL bs ms).Sublist ms
  | [], ms => by simp [keptL]
  | _ :: _, [] => by simp [keptL]
  | b :: bs, m :: ms => by
    unfold keptL
    split
    · exact (keptL_sub bs ms).cons_cons m
    · exact (keptL_sub bs ms).cons m
theorem keptL_stay : ∀ (p : Sm → Bool) (ms : List Sm) (m : Sm), m ∈ keptL (ms.map p) ms → p m = true
  | _, [], m, h => by simp [keptL] at h
  | p, x :: ms, m, h => by
    rw [List.map_cons] at h
    unfold keptL at h
    split at h
    · rename_i hp
      rcases List.mem_cons.1 h with rfl | h
      · exact hp
      · exact keptL_stay p ms m h
    · exact keptL_stay p ms m h
theorem symsOk_of (ss : List Sx) : ∀ (ms d : List Sm), (∀ m ∈ ms, symOk m ss = true) → (∀ x ∈ d, ∀ m ∈ ms, clash x m = false) → ms.Pairwise (fun x y => clash x y = false) → symsOk ss d ms = true
  | [], _, _, _, _ => rfl
  | m :: r, d, h1, h2, h3 => by
    unfold symsOk
    rw [List.pairwise_cons] at h3
    simp only [Bool.and_eq_true, List.all_eq_true, Bool.not_eq_true']
    refine ⟨h1 m (by simp), fun x hx => h2 x hx m (by simp), symsOk_of ss r (d ++ [m]) (fun y hy => h1 y (by simp [hy])) (fun x hx y hy => ?_) h3.2⟩
    rcases List.mem_append.1 hx with hx | hx
    · exact h2 x hx y (by simp [hy])
    · have := List.mem_singleton.1 hx
      rw [this]
      exact h3.1 y hy
theorem fixsOk_to {n many many' : Int} {t : Int → Int} : ∀ (e : Int) (fs : List Fx), fixsOk n many e fs = true → (∀ f ∈ fs, 0 ≤ t f.to ∧ t f.to < many') → fixsOk n many' e (fs.map fun f => f.re (t f.to)) = true
  | _, [], _, _ => rfl
  | e, f :: r, h, ht => by
    simp only [fixsOk, Bool.and_eq_true] at h
    rw [List.map_cons]
    simp only [fixsOk, Bool.and_eq_true]
    refine ⟨?_, fixsOk_to _ r h.2 (fun g hg => ht g (by simp [hg]))⟩
    have h0 := ht f (by simp)
    have h1 := h.1
    unfold fixOk at h1 ⊢
    simp only [Bool.and_eq_true, decide_eq_true_eq] at h1 ⊢
    exact ⟨⟨⟨⟨h1.1.1.1.1, h0.1⟩, h0.2⟩, h1.1.2⟩, h1.2⟩
theorem sectOk_to {s : Sx} {many many' : Int} {t : Int → Int} (h : sectOk s many = true) (ht : ∀ f ∈ s.fixs, 0 ≤ t f.to ∧ t f.to < many') : sectOk (fixTo t s) many' = true := by
  unfold sectOk at h ⊢
  unfold fixTo
  simp only [List.length_map]
  simp only [Bool.and_eq_true] at h ⊢
  refine ⟨h.1, ?_⟩
  have h2 := h.2
  split
  · rename_i hk
    rw [if_pos hk] at h2
    exact h2
  · rename_i hk
    rw [if_neg hk] at h2
    simp only [Bool.and_eq_true] at h2 ⊢
    exact ⟨fixsOk_to 0 s.fixs h2.1 ht, h2.2⟩
theorem long_fixTo (t : Int → Int) (s : Sx) : (fixTo t s).long = s.long := rfl
/-- What is kept is valid. -/
theorem keep_valid {kp : List Bool} {ss : List Sx} {ms : List Sm} (h : objOk ss ms = true) (hk : kp.length = ss.length) (hl : looseS (ms.map (inKept kp)) kp ss = false) : objOk (keepO kp ss ms).1 (keepO kp ss ms).2 = true := by
  have hsb : (ms.map (inKept kp)).length = ms.length := List.length_map _
  have hkl : (keptL (ms.map (inKept kp)) ms).length = (ms.map (inKept kp)).countP id := keptL_length _ _ hsb
  have hks : (keptS kp (ss.map (fixTo (keptN (ms.map (inKept kp)))))).length = kp.countP id := keptS_length _ _ (by rw [List.length_map]; exact hk)
  unfold objOk at h
  simp only [Bool.and_eq_true, decide_eq_true_eq, List.all_eq_true] at h
  obtain ⟨g1, g2, g3, g4⟩ := h
  obtain ⟨k1, _, k3⟩ := symsOk_told ss ms [] g2
  unfold objOk keepO
  simp only [Bool.and_eq_true, decide_eq_true_eq, List.all_eq_true, List.length_map]
  refine ⟨fun s hs => ?_, symsOk_of _ _ _ (fun m hm => ?_) (fun x hx => by cases hx) ?_, ?_, ?_⟩
  · obtain ⟨k, hb, hx⟩ := keptS_mem _ _ s hs
    rw [List.getElem?_map] at hx
    obtain ⟨y, hy, rfl⟩ := Option.map_eq_some_iff.1 hx
    refine sectOk_to (g1 y (List.mem_of_getElem? hy)) (fun f hf => ?_)
    have hf2 := looseS_at _ kp ss hl k y hb hy f hf
    rw [hkl]
    refine keptN_lt ?_
    rw [List.getD_eq_getElem?_getD] at hf2
    cases hq : (ms.map (inKept kp))[f.to.toNat]? with
    | none => rw [hq] at hf2; cases hf2
    | some b => rw [hq] at hf2; exact congrArg some hf2
  · obtain ⟨x, hx, rfl⟩ := List.mem_map.1 hm
    have hxm := keptL_mem _ _ x hx
    have hst := keptL_stay (inKept kp) ms x hx
    have ho := k1 x hxm
    unfold reLoc
    split
    · rename_i h0
      unfold symOk at ho ⊢
      rw [if_neg (by omega), if_neg (by omega)] at ho
      simp only [Bool.and_eq_true, decide_eq_true_eq] at ho
      unfold inKept at hst
      rw [decide_eq_false (by omega), Bool.false_or, List.getD_eq_getElem?_getD] at hst
      have hkb : kp[x.loc.toNat]? = some true := by
        cases hq : kp[x.loc.toNat]? with
        | none => rw [hq] at hst; cases hst
        | some b => rw [hq] at hst; exact congrArg some hst
      have hlt := keptN_lt hkb
      have hat := keptS_at kp (ss.map (fixTo (keptN (ms.map (inKept kp))))) x.loc.toNat (by rw [List.length_map]; exact hk) hkb
      rw [List.getElem?_map] at hat
      dsimp only
      rw [if_neg (by omega), if_neg (by omega)]
      simp only [Bool.and_eq_true, decide_eq_true_eq]
      refine ⟨ho.1, ⟨hlt.1, by rw [hks]; exact hlt.2⟩, ho.2.2.1, ?_⟩
      have hN : (keptN kp x.loc).toNat = (kp.take x.loc.toNat).countP id := by unfold keptN; omega
      rw [hN, hat, Option.map_map]
      exact ho.2.2.2
    · rename_i h0
      unfold symOk at ho ⊢
      by_cases h1 : x.loc = -1
      · rw [if_pos h1] at ho ⊢; exact ho
      · by_cases h2 : x.loc = -2
        · rw [if_neg h1, if_pos h2] at ho ⊢; exact ho
        · rw [if_neg h1, if_neg h2] at ho
          simp only [Bool.and_eq_true, decide_eq_true_eq] at ho
          exact absurd ho.2.1.1 h0
  · rw [List.pairwise_map]
    refine List.Pairwise.imp ?_ (k3.sublist (keptL_sub _ _))
    intro a b hab
    unfold clash at hab ⊢
    have hn : ∀ m : Sm, (reLoc (keptN kp) m).name = m.name := fun m => by unfold reLoc; split <;> rfl
    have hbd : ∀ m : Sm, (reLoc (keptN kp) m).bind = m.bind := fun m => by unfold reLoc; split <;> rfl
    rw [hn, hn, hbd, hbd]
    exact hab
  · rw [hks]
    have : kp.countP id ≤ kp.length := List.countP_le_length
    omega
  · have := keptL_le (ms.map (inKept kp)) ms hsb
    omega

end Go.Proofs.Ytjpclpjhigongaa

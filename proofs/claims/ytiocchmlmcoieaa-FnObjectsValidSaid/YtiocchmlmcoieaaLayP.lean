/-
  Layouts in plain words: where sections are put, one behind the other; no two of them meet.
-/
import Derived.Test.YtiocchmlmcoieaaLnkV
import Derived.Test.YtiocchmlmcoieaaNum
namespace Go.Proofs.Ytiocchmlmcoieaa
open Go.RowKit

def alOk (d : Int) : Prop := d = 1 ∨ d = 2 ∨ d = 4 ∨ d = 8
theorem upTo_is {n d : Int} (h : alOk d) (h0 : 0 ≤ n) (h1 : n ≤ 1000000) : n ≤ upTo n d ∧ upTo n d ≤ n + 7 ∧ upTo n d % d = 0 := by
  unfold alOk at h
  unfold upTo
  rw [if_neg (by omega), if_pos h]
  rcases h with rfl | rfl | rfl | rfl <;> refine ⟨?_, ?_, ?_⟩ <;> omega
theorem upTo_bd (n d : Int) : -1 ≤ upTo n d ∧ upTo n d ≤ 1000007 := by
  unfold upTo
  split
  · omega
  · split
    · rename_i h
      rcases h with rfl | rfl | rfl | rfl <;> omega
    · omega
/-- A section with the numbers of its object and of itself. -/
structure Pk where
  k : Nat
  j : Nat
  s : Sx
def Pk.ok (p : Pk) : Prop := alOk p.s.align ∧ 0 ≤ p.s.long ∧ p.s.long ≤ 48
/-- The first sections: all of the first objects, and the first ones of the next one. -/
def pksOf (k : Nat) (ss : List Sx) : List Pk := ss.mapIdx fun j s => ⟨k, j, s⟩
def pksUp (Ss : List (List Sx)) (k : Nat) : List Pk := (List.range k).flatMap fun i => pksOf i (Ss.getD i [])
def pksAt (Ss : List (List Sx)) (k j : Nat) : List Pk := pksUp Ss k ++ (pksOf k (Ss.getD k [])).take j
theorem pksUp_zero (Ss : List (List Sx)) : pksUp Ss 0 = [] := rfl
theorem pksAt_zero (Ss : List (List Sx)) (k : Nat) : pksAt Ss k 0 = pksUp Ss k := by unfold pksAt; simp
theorem pksOf_length (k : Nat) (ss : List Sx) : (pksOf k ss).length = ss.length := by unfold pksOf; simp
theorem pksUp_succ (Ss : List (List Sx)) (k : Nat) : pksUp Ss (k + 1) = pksUp Ss k ++ pksOf k (Ss.getD k []) := by
  unfold pksUp
  rw [List.range_succ, List.flatMap_append]
  simp only [List.flatMap_cons, List.flatMap_nil, List.append_nil]
theorem pksAt_all {Ss : List (List Sx)} {k j : Nat} {ss : List Sx} (h : Ss[k]? = some ss) (hj : ss.length ≤ j) : pksAt Ss k j = pksUp Ss (k + 1) := by
  have e : Ss.getD k [] = ss := by rw [List.getD_eq_getElem?_getD, h]; rfl
  rw [pksUp_succ]
  unfold pksAt
  rw [e, List.take_of_length_le (by rw [pksOf_length]; exact hj)]
theorem pksAt_next {Ss : List (List Sx)} {k j : Nat} {ss : List Sx} {s : Sx} (h : Ss[k]? = some ss) (hm : ss[j]? = some s) : pksAt Ss k (j + 1) = pksAt Ss k j ++ [⟨k, j, s⟩] := by
  have e : Ss.getD k [] = ss := by rw [List.getD_eq_getElem?_getD, h]; rfl
  have h2 : (pksOf k ss)[j]? = some ⟨k, j, s⟩ := by
    unfold pksOf
    rw [List.getElem?_mapIdx, hm]; rfl
  unfold pksAt
  rw [e, List.take_add_one, h2, List.append_assoc]
  rfl
theorem mem_pksUp {Ss : List (List Sx)} {n : Nat} {x : Pk} : x ∈ pksUp Ss n ↔ x.k < n ∧ ∃ ss, Ss[x.k]? = some ss ∧ ss[x.j]? = some x.s := by
  unfold pksUp pksOf
  rw [List.mem_flatMap]
  constructor
  · rintro ⟨k, hk, hx⟩
    rw [List.mem_range] at hk
    rw [List.mem_mapIdx] at hx
    obtain ⟨j, hj, rfl⟩ := hx
    have hl : k < Ss.length := by
      rcases Nat.lt_or_ge k Ss.length with h | h
      · exact h
      · rw [List.getD_eq_getElem?_getD, List.getElem?_eq_none h] at hj; simp at hj
    have e : Ss[k]? = some (Ss.getD k []) := by rw [List.getD_eq_getElem?_getD, List.getElem?_eq_getElem hl]; rfl
    exact ⟨hk, _, e, List.getElem?_eq_getElem hj⟩
  · rintro ⟨h1, ms, h2, h3⟩
    refine ⟨x.k, List.mem_range.2 h1, ?_⟩
    have e : Ss.getD x.k [] = ms := by rw [List.getD_eq_getElem?_getD, h2]; rfl
    rw [e, List.mem_mapIdx]
    obtain ⟨hj, hm⟩ := List.getElem?_eq_some_iff.1 h3
    exact ⟨x.j, hj, by rw [hm]⟩
def Pk.lt (p q : Pk) : Prop := p.k < q.k ∨ (p.k = q.k ∧ p.j < q.j)
theorem pksUp_pair (Ss : List (List Sx)) : ∀ n, (pksUp Ss n).Pairwise Pk.lt := by
  intro n
  induction n with
  | zero => exact .nil
  | succ n ih =>
    rw [pksUp_succ, List.pairwise_append]
    refine ⟨ih, ?_, ?_⟩
    · rw [List.pairwise_iff_getElem]
      intro i j hi hj hij
      unfold pksOf at hi hj ⊢
      rw [List.getElem_mapIdx, List.getElem_mapIdx]
      exact .inr ⟨rfl, hij⟩
    · intro p hp q hq
      have h1 := (mem_pksUp.1 hp).1
      unfold pksOf at hq
      rw [List.mem_mapIdx] at hq
      obtain ⟨j, hj, rfl⟩ := hq
      exact .inl h1
theorem pksUp_prefix (Ss : List (List Sx)) {m : Nat} : ∀ {n : Nat}, m ≤ n → pksUp Ss m <+: pksUp Ss n := by
  intro n
  induction n with
  | zero =>
    intro h
    obtain rfl : m = 0 := by omega
    exact List.prefix_refl _
  | succ n ih =>
    intro h
    rcases Nat.lt_or_ge n m with h1 | h1
    · obtain rfl : m = n + 1 := by omega
      exact List.prefix_refl _
    · rw [pksUp_succ]
      exact (ih h1).trans (List.prefix_append _ _)
theorem pks_split {Ss : List (List Sx)} {k j n : Nat} {ss : List Sx} {s : Sx} (hk : k < n) (h : Ss[k]? = some ss) (hm : ss[j]? = some s) : ∃ r, pksUp Ss n = pksAt Ss k j ++ ⟨k, j, s⟩ :: r := by
  have e : Ss.getD k [] = ss := by rw [List.getD_eq_getElem?_getD, h]; rfl
  have h1 : pksAt Ss k (j + 1) <+: pksUp Ss (k + 1) := by
    rw [pksUp_succ]
    unfold pksAt
    rw [List.prefix_append_right_inj]
    exact List.take_prefix _ _
  obtain ⟨r, hr⟩ := h1.trans (pksUp_prefix Ss (by omega : k + 1 ≤ n))
  refine ⟨r, ?_⟩
  rw [← hr, pksAt_next h hm, List.append_assoc]
  rfl
/-- The number at a place of a list of lists. -/
def at2 (pl : List (List Int)) (k j : Nat) : Int := (pl.getD k []).getD j 0
def put2 (pl : List (List Int)) (k j : Nat) (v : Int) : List (List Int) := pl.set k ((pl.getD k []).set j v)
theorem put2_same {pl : List (List Int)} {k j : Nat} {v : Int} (hk : k < pl.length) (hj : j < (pl.getD k []).length) : at2 (put2 pl k j v) k j = v := by
  unfold at2 put2
  simp [List.getD_eq_getElem?_getD, hk]
  rw [List.getD_eq_getElem?_getD, List.getElem?_eq_getElem hk] at hj
  simp at hj
  simp [hj]
theorem put2_other {pl : List (List Int)} {k j k' j' : Nat} {v : Int} (h : k ≠ k' ∨ j ≠ j') : at2 (put2 pl k j v) k' j' = at2 pl k' j' := by
  unfold at2 put2
  simp only [List.getD_eq_getElem?_getD, List.getElem?_set]
  by_cases e : k = k'
  · subst e
    have hj : j ≠ j' := by rcases h with h | h; exact absurd rfl h; exact h
    by_cases hk : k < pl.length
    · simp [hk, hj]
    · simp [hk]
  · simp [e]
theorem put2_lens {pl : List (List Int)} {k j : Nat} {v : Int} : (put2 pl k j v).map List.length = pl.map List.length := by
  unfold put2
  apply List.ext_getElem?
  intro i
  rw [List.getElem?_map, List.getElem?_map, List.getElem?_set]
  by_cases e : k = i
  · subst e
    by_cases hk : k < pl.length
    · simp [hk, List.getD_eq_getElem?_getD]
    · simp [hk]
  · simp [e]
/-- Places of sections, and the place behind the last one. -/
structure Lo where
  pl : List (List Int)
  e : Int
def Lo.step (x : Lo) (p : Pk) : Lo := ⟨put2 x.pl p.k p.j (upTo x.e p.s.align), upTo x.e p.s.align + p.s.long⟩
def Lo.run (x : Lo) (ps : List Pk) : Lo := ps.foldl Lo.step x
theorem Lo.run_nil (x : Lo) : x.run [] = x := rfl
theorem Lo.run_snoc (x : Lo) (ps : List Pk) (p : Pk) : x.run (ps ++ [p]) = (x.run ps).step p := by unfold Lo.run; rw [List.foldl_append]; rfl
theorem Lo.run_append (x : Lo) (ps qs : List Pk) : x.run (ps ++ qs) = (x.run ps).run qs := by unfold Lo.run; rw [List.foldl_append]
theorem Lo.run_lens (x : Lo) : ∀ ps, (x.run ps).pl.map List.length = x.pl.map List.length := by
  intro ps
  induction ps generalizing x with
  | nil => rfl
  | cons p r ih => show (((x.step p).run r).pl).map List.length = _; rw [ih]; exact put2_lens
def inR (Ls : List Nat) (p : Pk) : Prop := p.k < Ls.length ∧ p.j < Ls.getD p.k 0
theorem inR_at {pl : List (List Int)} {p : Pk} (h : inR (pl.map List.length) p) : p.k < pl.length ∧ p.j < (pl.getD p.k []).length := by
  obtain ⟨h1, h2⟩ := h
  rw [List.length_map] at h1
  refine ⟨h1, ?_⟩
  rw [List.getD_eq_getElem?_getD, List.getElem?_map, List.getElem?_eq_getElem h1] at h2
  rw [List.getD_eq_getElem?_getD, List.getElem?_eq_getElem h1]
  exact h2
structure Ran (x y : Lo) (ps : List Pk) : Prop where
  low : x.e ≤ y.e
  high : y.e ≤ x.e + 55 * (ps.length : Int)
  far : ∀ k j, (∀ p ∈ ps, p.k ≠ k ∨ p.j ≠ j) → at2 y.pl k j = at2 x.pl k j
  inn : ∀ p ∈ ps, x.e ≤ at2 y.pl p.k p.j ∧ at2 y.pl p.k p.j + p.s.long ≤ y.e ∧ at2 y.pl p.k p.j % p.s.align = 0
  two : ps.Pairwise (fun p q => at2 y.pl p.k p.j + p.s.long ≤ at2 y.pl q.k q.j)
theorem snocL {α : Type} {p : List α → Prop} (h0 : p []) (h1 : ∀ l x, p l → p (l ++ [x])) : ∀ l, p l := fun l => by
  rw [← List.reverse_reverse l]
  induction l.reverse with
  | nil => exact h0
  | cons x r ih => rw [List.reverse_cons]; exact h1 _ _ ih
theorem Pk.lt.ne {p q : Pk} (h : p.lt q) : q.k ≠ p.k ∨ q.j ≠ p.j := by
  unfold Pk.lt at h
  omega
theorem ran {x : Lo} (h0 : 0 ≤ x.e) (h1 : x.e ≤ 100000) : ∀ ps : List Pk, ps.length ≤ 1000 → ps.Pairwise Pk.lt → (∀ p ∈ ps, p.ok ∧ inR (x.pl.map List.length) p) → Ran x (x.run ps) ps :=
  snocL (fun _ _ _ => ⟨Int.le_refl _, by rw [Lo.run_nil]; simp, fun _ _ _ => rfl, by simp, .nil⟩) fun ps p ih hl hp ho => by
    rw [List.length_append, List.length_singleton] at hl
    rw [List.pairwise_append] at hp
    obtain ⟨hp1, _, hp3⟩ := hp
    have R := ih (by omega) hp1 fun q hq => ho q (List.mem_append.2 (.inl hq))
    obtain ⟨⟨ha, hl0, hl1⟩, hr⟩ := ho p (List.mem_append.2 (.inr (by simp)))
    rw [← Lo.run_lens x ps] at hr
    obtain ⟨r1, r2⟩ := inR_at hr
    rw [Lo.run_snoc]
    obtain ⟨y, hy⟩ : ∃ y, x.run ps = y := ⟨_, rfl⟩
    rw [hy] at R r1 r2 ⊢
    have hye0 := R.low
    have hye1 := R.high
    obtain ⟨u1, u2, u3⟩ := upTo_is (n := y.e) ha (by omega) (by omega)
    obtain ⟨a, hu⟩ : ∃ a, upTo y.e p.s.align = a := ⟨_, rfl⟩
    unfold Lo.step
    rw [hu] at u1 u2 u3 ⊢
    have hsame : at2 (put2 y.pl p.k p.j a) p.k p.j = a := put2_same r1 r2
    have hold : ∀ q ∈ ps, at2 (put2 y.pl p.k p.j a) q.k q.j = at2 y.pl q.k q.j := fun q hq => put2_other (hp3 q hq p (by simp)).ne
    refine ⟨?_, ?_, ?_, ?_, ?_⟩
    · show x.e ≤ a + p.s.long
      omega
    · show a + p.s.long ≤ _
      rw [List.length_append, List.length_singleton]
      omega
    · intro k j hkj
      show at2 (put2 y.pl p.k p.j a) k j = _
      rw [put2_other (hkj p (by simp))]
      exact R.far k j fun q hq => hkj q (List.mem_append.2 (.inl hq))
    · intro q hq
      show x.e ≤ at2 (put2 y.pl p.k p.j a) q.k q.j ∧ at2 (put2 y.pl p.k p.j a) q.k q.j + q.s.long ≤ a + p.s.long ∧ at2 (put2 y.pl p.k p.j a) q.k q.j % q.s.align = 0
      rcases List.mem_append.1 hq with hq | hq
      · rw [hold q hq]
        obtain ⟨i1, i2, i3⟩ := R.inn q hq
        exact ⟨i1, by omega, i3⟩
      · simp only [List.mem_singleton] at hq
        subst hq
        rw [hsame]
        exact ⟨by omega, Int.le_refl _, u3⟩
    · show (ps ++ [p]).Pairwise (fun p' q => at2 (put2 y.pl p.k p.j a) p'.k p'.j + p'.s.long ≤ at2 (put2 y.pl p.k p.j a) q.k q.j)
      rw [List.pairwise_append]
      refine ⟨?_, List.pairwise_singleton _ _, ?_⟩
      · refine R.two.imp_of_mem fun hp' hq' h => ?_
        rw [hold _ hp', hold _ hq']
        exact h
      · intro q hq z hz
        simp only [List.mem_singleton] at hz
        subst hz
        rw [hold q hq, hsame]
        have := (R.inn q hq).2.1
        omega
/-- The sections of a kind. -/
def kindL (ps : List Pk) (k : Int) : List Pk := ps.filter fun p => decide (p.s.kind = k)
theorem kindL_yes {ps : List Pk} {p : Pk} {k : Int} (h : p.s.kind = k) : kindL (ps ++ [p]) k = kindL ps k ++ [p] := by unfold kindL; rw [List.filter_append]; simp [h]
theorem kindL_no {ps : List Pk} {p : Pk} {k : Int} (h : p.s.kind ≠ k) : kindL (ps ++ [p]) k = kindL ps k := by unfold kindL; rw [List.filter_append]; simp [h]
def Lo.up (x : Lo) : Lo := ⟨x.pl, upTo x.e 8⟩
def zerosL (Ss : List (List Sx)) : List (List Int) := Ss.map fun ss => List.replicate ss.length 0
/-- The layout of the first kinds. -/
def layK (Ss : List (List Sx)) (base : Int) : Nat → Lo
  | 0 => ⟨zerosL Ss, base⟩
  | n + 1 => ((layK Ss base n).up).run (kindL (pksUp Ss Ss.length) ((n : Int) + 1))
theorem layK_lens (Ss : List (List Sx)) (base : Int) : ∀ n, (layK Ss base n).pl.map List.length = Ss.map List.length
  | 0 => by
    show (zerosL Ss).map List.length = _
    unfold zerosL
    simp
  | n + 1 => by
    show ((((layK Ss base n).up).run _).pl).map List.length = _
    rw [Lo.run_lens]
    exact layK_lens Ss base n
/-- Sections that can be laid out. -/
structure Fine (Ss : List (List Sx)) (base : Int) : Prop where
  few : Ss.length ≤ 4
  each : ∀ ss ∈ Ss, ss.length ≤ 8
  ok : ∀ ss ∈ Ss, ∀ s ∈ ss, alOk s.align ∧ (0 ≤ s.long ∧ s.long ≤ 48) ∧ 1 ≤ s.kind ∧ s.kind ≤ 3
  b0 : 0 ≤ base
  b1 : base ≤ 4096
theorem pksUp_few {Ss : List (List Sx)} (h : ∀ ss ∈ Ss, ss.length ≤ 8) : ∀ n, (pksUp Ss n).length ≤ 8 * n := by
  intro n
  induction n with
  | zero => simp [pksUp_zero]
  | succ n ih =>
    rw [pksUp_succ, List.length_append, pksOf_length]
    have : (Ss.getD n []).length ≤ 8 := by
      rw [List.getD_eq_getElem?_getD]
      rcases hq : Ss[n]? with _ | ss
      · simp
      · exact h ss (List.mem_of_getElem? hq)
    omega
section
variable {Ss : List (List Sx)} {base : Int}
theorem Fine.pk (h : Fine Ss base) {p : Pk} (hp : p ∈ pksUp Ss Ss.length) : p.ok ∧ inR (Ss.map List.length) p ∧ 1 ≤ p.s.kind ∧ p.s.kind ≤ 3 := by
  obtain ⟨h1, ss, h2, h3⟩ := mem_pksUp.1 hp
  obtain ⟨a, ⟨b, c⟩, d, e⟩ := h.ok ss (List.mem_of_getElem? h2) p.s (List.mem_of_getElem? h3)
  refine ⟨⟨a, b, c⟩, ⟨by rw [List.length_map]; exact h1, ?_⟩, d, e⟩
  rw [List.getD_eq_getElem?_getD, List.getElem?_map, h2]
  exact (List.getElem?_eq_some_iff.1 h3).1
theorem Fine.few2 (h : Fine Ss base) (k : Int) : (kindL (pksUp Ss Ss.length) k).length ≤ 32 := by
  have h1 := pksUp_few h.each Ss.length
  have h2 := List.length_filter_le (fun p : Pk => decide (p.s.kind = k)) (pksUp Ss Ss.length)
  have := h.few
  unfold kindL
  omega
theorem kindL_mem {ps : List Pk} {k : Int} {p : Pk} : p ∈ kindL ps k ↔ p ∈ ps ∧ p.s.kind = k := by unfold kindL; simp
/-- What has been laid out so far. -/
structure Laid (Ss : List (List Sx)) (base : Int) (n : Nat) : Prop where
  e0 : base ≤ (layK Ss base n).e
  e1 : (layK Ss base n).e ≤ base + 2000 * (n : Int)
  inn : ∀ p ∈ pksUp Ss Ss.length, p.s.kind ≤ n → base ≤ at2 (layK Ss base n).pl p.k p.j ∧ at2 (layK Ss base n).pl p.k p.j + p.s.long ≤ (layK Ss base n).e ∧ at2 (layK Ss base n).pl p.k p.j % p.s.align = 0
  two : ∀ p ∈ pksUp Ss Ss.length, ∀ q ∈ pksUp Ss Ss.length, p.lt q → p.s.kind ≤ n → q.s.kind ≤ n → at2 (layK Ss base n).pl p.k p.j + p.s.long ≤ at2 (layK Ss base n).pl q.k q.j ∨ at2 (layK Ss base n).pl q.k q.j + q.s.long ≤ at2 (layK Ss base n).pl p.k p.j
theorem Fine.ran (h : Fine Ss base) {n : Nat} (hn : n < 3) (L : Laid Ss base n) : Ran (layK Ss base n).up (layK Ss base (n + 1)) (kindL (pksUp Ss Ss.length) ((n : Int) + 1)) := by
  have h1 := h.b0
  have h2 := h.b1
  have h3 := L.e0
  have h4 := L.e1
  obtain ⟨u1, u2, -⟩ := upTo_is (n := (layK Ss base n).e) (d := 8) (.inr (.inr (.inr rfl))) (by omega) (by omega)
  have hf := h.few2 ((n : Int) + 1)
  refine Go.Proofs.Ytiocchmlmcoieaa.ran (x := (layK Ss base n).up) ?_ ?_ _ (by omega) ((pksUp_pair Ss Ss.length).filter _) fun p hp => ?_
  · show 0 ≤ upTo _ 8; omega
  · show upTo _ 8 ≤ _; omega
  · obtain ⟨k1, k2, _⟩ := h.pk (kindL_mem.1 hp).1
    refine ⟨k1, ?_⟩
    show inR ((layK Ss base n).pl.map List.length) p
    rw [layK_lens]; exact k2
theorem pairs {α : Type} {R : α → α → Prop} {l : List α} (h : l.Pairwise R) {x y : α} (hx : x ∈ l) (hy : y ∈ l) : x = y ∨ R x y ∨ R y x := by
  obtain ⟨i, hi, rfl⟩ := List.getElem_of_mem hx
  obtain ⟨j, hj, rfl⟩ := List.getElem_of_mem hy
  rw [List.pairwise_iff_getElem] at h
  rcases Nat.lt_trichotomy i j with hij | hij | hij
  · exact .inr (.inl (h i j hi hj hij))
  · subst hij; exact .inl rfl
  · exact .inr (.inr (h j i hj hi hij))
theorem Fine.laid (h : Fine Ss base) : ∀ n, n ≤ 3 → Laid Ss base n := by
  intro n
  induction n with
  | zero =>
    intro _
    refine ⟨Int.le_refl _, by show base ≤ _; simp, fun p hp hk => ?_, fun p hp q hq _ hk _ => ?_⟩
    · have := (h.pk hp).2.2.1; omega
    · have := (h.pk hp).2.2.1; omega
  | succ n ih =>
    intro hn
    have L := ih (by omega)
    have R := h.ran (by omega) L
    have h1 := h.b0
    have h2 := h.b1
    have h3 := L.e0
    have h4 := L.e1
    have hf := h.few2 ((n : Int) + 1)
    have hlow : upTo (layK Ss base n).e 8 ≤ (layK Ss base (n + 1)).e := R.low
    have hhigh : (layK Ss base (n + 1)).e ≤ upTo (layK Ss base n).e 8 + 55 * ((kindL (pksUp Ss Ss.length) ((n : Int) + 1)).length : Int) := R.high
    obtain ⟨u1, u2, -⟩ := upTo_is (n := (layK Ss base n).e) (d := 8) (.inr (.inr (.inr rfl))) (by omega) (by omega)
    have hold : ∀ p ∈ pksUp Ss Ss.length, p.s.kind ≤ n → at2 (layK Ss base (n + 1)).pl p.k p.j = at2 (layK Ss base n).pl p.k p.j := fun p hp hk => by
      refine R.far p.k p.j fun q hq => ?_
      obtain ⟨q1, q2⟩ := kindL_mem.1 hq
      rcases pairs (pksUp_pair Ss Ss.length) hp q1 with e | e | e
      · subst e; omega
      · exact e.ne
      · have := e.ne; omega
    have hnew : ∀ p ∈ pksUp Ss Ss.length, ¬ p.s.kind ≤ n → p.s.kind ≤ (n + 1 : Nat) → p ∈ kindL (pksUp Ss Ss.length) ((n : Int) + 1) := fun p hp h1 h2 => kindL_mem.2 ⟨hp, by omega⟩
    have hinn : ∀ p ∈ kindL (pksUp Ss Ss.length) ((n : Int) + 1), upTo (layK Ss base n).e 8 ≤ at2 (layK Ss base (n + 1)).pl p.k p.j ∧ at2 (layK Ss base (n + 1)).pl p.k p.j + p.s.long ≤ (layK Ss base (n + 1)).e ∧ at2 (layK Ss base (n + 1)).pl p.k p.j % p.s.align = 0 := R.inn
    refine ⟨by omega, by omega, fun p hp hk => ?_, fun p hp q hq hlt hkp hkq => ?_⟩
    · by_cases ho : p.s.kind ≤ n
      · rw [hold p hp ho]
        obtain ⟨a, b, c⟩ := L.inn p hp ho
        exact ⟨a, by omega, c⟩
      · obtain ⟨a, b, c⟩ := hinn p (hnew p hp ho hk)
        exact ⟨by omega, b, c⟩
    · by_cases hp1 : p.s.kind ≤ n
      · by_cases hq1 : q.s.kind ≤ n
        · rw [hold p hp hp1, hold q hq hq1]
          exact L.two p hp q hq hlt hp1 hq1
        · rw [hold p hp hp1]
          have a := (L.inn p hp hp1).2.1
          have b := (hinn q (hnew q hq hq1 hkq)).1
          exact .inl (by omega)
      · by_cases hq1 : q.s.kind ≤ n
        · rw [hold q hq hq1]
          have a := (L.inn q hq hq1).2.1
          have b := (hinn p (hnew p hp hp1 hkp)).1
          exact .inr (by omega)
        · rcases pairs R.two (hnew p hp hp1 hkp) (hnew q hq hq1 hkq) with e | e | e
          · subst e
            unfold Pk.lt at hlt
            omega
          · exact .inl e
          · exact .inr e
/-- The place of a section of the kinds that are laid out stays. -/
theorem Fine.stays (h : Fine Ss base) {p : Pk} (hp : p ∈ pksUp Ss Ss.length) {m : Nat} (hk : p.s.kind ≤ m) : ∀ n, m ≤ n → n ≤ 3 → at2 (layK Ss base n).pl p.k p.j = at2 (layK Ss base m).pl p.k p.j := by
  intro n
  induction n with
  | zero =>
    intro h1 _
    obtain rfl : m = 0 := by omega
    rfl
  | succ n ih =>
    intro h1 h2
    rcases Nat.lt_or_ge n m with h3 | h3
    · obtain rfl : m = n + 1 := by omega
      rfl
    · rw [← ih h3 (by omega)]
      have R := h.ran (by omega) (h.laid n (by omega))
      refine R.far p.k p.j fun q hq => ?_
      obtain ⟨q1, q2⟩ := kindL_mem.1 hq
      rcases pairs (pksUp_pair Ss Ss.length) hp q1 with e | e | e
      · subst e; omega
      · exact e.ne
      · have := e.ne; omega
/-- A section is between the ends of its kind. -/
theorem Fine.between (h : Fine Ss base) {p : Pk} (hp : p ∈ pksUp Ss Ss.length) {m : Nat} (hk : p.s.kind = (m : Int) + 1) : upTo (layK Ss base m).e 8 ≤ at2 (layK Ss base 3).pl p.k p.j ∧ at2 (layK Ss base 3).pl p.k p.j + p.s.long ≤ (layK Ss base (m + 1)).e := by
  have hb := (h.pk hp).2.2
  have R := h.ran (n := m) (by omega) (h.laid m (by omega))
  rw [h.stays hp (m := m + 1) (by omega) 3 (by omega) (Nat.le_refl _)]
  obtain ⟨a, b, _⟩ := R.inn p (kindL_mem.2 ⟨hp, hk⟩)
  exact ⟨a, b⟩
/-- Where a section is put, told by those of its kind ahead of it. -/
theorem Fine.place (h : Fine Ss base) {k j : Nat} {ss : List Sx} {s : Sx} (h1 : Ss[k]? = some ss) (h2 : ss[j]? = some s) {m : Nat} (hk : s.kind = (m : Int) + 1) : at2 (layK Ss base 3).pl k j = upTo ((layK Ss base m).up.run (kindL (pksAt Ss k j) ((m : Int) + 1))).e s.align := by
  have hkl := (List.getElem?_eq_some_iff.1 h1).1
  have hp : (⟨k, j, s⟩ : Pk) ∈ pksUp Ss Ss.length := mem_pksUp.2 ⟨hkl, ss, h1, h2⟩
  have hb := (h.pk hp).2.2
  have hb1 : 1 ≤ s.kind := hb.1
  have hb2 : s.kind ≤ 3 := hb.2
  rw [h.stays hp (m := m + 1) (by show s.kind ≤ _; omega) 3 (by omega) (Nat.le_refl _)]
  obtain ⟨r, hr⟩ := pks_split hkl h1 h2
  have hpair := (pksUp_pair Ss Ss.length).filter (fun p : Pk => decide (p.s.kind = (m : Int) + 1))
  have e1 : kindL (pksUp Ss Ss.length) ((m : Int) + 1) = kindL (pksAt Ss k j) ((m : Int) + 1) ++ ⟨k, j, s⟩ :: kindL r ((m : Int) + 1) := by
    rw [hr]
    unfold kindL
    rw [List.filter_append, List.filter_cons, if_pos (by simp [hk])]
  have L := h.laid m (by omega)
  have h01 := h.b0
  have h02 := h.b1
  have h03 := L.e0
  have h04 := L.e1
  obtain ⟨u1, u2, -⟩ := upTo_is (n := (layK Ss base m).e) (d := 8) (.inr (.inr (.inr rfl))) (by omega) (by omega)
  have hin : ∀ p ∈ kindL (pksUp Ss Ss.length) ((m : Int) + 1), p.ok ∧ inR ((layK Ss base m).up.pl.map List.length) p := fun p hp => by
    obtain ⟨k1, k2, _⟩ := h.pk (kindL_mem.1 hp).1
    refine ⟨k1, ?_⟩
    show inR ((layK Ss base m).pl.map List.length) p
    rw [layK_lens]; exact k2
  show at2 (((layK Ss base m).up).run (kindL (pksUp Ss Ss.length) ((m : Int) + 1))).pl k j = _
  rw [e1, show kindL (pksAt Ss k j) ((m : Int) + 1) ++ (⟨k, j, s⟩ : Pk) :: kindL r ((m : Int) + 1) = (kindL (pksAt Ss k j) ((m : Int) + 1) ++ [⟨k, j, s⟩]) ++ kindL r ((m : Int) + 1) by simp, Lo.run_append]
  have hfew := h.few2 ((m : Int) + 1)
  rw [e1, List.length_append, List.length_cons] at hfew
  change (kindL _ _).Pairwise Pk.lt at hpair
  rw [e1, List.pairwise_append, List.pairwise_cons] at hpair
  obtain ⟨p1, ⟨p2, p3⟩, p4⟩ := hpair
  obtain ⟨y, hy⟩ : ∃ y, ((layK Ss base m).up).run (kindL (pksAt Ss k j) ((m : Int) + 1) ++ [⟨k, j, s⟩]) = y := ⟨_, rfl⟩
  have R1 := Go.Proofs.Ytiocchmlmcoieaa.ran (x := (layK Ss base m).up) (by show 0 ≤ upTo _ 8; omega) (by show upTo _ 8 ≤ _; omega) (kindL (pksAt Ss k j) ((m : Int) + 1) ++ [⟨k, j, s⟩]) (by rw [List.length_append, List.length_singleton]; omega)
    (by rw [List.pairwise_append]; exact ⟨p1, List.pairwise_singleton _ _, fun a ha b hb => p4 a ha b (by rw [List.mem_singleton.1 hb]; simp)⟩)
    (fun p hp => hin p (by rw [e1]; rcases List.mem_append.1 hp with h | h; exact List.mem_append.2 (.inl h); rw [List.mem_singleton.1 h]; simp))
  have hyl : y.pl.map List.length = (layK Ss base m).up.pl.map List.length := by rw [← hy]; exact Lo.run_lens _ _
  have hye : ((layK Ss base m).up).run (kindL (pksAt Ss k j) ((m : Int) + 1) ++ [⟨k, j, s⟩]) = (((layK Ss base m).up).run (kindL (pksAt Ss k j) ((m : Int) + 1))).step ⟨k, j, s⟩ := Lo.run_snoc _ _ _
  rw [hy] at R1 hye ⊢
  have hy0 : 0 ≤ y.e := by have h1 : upTo _ 8 ≤ y.e := R1.low; omega
  have hy1 : y.e ≤ 100000 := by
    have h1 : y.e ≤ upTo _ 8 + _ := R1.high
    rw [List.length_append, List.length_singleton] at h1
    omega
  have R2 := Go.Proofs.Ytiocchmlmcoieaa.ran (x := y) hy0 hy1 (kindL r ((m : Int) + 1)) (by omega) p3 (fun p hp => by
    have := hin p (by rw [e1]; simp [hp])
    rw [hyl]; exact this)
  rw [R2.far k j (fun p hp => by have := (p2 p hp).ne; exact this), hye]
  show at2 (put2 _ k j _) k j = _
  have hlens : (((layK Ss base m).up).run (kindL (pksAt Ss k j) ((m : Int) + 1))).pl.map List.length = (layK Ss base m).up.pl.map List.length := Lo.run_lens _ _
  have hr := (hin ⟨k, j, s⟩ (by rw [e1]; simp)).2
  rw [← hlens] at hr
  obtain ⟨r1, r2⟩ := inR_at hr
  exact put2_same r1 r2
end
/-- Valid objects can be laid out. -/
theorem fine_of {L : List Oj} (h : validA (L.map Oj.o) = true) {base : Int} (h0 : 0 ≤ base) (h1 : base ≤ 4096) : Fine (L.map fun y => y.l.map Sp.s) base := by
  obtain ⟨v1, v2⟩ := validA_parts h
  rw [List.length_map] at v1
  have hob : ∀ ss ∈ (L.map fun y => y.l.map Sp.s), ∃ ms : List Sm, objOk ss ms = true := fun ss hss => by
    obtain ⟨y, hy, rfl⟩ := List.mem_map.1 hss
    exact ⟨y.ms, v2 y.o (List.mem_map_of_mem hy)⟩
  refine ⟨by rw [List.length_map]; exact v1, fun ss hss => ?_, fun ss hss s hs => ?_, h0, h1⟩
  · obtain ⟨ms, hm⟩ := hob ss hss
    unfold objOk at hm
    simp only [Bool.and_eq_true, decide_eq_true_eq] at hm
    exact hm.2.2.1
  · obtain ⟨ms, hm⟩ := hob ss hss
    unfold objOk at hm
    simp only [Bool.and_eq_true, decide_eq_true_eq, List.all_eq_true] at hm
    have hk := hm.1 s hs
    unfold sectOk at hk
    simp only [Bool.and_eq_true, decide_eq_true_eq] at hk
    obtain ⟨⟨⟨⟨⟨⟨_, k1⟩, k2⟩, k3⟩, _⟩, k4⟩, k5⟩ := hk
    refine ⟨k2, ?_, k1⟩
    unfold Sx.long
    split
    · exact k4
    · omega

end Go.Proofs.Ytiocchmlmcoieaa

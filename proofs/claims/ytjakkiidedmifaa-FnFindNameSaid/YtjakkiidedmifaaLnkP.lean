/-
  Resolution in plain words: what the symbols of objects do with a name.
-/
import Derived.Test.YtjakkiidedmifaaLnkV
import Derived.Test.YtjakkiidedmifaaWantS
import Derived.Test.YtjakkiidedmifaaSortP
namespace Go.Proofs.Ytjakkiidedmifaa
open Go.RowKit

/-- A symbol with the numbers of its object and of itself. -/
structure It where
  i : Nat
  j : Nat
  m : Sm
/-- What the symbols so far do with a name. -/
structure Use where
  inn : Int
  at_ : Int
  given : Bool
  strong : Int
  wanted : Bool
def Use.zero : Use := ⟨0, 0, false, 0, false⟩
def Use.agg (u : Use) : Value := .agg #[.int .i64 u.inn, .int .i64 u.at_, .bool u.given, .int .i64 u.strong, .bool u.wanted]
/-- One more symbol with the name, as the program counts. -/
def Use.step (u : Use) (m : Sm) (i j : Int) : Use :=
  if m.loc = -1 then { u with wanted := u.wanted || decide (m.bind = 1) }
  else if m.bind = 1 then (if u.strong = 0 then { u with inn := i, at_ := j, given := true, strong := u.strong + 1 } else { u with strong := u.strong + 1 })
  else if m.bind = 2 ∧ u.given = false then { u with inn := i, at_ := j, given := true }
  else u
/-- One more symbol with the name, as the model counts. -/
def Use.stepG (u : Use) (m : Sm) (i j : Int) : Use :=
  if m.bind = 0 ∨ m.loc = -1 then u
  else if m.bind = 1 then (if u.strong = 0 ∨ u.given = false then { u with inn := i, at_ := j, given := true, strong := u.strong + 1 } else { u with given := true, strong := u.strong + 1 })
  else if u.given = false then { u with inn := i, at_ := j, given := true }
  else u
def useOf (s : ByteArray) (P : List It) : Use := P.foldl (fun u x => if x.m.name = s then u.step x.m x.i x.j else u) Use.zero
def giveOf (s : ByteArray) (P : List It) : Use := P.foldl (fun u x => if x.m.name = s then u.stepG x.m x.i x.j else u) Use.zero
theorem useOf_nil (s : ByteArray) : useOf s [] = Use.zero := rfl
theorem giveOf_nil (s : ByteArray) : giveOf s [] = Use.zero := rfl
theorem useOf_snoc (s : ByteArray) (P : List It) (x : It) : useOf s (P ++ [x]) = if x.m.name = s then (useOf s P).step x.m x.i x.j else useOf s P := by
  unfold useOf; rw [List.foldl_append]; rfl
theorem giveOf_snoc (s : ByteArray) (P : List It) (x : It) : giveOf s (P ++ [x]) = if x.m.name = s then (giveOf s P).stepG x.m x.i x.j else giveOf s P := by
  unfold giveOf; rw [List.foldl_append]; rfl
/-- The first symbols: all of the first objects, and the first ones of the next one. -/
def itemsOf (i : Nat) (ms : List Sm) : List It := ms.mapIdx fun j m => ⟨i, j, m⟩
def itemsUp (Ls : List (List Sm)) (i : Nat) : List It := (List.range i).flatMap fun k => itemsOf k (Ls.getD k [])
def itemsAt (Ls : List (List Sm)) (i j : Nat) : List It := itemsUp Ls i ++ (itemsOf i (Ls.getD i [])).take j
theorem itemsUp_zero (Ls : List (List Sm)) : itemsUp Ls 0 = [] := rfl
theorem itemsAt_zero (Ls : List (List Sm)) (i : Nat) : itemsAt Ls i 0 = itemsUp Ls i := by unfold itemsAt; simp
theorem itemsOf_length (i : Nat) (ms : List Sm) : (itemsOf i ms).length = ms.length := by unfold itemsOf; simp
theorem itemsAt_all {Ls : List (List Sm)} {i j : Nat} {ms : List Sm} (h : Ls[i]? = some ms) (hj : ms.length ≤ j) : itemsAt Ls i j = itemsUp Ls (i + 1) := by
  have e : Ls.getD i [] = ms := by rw [List.getD_eq_getElem?_getD, h]; rfl
  unfold itemsAt itemsUp
  rw [e, List.take_of_length_le (by rw [itemsOf_length]; exact hj), List.range_succ, List.flatMap_append]
  simp only [List.flatMap_cons, List.flatMap_nil, List.append_nil, e]
theorem itemsAt_next {Ls : List (List Sm)} {i j : Nat} {ms : List Sm} {m : Sm} (h : Ls[i]? = some ms) (hm : ms[j]? = some m) : itemsAt Ls i (j + 1) = itemsAt Ls i j ++ [⟨i, j, m⟩] := by
  have e : Ls.getD i [] = ms := by rw [List.getD_eq_getElem?_getD, h]; rfl
  have h2 : (itemsOf i ms)[j]? = some ⟨i, j, m⟩ := by
    unfold itemsOf
    rw [List.getElem?_mapIdx, hm]; rfl
  unfold itemsAt
  rw [e, List.take_add_one, h2, List.append_assoc]
  rfl
theorem mem_itemsUp {Ls : List (List Sm)} {n : Nat} {x : It} : x ∈ itemsUp Ls n ↔ x.i < n ∧ ∃ ms, Ls[x.i]? = some ms ∧ ms[x.j]? = some x.m := by
  unfold itemsUp itemsOf
  rw [List.mem_flatMap]
  constructor
  · rintro ⟨k, hk, hx⟩
    rw [List.mem_range] at hk
    rw [List.mem_mapIdx] at hx
    obtain ⟨j, hj, rfl⟩ := hx
    have hl : k < Ls.length := by
      rcases Nat.lt_or_ge k Ls.length with h | h
      · exact h
      · rw [List.getD_eq_getElem?_getD, List.getElem?_eq_none h] at hj; simp at hj
    have e : Ls[k]? = some (Ls.getD k []) := by rw [List.getD_eq_getElem?_getD, List.getElem?_eq_getElem hl]; rfl
    exact ⟨hk, _, e, List.getElem?_eq_getElem hj⟩
  · rintro ⟨h1, ms, h2, h3⟩
    refine ⟨x.i, List.mem_range.2 h1, ?_⟩
    have e : Ls.getD x.i [] = ms := by rw [List.getD_eq_getElem?_getD, h2]; rfl
    rw [e, List.mem_mapIdx]
    obtain ⟨hj, hm⟩ := List.getElem?_eq_some_iff.1 h3
    exact ⟨x.j, hj, by rw [hm]⟩
/-- A snoc's own way of reckoning by cases. -/
theorem snoc_ind {α : Type} {p : List α → Prop} (h0 : p []) (h1 : ∀ l x, p l → p (l ++ [x])) : ∀ l, p l := fun l => by
  rw [← List.reverse_reverse l]
  induction l.reverse with
  | nil => exact h0
  | cons x r ih => rw [List.reverse_cons]; exact h1 _ _ ih
/-- Binds are those that there are. -/
def bindsOk (P : List It) : Prop := ∀ x ∈ P, x.m.bind = 0 ∨ x.m.bind = 1 ∨ x.m.bind = 2
theorem use_same (s : ByteArray) : ∀ (P : List It), bindsOk P → (giveOf s P).inn = (useOf s P).inn ∧ (giveOf s P).at_ = (useOf s P).at_ ∧ (giveOf s P).given = (useOf s P).given ∧ (giveOf s P).strong = (useOf s P).strong ∧ (0 < (useOf s P).strong → (useOf s P).given = true) ∧ 0 ≤ (useOf s P).strong :=
  snoc_ind (fun _ => ⟨rfl, rfl, rfl, rfl, fun h => absurd h (by rw [useOf_nil]; decide), by rw [useOf_nil]; decide⟩) fun P x ih hb => by
    obtain ⟨h1, h2, h3, h4, h5, h6⟩ := ih fun y hy => hb y (List.mem_append.2 (.inl hy))
    have hx := hb x (List.mem_append.2 (.inr (by simp)))
    rw [giveOf_snoc, useOf_snoc]
    split
    · generalize giveOf s P = g at *
      generalize useOf s P = u at *
      obtain ⟨g1, g2, g3, g4, g5⟩ := g
      obtain ⟨u1, u2, u3, u4, u5⟩ := u
      simp only at h1 h2 h3 h4 h5 h6
      subst h1 h2 h3 h4
      unfold Use.stepG Use.step
      by_cases hl : x.m.loc = -1
      · simp only [hl, or_true, if_true]
        exact ⟨trivial, trivial, trivial, trivial, h5, h6⟩
      · rcases hx with hx | hx | hx
        · simp only [hx, hl, or_false, if_true, if_false]
          simp
          exact ⟨h5, h6⟩
        · simp only [hx, hl, or_false, if_true, if_false]
          by_cases h0 : g4 = 0
          · subst h0
            simp
          · have hg : g3 = true := h5 (by omega)
            subst hg
            simp [h0]
            omega
        · simp only [hx, hl, or_false, if_false]
          cases g3
          · simp; omega
          · simp; omega
    · exact ⟨h1, h2, h3, h4, h5, h6⟩
theorem strong_le (s : ByteArray) : ∀ (P : List It), 0 ≤ (useOf s P).strong ∧ (useOf s P).strong ≤ P.length :=
  snoc_ind (by rw [useOf_nil]; decide) fun P x ih => by
    rw [useOf_snoc, List.length_append, List.length_singleton]
    split
    · unfold Use.step
      split
      · simp only; omega
      · split
        · split <;> first | omega | (simp only; omega)
        · split <;> first | omega | (simp only; omega)
    · omega
theorem giveStrong_le (s : ByteArray) : ∀ (P : List It), 0 ≤ (giveOf s P).strong ∧ (giveOf s P).strong ≤ P.length :=
  snoc_ind (by rw [giveOf_nil]; decide) fun P x ih => by
    rw [giveOf_snoc, List.length_append, List.length_singleton]
    split
    · unfold Use.stepG
      split
      · omega
      · split
        · split <;> first | omega | (simp only; omega)
        · split <;> first | omega | (simp only; omega)
    · omega
/-- Where a name is given, that is by a symbol with the name. -/
theorem given_by (s : ByteArray) : ∀ (P : List It), bindsOk P → ((useOf s P).given = true ↔ ∃ x ∈ P, x.m.name = s ∧ x.m.loc ≠ -1 ∧ x.m.bind ≠ 0) :=
  snoc_ind (fun _ => by simp [useOf, Use.zero]) fun P x ih hb => by
    have ih := ih fun y hy => hb y (List.mem_append.2 (.inl hy))
    have hx := hb x (List.mem_append.2 (.inr (by simp)))
    have ho := (use_same s P fun y hy => hb y (List.mem_append.2 (.inl hy))).2.2.2.2
    have hsp : (∃ y ∈ P ++ [x], y.m.name = s ∧ y.m.loc ≠ -1 ∧ y.m.bind ≠ 0) ↔ (∃ y ∈ P, y.m.name = s ∧ y.m.loc ≠ -1 ∧ y.m.bind ≠ 0) ∨ (x.m.name = s ∧ x.m.loc ≠ -1 ∧ x.m.bind ≠ 0) := by
      constructor
      · rintro ⟨y, hy, h⟩
        rcases List.mem_append.1 hy with hy | hy
        · exact .inl ⟨y, hy, h⟩
        · simp only [List.mem_singleton] at hy; subst hy; exact .inr h
      · rintro (⟨y, hy, h⟩ | h)
        · exact ⟨y, List.mem_append.2 (.inl hy), h⟩
        · exact ⟨x, by simp, h⟩
    rw [hsp, ← ih, useOf_snoc]
    split
    · rename_i hn
      unfold Use.step
      by_cases hl : x.m.loc = -1
      · simp [hl]
      · rcases hx with hx | hx | hx
        · simp [hx, hl]
        · simp only [hx, hl, if_true, if_false]
          by_cases h0 : (useOf s P).strong = 0
          · simp [h0, hn, hl]
          · have hg := ho.1 (by omega)
            simp [h0, hn, hg]
        · simp only [hx, hl, if_false]
          cases hgv : (useOf s P).given <;> simp [hn, hl, hgv]
    · rename_i hn
      simp [hn]
theorem strong_by (s : ByteArray) : ∀ (P : List It), (0 < (useOf s P).strong ↔ ∃ x ∈ P, x.m.name = s ∧ x.m.loc ≠ -1 ∧ x.m.bind = 1) :=
  snoc_ind (by simp [useOf, Use.zero]) fun P x ih => by
    have hp := (strong_le s P).1
    have hsp : (∃ y ∈ P ++ [x], y.m.name = s ∧ y.m.loc ≠ -1 ∧ y.m.bind = 1) ↔ (∃ y ∈ P, y.m.name = s ∧ y.m.loc ≠ -1 ∧ y.m.bind = 1) ∨ (x.m.name = s ∧ x.m.loc ≠ -1 ∧ x.m.bind = 1) := by
      constructor
      · rintro ⟨y, hy, h⟩
        rcases List.mem_append.1 hy with hy | hy
        · exact .inl ⟨y, hy, h⟩
        · simp only [List.mem_singleton] at hy; subst hy; exact .inr h
      · rintro (⟨y, hy, h⟩ | h)
        · exact ⟨y, List.mem_append.2 (.inl hy), h⟩
        · exact ⟨x, by simp, h⟩
    rw [hsp, ← ih, useOf_snoc]
    split
    · rename_i hn
      unfold Use.step
      by_cases hl : x.m.loc = -1
      · simp [hl]
      · by_cases hb : x.m.bind = 1
        · simp only [hb, hl, if_true, if_false]
          split <;> simp [hn] <;> omega
        · simp only [hb, hl, if_false]
          split <;> simp
    · rename_i hn
      simp [hn]
theorem wanted_by (s : ByteArray) : ∀ (P : List It), ((useOf s P).wanted = true ↔ ∃ x ∈ P, x.m.name = s ∧ x.m.loc = -1 ∧ x.m.bind = 1) :=
  snoc_ind (by simp [useOf, Use.zero]) fun P x ih => by
    have hsp : (∃ y ∈ P ++ [x], y.m.name = s ∧ y.m.loc = -1 ∧ y.m.bind = 1) ↔ (∃ y ∈ P, y.m.name = s ∧ y.m.loc = -1 ∧ y.m.bind = 1) ∨ (x.m.name = s ∧ x.m.loc = -1 ∧ x.m.bind = 1) := by
      constructor
      · rintro ⟨y, hy, h⟩
        rcases List.mem_append.1 hy with hy | hy
        · exact .inl ⟨y, hy, h⟩
        · simp only [List.mem_singleton] at hy; subst hy; exact .inr h
      · rintro (⟨y, hy, h⟩ | h)
        · exact ⟨y, List.mem_append.2 (.inl hy), h⟩
        · exact ⟨x, by simp, h⟩
    rw [hsp, ← ih, useOf_snoc]
    split
    · rename_i hn
      unfold Use.step
      by_cases hl : x.m.loc = -1
      · simp [hl, hn]
      · simp only [hl, if_false]
        split
        · split <;> simp
        · split <;> simp
    · rename_i hn
      simp [hn]
/-- The names that have been seen. -/
def namesP (P : List It) : List ByteArray := P.map fun x => x.m.name
theorem useOf_none {s : ByteArray} : ∀ (P : List It), s ∉ namesP P → useOf s P = Use.zero :=
  snoc_ind (fun _ => rfl) fun P x ih h => by
    unfold namesP at h ih
    rw [List.map_append, List.mem_append] at h
    rw [useOf_snoc, if_neg (fun e => h (.inr (by simp [e]))), ih (fun e => h (.inl e))]
/-- All symbols of objects. -/
def itemsA (L : List (List Sx × List Sm)) : List It := itemsUp (L.map Prod.snd) L.length
/-- Which symbol a name means. -/
def findA (L : List (List Sx × List Sm)) (s : ByteArray) : Use := if validA L then useOf s (itemsA L) else Use.zero
/-- The names whose uses are taken, by their bytes, each once. -/
def pickA (q : Use → Bool) (L : List (List Sx × List Sm)) : List ByteArray := if validA L then ((namesP (itemsA L)).foldl insertS []).filter fun s => q (useOf s (itemsA L)) else []
def isTwice (u : Use) : Bool := decide (1 < u.strong)
def isMiss (u : Use) : Bool := u.wanted && !u.given
theorem okSyms {ss : List Sx} {ms : List Sm} (h : objOk ss ms = true) : (∀ m ∈ ms, symOk m ss = true) ∧ ms.Pairwise (fun x y => clash x y = false) ∧ ss.length ≤ 8 ∧ ms.length ≤ 12 := by
  unfold objOk at h
  simp only [Bool.and_eq_true, decide_eq_true_eq] at h
  obtain ⟨h1, _, h2⟩ := symsOk_told ss ms [] h.2.1
  exact ⟨h1, h2, h.2.2.1, h.2.2.2⟩
theorem symOk_bind {m : Sm} {ss : List Sx} (h : symOk m ss = true) : m.bind = 0 ∨ m.bind = 1 ∨ m.bind = 2 := by
  unfold symOk at h
  simp only [Bool.and_eq_true, decide_eq_true_eq] at h
  have := h.1.2
  omega
theorem binds_of {L : List (List Sx × List Sm)} (h : validA L = true) : bindsOk (itemsA L) := fun x hx => by
  obtain ⟨_, ms, h1, h2⟩ := mem_itemsUp.1 hx
  rw [List.getElem?_map] at h1
  obtain ⟨o, ho, rfl⟩ := Option.map_eq_some_iff.1 h1
  have hv := (validA_parts h).2 o (List.mem_of_getElem? ho)
  have hs := (okSyms hv).1 x.m (List.mem_of_getElem? h2)
  exact symOk_bind hs
theorem mem_itemsA {L : List (List Sx × List Sm)} {x : It} : x ∈ itemsA L ↔ ∃ o, L[x.i]? = some o ∧ o.2[x.j]? = some x.m := by
  unfold itemsA
  rw [mem_itemsUp]
  constructor
  · rintro ⟨_, ms, h1, h2⟩
    rw [List.getElem?_map] at h1
    obtain ⟨o, ho, rfl⟩ := Option.map_eq_some_iff.1 h1
    exact ⟨o, ho, h2⟩
  · rintro ⟨o, h1, h2⟩
    exact ⟨(List.getElem?_eq_some_iff.1 h1).1, o.2, by rw [List.getElem?_map, h1]; rfl, h2⟩

end Go.Proofs.Ytjakkiidedmifaa

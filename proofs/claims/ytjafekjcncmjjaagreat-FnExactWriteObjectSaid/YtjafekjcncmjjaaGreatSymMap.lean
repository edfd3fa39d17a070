/-
  A set of names on the heap. The two halves of what a valid object is: its parts, and its names. A map from names to symbols on the heap.
-/
import Derived.StringKeys
import Derived.Maps.OwnSet
import Derived.Maps.AppendAt
import Derived.Carry
import Derived.Maps.RangeWalk
import Derived.Test.YtjafekjcncmjjaaGreatRows
import Derived.Test.YtjafekjcncmjjaaGreatMem
import Derived.Test.YtjafekjcncmjjaaGreatWant4
import Derived.Test.YtjafekjcncmjjaaGreatSortP
/- A set of names on the heap. -/
namespace Go.Proofs.YtjafekjcncmjjaaGreat
open Go.RowKit Go.Maps Go.WideMaps

/-- The key of a name. -/
def klS (s : ByteArray) : Lit := .string s.data.toList
theorem klS_ne {s t : ByteArray} (h : s ≠ t) : klS s ≠ klS t := by
  intro e
  apply h
  unfold klS at e
  injection e with e
  exact ByteArray.ext (Array.toList_inj.1 e)
theorem klS_key (s : ByteArray) : WideAt.IsKeyLit (klS s) := trivial
theorem klS_of {s : ByteArray} (hs : s.size ≤ maxLen) : keyOf Tryz.prog 9 (.string s) = some (klS s) := keyOf_string_mk Tryz.underlying9 hs
theorem Tryz.law_str : Keyed Tryz.prog 9 := string_keyed Tryz.underlying9
/-- Is the name one of these? -/
def memS (S : List ByteArray) (s : ByteArray) : Bool := S.any fun t => decide (t = s)
theorem memS_iff {S : List ByteArray} {s : ByteArray} : memS S s = true ↔ s ∈ S := by
  unfold memS
  rw [List.any_eq_true]
  constructor
  · rintro ⟨t, ht, e⟩; have := of_decide_eq_true e; rwa [← this]
  · intro h; exact ⟨s, h, by simp⟩
theorem memS_not {S : List ByteArray} {s : ByteArray} (h : s ∉ S) : memS S s = false := by
  cases e : memS S s with
  | false => rfl
  | true => exact absurd (memS_iff.1 e) h
/-- A map that holds these names, and no others. -/
def NamSet (w : World) (b cnt : Nat) (S : List ByteArray) : Prop := ∃ D : DataW Unit, w.ownsMap Tryz.prog 9 (plainElem Tryz.prog 4) b cnt D ∧ (∀ s, Maps.has D (klS s) = memS S s) ∧ ∀ s, s ∈ S → ∀ z, D.atKey (klS s) z = .lit (.bool true)
theorem NamSet.lt {w : World} {b cnt : Nat} {S : List ByteArray} (h : NamSet w b cnt S) : b < w.heap.size := by
  obtain ⟨D, h1, _⟩ := h
  exact h1.lt
theorem NamSet.new (w : World) (n : Nat) : NamSet (w.alloc (.map #[] 0)) w.heap.size n [] :=
  ⟨.map [], (World.ownsMap_made w Tryz.prog 9 _).mono (Nat.zero_le _), fun s => by simp [Maps.has, memS], fun s hs => absurd hs (by simp)⟩
theorem NamSet.kept {w w' : World} {b cnt : Nat} {S : List ByteArray} {row : Option Nat} (h : NamSet w b cnt S) (hg : w.grownBy w' row) (hne : some b ≠ row) : NamSet w' b cnt S := by
  obtain ⟨D, h1, h2, h3⟩ := h
  exact ⟨D, h1.kept hg hne, h2, h3⟩
theorem NamSet.more {w : World} {b cnt c : Nat} {S : List ByteArray} (h : NamSet w b cnt S) (hc : cnt ≤ c) : NamSet w b c S := by
  obtain ⟨D, h1, h2⟩ := h
  exact ⟨D, h1.mono hc, h2⟩































end Go.Proofs.YtjafekjcncmjjaaGreat
/- The two halves of what a valid object is: its parts, and its names. -/
namespace Go.Proofs.YtjafekjcncmjjaaGreat
open Go.RowKit

/-- Are there few sections and symbols, and is each valid? -/
def partsOk (ss : List Sx) (ms : List Sm) : Bool := ss.all (fun y => sectOk y ms.length) && (ms.all (fun z => symOk z ss) && (decide (ss.length ≤ 8) && decide (ms.length ≤ 12)))
/-- Do these symbols, behind those, clash with none? -/
def apart : List Sm → List Sm → Bool
  | _, [] => true
  | d, z :: r => d.all (fun x => !clash x z) && apart (d ++ [z]) r
theorem symsOk_split (ss : List Sx) : ∀ (ms d : List Sm), symsOk ss d ms = (ms.all (fun z => symOk z ss) && apart d ms)
  | [], d => by unfold symsOk apart; rfl
  | z :: r, d => by
    rw [symsOk, apart, List.all_cons, symsOk_split ss r (d ++ [z])]
    cases symOk z ss <;> cases (d.all fun x => !clash x z) <;> cases (r.all fun z => symOk z ss) <;> simp
theorem objOk_split (ss : List Sx) (ms : List Sm) : objOk ss ms = (partsOk ss ms && apart [] ms) := by
  unfold objOk partsOk
  rw [symsOk_split]
  cases ss.all (fun y => sectOk y ms.length) <;> cases ms.all (fun z => symOk z ss) <;> cases apart [] ms <;> simp
/-- The symbols that are not local. -/
def opens (ms : List Sm) : List Sm := ms.filter fun x => decide (x.bind ≠ 0)
theorem opens_clash (d : List Sm) (z : Sm) (h : z.bind ≠ 0) : d.all (fun x => !clash x z) = !memS ((opens d).map Sm.name) z.name := by
  induction d with
  | nil => rfl
  | cons x r ih =>
    rw [List.all_cons, ih]
    unfold opens
    by_cases hx : x.bind = 0
    · rw [List.filter_cons_of_neg (by simp [hx])]
      simp [clash, hx]
    · rw [List.filter_cons_of_pos (by simp [hx]), List.map_cons]
      by_cases hn : x.name = z.name <;> simp [clash, memS, hx, h, hn]
theorem opens_clash0 (d : List Sm) (z : Sm) (h : z.bind = 0) : d.all (fun x => !clash x z) = true := by
  rw [List.all_eq_true]
  intro x _
  simp [clash, h]
theorem opens_snoc (d : List Sm) (z : Sm) : opens (d ++ [z]) = opens d ++ if z.bind = 0 then [] else [z] := by
  unfold opens
  rw [List.filter_append]
  by_cases h : z.bind = 0
  · rw [if_pos h, List.filter_cons_of_neg (by simp [h])]; simp
  · rw [if_neg h, List.filter_cons_of_pos (by simp [h])]; simp
theorem opens_length (ms : List Sm) : (opens ms).length ≤ ms.length := List.length_filter_le _ _
theorem opens_wants {ss : List Sx} {ms : List Sm} (h : partsOk ss ms = true) : (opens ms).filter (fun m => decide (m.loc = -1)) = ms.filter wants := by
  unfold opens
  rw [List.filter_filter]
  apply List.filter_congr
  intro x hx
  unfold wants
  by_cases e : x.loc = -1
  · have hb : x.bind ≠ 0 := by
      unfold partsOk at h
      simp only [Bool.and_eq_true, List.all_eq_true] at h
      have hs := h.2.1 x hx
      unfold symOk at hs
      simp only [e, if_true, Bool.and_eq_true, decide_eq_true_eq] at hs
      exact hs.2.2
    simp [e, hb]
  · simp [e]
theorem opens_gives (ms : List Sm) : (opens ms).filter (fun m => decide (m.loc ≠ -1)) = ms.filter gives := by
  unfold opens
  rw [List.filter_filter]
  apply List.filter_congr
  intro x hx
  unfold gives
  rfl
/-- Names that are met once each, sorted, are the names put in one by one. -/
theorem sorted_once {ns names : List ByteArray} (hn : ns.Nodup) (hm : ∀ s, s ∈ ns ↔ s ∈ names) : ((ns.map fun s => s.data.toList).mergeSort fun x y => decide (x ≤ y)).map strL = names.foldl insertS [] := by
  obtain ⟨zs, hz⟩ : ∃ zs, (ns.map fun s => s.data.toList).mergeSort (fun x y => decide (x ≤ y)) = zs := ⟨_, rfl⟩
  have hp : zs.Pairwise (fun x y => decide (x ≤ y) = true) := by
    rw [← hz]
    exact List.pairwise_mergeSort (fun a b c h1 h2 => by simp only [decide_eq_true_eq] at *; exact List.le_trans h1 h2) (fun a b => by
      simp only [Bool.or_eq_true, decide_eq_true_eq]; exact List.le_total a b) _
  have hnd : zs.Nodup := by
    rw [← hz, (List.mergeSort_perm _ _).nodup_iff]
    unfold List.Nodup at hn ⊢
    rw [List.pairwise_map]
    exact hn.imp fun {a b} h e => h (ByteArray.ext (Array.toList_inj.1 e))
  rw [hz]
  apply sorted_ext
  · unfold SortedS
    rw [List.pairwise_map]
    refine (hp.and hnd).imp fun {a b} h => ?_
    rw [ltS_strL, bytesLess_eq, decide_eq_true_eq]
    have h1 : a ≤ b := of_decide_eq_true h.1
    rcases less_or a b with h2 | h2 | h2
    · rwa [bytesLess_eq, decide_eq_true_eq] at h2
    · exact absurd h2 h.2
    · rw [bytesLess_eq, decide_eq_true_eq] at h2
      exact absurd h2 (List.not_lt.2 h1)
  · exact sorted_fold names [] List.Pairwise.nil
  · intro x
    rw [mem_fold_iff, List.mem_map, ← hm x]
    constructor
    · rintro ⟨l, hl, rfl⟩
      rw [← hz] at hl
      obtain ⟨s, hs, rfl⟩ := List.mem_map.1 (List.mem_mergeSort.1 hl)
      rw [strL_data]; exact .inr hs
    · rintro (h | h)
      · cases h
      · exact ⟨x.data.toList, by rw [← hz]; exact List.mem_mergeSort.2 (List.mem_map.2 ⟨x, h, rfl⟩), strL_data x⟩

end Go.Proofs.YtjafekjcncmjjaaGreat
/- A map from names to symbols on the heap. -/
namespace Go.Proofs.YtjafekjcncmjjaaGreat
open Go.RowKit Go.Maps Go.WideMaps

/-- How a symbol reads. -/
def symD (m : Sm) : DataW Unit := .agg [.lit (.string m.name.data.toList), .lit (.int .i64 m.bind), .lit (.int .i64 m.loc), .lit (.int .i64 m.value)]
def symElem (v : Value) : Option (DataW Unit × List MemPlace) :=
  match v with
  | .agg cs =>
    match cs.toList with
    | [.string s, .int .i64 a, .int .i64 b, .int .i64 c] => some (symD ⟨s, a, b, c⟩, [])
    | _ => none
  | _ => none
theorem symElem_mk (m : Sm) : symElem m.agg = some (symD m, []) := rfl
theorem symElem_inv {v : Value} {y : DataW Unit × List MemPlace} (h : symElem v = some y) : ∃ m : Sm, v = m.agg := by
  unfold symElem at h
  split at h
  · rename_i cs
    split at h
    · rename_i s a b c e
      refine ⟨⟨s, a, b, c⟩, ?_⟩
      have e2 : cs = #[.string s, .int .i64 a, .int .i64 b, .int .i64 c] := by rw [← Array.toArray_toList (xs := cs), e]
      rw [e2]; rfl
    · cases h
  · cases h
theorem symD_inj {x y : Sm} (h : symD x = symD y) : x = y := by
  obtain ⟨s, a, b, c⟩ := x
  obtain ⟨s', a', b', c'⟩ := y
  simp only [symD, DataW.agg.injEq, List.cons.injEq, DataW.lit.injEq, Lit.string.injEq, Lit.int.injEq, true_and, and_true] at h
  obtain ⟨h1, rfl, rfl, rfl⟩ := h
  have : s = s' := ByteArray.ext (Array.toList_inj.1 h1)
  rw [this]
/-- A map that holds these symbols by their names, and no others. -/
structure SymMap (w : World) (b cnt : Nat) (D : DataW Unit) (S : List Sm) : Prop where
  own : w.ownsMap Tryz.prog 9 symElem b cnt D
  has : ∀ s, Maps.has D (klS s) = memS (S.map Sm.name) s
  at_ : ∀ x, x ∈ S → ∀ z, D.atKey (klS x.name) z = symD x
section
variable {w w' : World} {b cnt : Nat} {D : DataW Unit} {S : List Sm}
theorem SymMap.new (w : World) : SymMap (w.alloc (.map #[] 0)) w.heap.size 0 (.map []) [] :=
  ⟨World.ownsMap_made w Tryz.prog 9 _, fun s => by simp [Maps.has, memS], fun x hx => absurd hx (by simp)⟩
theorem SymMap.lt (h : SymMap w b cnt D S) : b < w.heap.size := h.own.lt
theorem SymMap.kept {row : Option Nat} (h : SymMap w b cnt D S) (hg : w.grownBy w' row) (hne : some b ≠ row) : SymMap w' b cnt D S :=
  ⟨h.own.kept hg hne, h.has, h.at_⟩
theorem SymMap.more {c : Nat} (h : SymMap w b cnt D S) (hc : cnt ≤ c) : SymMap w b c D S := ⟨h.own.mono hc, h.has, h.at_⟩
/-- Is there a symbol with the name? -/
theorem SymMap.look (h : SymMap w b cnt D S) {s : ByteArray} (hs : s.size ≤ maxLen) : ∃ m : Sm, (Instr.lookup 90 (.map (some b)) (.string s) true).run Tryz.prog w = .ok (.tuple #[m.agg, .bool (memS (S.map Sm.name) s)]) w := by
  obtain ⟨v, ps, hrun, hv⟩ := h.own.look_ok Tryz.law_str Tryz.underlying90 (z := Sm.agg ⟨⟨#[]⟩, 0, 0, 0⟩) (by kernel_rfl) (symElem_mk _) (klS_of hs)
  obtain ⟨m, rfl⟩ := symElem_inv hv
  exact ⟨m, by rw [hrun, h.has]⟩
/-- A symbol is put in. -/
theorem SymMap.put (h : SymMap w b cnt D S) {x : Sm} (hs : x.name.size ≤ maxLen) (hc : cnt < maxLen) (hno : x.name ∉ S.map Sm.name) : ∃ w' D', (Instr.mapUpdate 90 (.map (some b)) (.string x.name) x.agg).run Tryz.prog w = .ok () w' ∧ SymMap w' b (cnt + 1) D' (S ++ [x]) ∧ w.grownBy w' (some b) := by
  obtain ⟨w', hrun, ho, hg⟩ := h.own.update Tryz.law_str Tryz.underlying90 hc (klS_of hs) (val := x.agg) (d := symD x) (ps := []) (symElem_mk x)
  refine ⟨w', _, hrun, ⟨ho, fun t => ?_, fun y hy z => ?_⟩, hg⟩
  · by_cases e : t = x.name
    · subst e; rw [has_put_same h.own.isMap (klS_key _)]; simp [memS]
    · rw [has_put_other (klS_ne e), h.has t]; simp [memS, show ¬ x.name = t from fun q => e q.symm]
  · rcases List.mem_append.1 hy with hy | hy
    · have e : y.name ≠ x.name := fun q => hno (by rw [← q]; exact List.mem_map_of_mem hy)
      rw [atKey_put_other (klS_ne e), h.at_ y hy]
    · simp only [List.mem_singleton] at hy
      subst hy
      rw [atKey_put_same h.own.isMap (klS_key _)]
/-- What lies at a name. -/
theorem SymMap.found (h : SymMap w b cnt D S) {s : ByteArray} {m : Sm} (ha : ∀ z, D.atKey (klS s) z = symD m) : m ∈ S ∧ m.name = s := by
  have h1 : Maps.has D (klS s) = true := has_true_of_atKey ha
  rw [h.has s, memS_iff] at h1
  obtain ⟨x, hx, e⟩ := List.mem_map.1 h1
  have h2 := h.at_ x hx (.lit (.bool true))
  rw [e, ha] at h2
  have e2 := symD_inj h2
  subst e2
  exact ⟨hx, e⟩
end
/-- The names that have been met, of the symbols that are taken. -/
structure Met (q : Sm → Bool) (S : List Sm) (left : Lit → Bool) (ns : List ByteArray) : Prop where
  once : ns.Nodup
  mem : ∀ s, s ∈ ns ↔ left (klS s) = false ∧ ∃ x, x ∈ S ∧ q x = true ∧ x.name = s
section
variable {w : World} {b cnt : Nat} {D : DataW Unit} {S : List Sm} {q : Sm → Bool} {left : Lit → Bool} {ns : List ByteArray}
theorem Met.start (h : SymMap w b cnt D S) : Met q S (Maps.has D) [] := ⟨List.nodup_nil, fun s => by
  constructor
  · intro e; cases e
  · rintro ⟨h1, x, hx, _, rfl⟩
    rw [h.has, memS_iff.2 (List.mem_map_of_mem hx)] at h1
    cases h1⟩
theorem same_klS (s t : ByteArray) : (klS t).sameKey (klS s) = decide (t = s) := by
  by_cases e : t = s
  · subst e; simp [klS, Lit.sameKey]
  · have h := klS_ne e
    unfold klS at h ⊢
    simp only [Lit.sameKey, e, decide_false]
    simpa using h
theorem Met.took (h : SymMap w b cnt D S) (hM : Met q S left ns) {m : Sm} (hl : left (klS m.name) = true) (ha : ∀ z, D.atKey (klS m.name) z = symD m) (hq : q m = true) : Met q S (fun z => left z && !z.sameKey (klS m.name)) (ns ++ [m.name]) := by
  have hnew : m.name ∉ ns := fun e => by have := ((hM.mem _).1 e).1; rw [hl] at this; cases this
  refine ⟨List.nodup_append.2 ⟨hM.once, by simp, fun a ha b hb => by simp at hb; subst hb; exact fun e => hnew (e ▸ ha)⟩, fun s => ?_⟩
  rw [List.mem_append, List.mem_singleton, hM.mem s, same_klS]
  by_cases e : s = m.name
  · subst e
    simp only [or_true, decide_true, Bool.not_true, Bool.and_false, true_and, true_iff]
    exact ⟨m, (h.found ha).1, hq, rfl⟩
  · simp [e]
theorem Met.left_ (h : SymMap w b cnt D S) (hM : Met q S left ns) {m : Sm} (hl : left (klS m.name) = true) (ha : ∀ z, D.atKey (klS m.name) z = symD m) (hq : q m = false) : Met q S (fun z => left z && !z.sameKey (klS m.name)) ns := by
  refine ⟨hM.once, fun s => ?_⟩
  rw [hM.mem s, same_klS]
  by_cases e : s = m.name
  · subst e
    simp only [decide_true, Bool.not_true, Bool.and_false, true_and, hl, Bool.true_eq_false, false_and, false_iff]
    rintro ⟨x, hx, hqx, e⟩
    have h2 := h.at_ x hx (.lit (.bool true))
    rw [e, ha] at h2
    rw [← symD_inj h2, hq] at hqx
    cases hqx
  · simp [e]
theorem Met.done (hM : Met q S left ns) (hl : ∀ kl, left kl = false) (s : ByteArray) : s ∈ ns ↔ s ∈ (S.filter q).map Sm.name := by
  rw [hM.mem, hl, List.mem_map]
  simp only [true_and, List.mem_filter]
  constructor
  · rintro ⟨x, h1, h2, h3⟩; exact ⟨x, ⟨h1, h2⟩, h3⟩
  · rintro ⟨x, ⟨h1, h2⟩, h3⟩; exact ⟨x, h1, h2, h3⟩
end

end Go.Proofs.YtjafekjcncmjjaaGreat

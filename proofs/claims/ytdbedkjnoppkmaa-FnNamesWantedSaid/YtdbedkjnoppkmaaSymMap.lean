/-
  A map from names to symbols on the heap.
-/
import Derived.Test.YtdbedkjnoppkmaaWant4
import Derived.Test.YtdbedkjnoppkmaaNamSet
import Derived.Maps.RangeWalk
namespace Go.Proofs.Ytdbedkjnoppkmaa
open Go.RowKit Go.Maps Go.WideMaps

/-- How a symbol reads. -/
def symD (m : Sm) : DataW Unit := .agg [.lit (.string m.name.data.toList), .lit (.int .i64 m.bind), .lit (.int .i64 m.loc), .lit (.int .i64 m.value)]
def symElem (v : Value) : Option (DataW Unit × List MemPlace) :=
  match v with
  | .agg cs =>
    match cs.toList with
    | [.string s, .int .i64 a, .int .i64 b, .int .i64 c] => some (symD ⟨s, a, b, c⟩, [])
    | _ => none
  | _ => none
theorem symElem_mk (m : Sm) : symElem m.agg = some (symD m, []) := rfl
theorem symElem_inv {v : Value} {y : DataW Unit × List MemPlace} (h : symElem v = some y) : ∃ m : Sm, v = m.agg := by
  unfold symElem at h
  split at h
  · rename_i cs
    split at h
    · rename_i s a b c e
      refine ⟨⟨s, a, b, c⟩, ?_⟩
      have e2 : cs = #[.string s, .int .i64 a, .int .i64 b, .int .i64 c] := by rw [← Array.toArray_toList (xs := cs), e]
      rw [e2]; rfl
    · cases h
  · cases h
theorem symD_inj {x y : Sm} (h : symD x = symD y) : x = y := by
  obtain ⟨s, a, b, c⟩ := x
  obtain ⟨s', a', b', c'⟩ := y
  simp only [symD, DataW.agg.injEq, List.cons.injEq, DataW.lit.injEq, Lit.string.injEq, Lit.int.injEq, true_and, and_true] at h
  obtain ⟨h1, rfl, rfl, rfl⟩ := h
  have : s = s' := ByteArray.ext (Array.toList_inj.1 h1)
  rw [this]
/-- A map that holds these symbols by their names, and no others. -/
structure SymMap (w : World) (b cnt : Nat) (D : DataW Unit) (S : List Sm) : Prop where
  own : w.ownsMap Try.prog 9 symElem b cnt D
  has : ∀ s, Maps.has D (klS s) = memS (S.map Sm.name) s
  at_ : ∀ x, x ∈ S → ∀ z, D.atKey (klS x.name) z = symD x
section
variable {w w' : World} {b cnt : Nat} {D : DataW Unit} {S : List Sm}
theorem SymMap.new (w : World) : SymMap (w.alloc (.map #[] 0)) w.heap.size 0 (.map []) [] :=
  ⟨World.ownsMap_made w Try.prog 9 _, fun s => by simp [Maps.has, memS], fun x hx => absurd hx (by simp)⟩
theorem SymMap.lt (h : SymMap w b cnt D S) : b < w.heap.size := h.own.lt
theorem SymMap.kept {row : Option Nat} (h : SymMap w b cnt D S) (hg : w.grownBy w' row) (hne : some b ≠ row) : SymMap w' b cnt D S :=
  ⟨h.own.kept hg hne, h.has, h.at_⟩
theorem SymMap.more {c : Nat} (h : SymMap w b cnt D S) (hc : cnt ≤ c) : SymMap w b c D S := ⟨h.own.mono hc, h.has, h.at_⟩
/-- Is there a symbol with the name? -/
theorem SymMap.look (h : SymMap w b cnt D S) {s : ByteArray} (hs : s.size ≤ maxLen) : ∃ m : Sm, (Instr.lookup 69 (.map (some b)) (.string s) true).run Try.prog w = .ok (.tuple #[m.agg, .bool (memS (S.map Sm.name) s)]) w := by
  obtain ⟨v, ps, hrun, hv⟩ := h.own.look_ok Try.law_str Try.underlying69 (z := Sm.agg ⟨⟨#[]⟩, 0, 0, 0⟩) (by kernel_rfl) (symElem_mk _) (klS_of hs)
  obtain ⟨m, rfl⟩ := symElem_inv hv
  exact ⟨m, by rw [hrun, h.has]⟩
/-- A symbol is put in. -/
theorem SymMap.put (h : SymMap w b cnt D S) {x : Sm} (hs : x.name.size ≤ maxLen) (hc : cnt < maxLen) (hno : x.name ∉ S.map Sm.name) : ∃ w' D', (Instr.mapUpdate 69 (.map (some b)) (.string x.name) x.agg).run Try.prog w = .ok () w' ∧ SymMap w' b (cnt + 1) D' (S ++ [x]) ∧ w.grownBy w' (some b) := by
  obtain ⟨w', hrun, ho, hg⟩ := h.own.update Try.law_str Try.underlying69 hc (klS_of hs) (val := x.agg) (d := symD x) (ps := []) (symElem_mk x)
  refine ⟨w', _, hrun, ⟨ho, fun t => ?_, fun y hy z => ?_⟩, hg⟩
  · by_cases e : t = x.name
    · subst e; rw [has_put_same h.own.isMap (klS_key _)]; simp [memS]
    · rw [has_put_other (klS_ne e), h.has t]; simp [memS, show ¬ x.name = t from fun q => e q.symm]
  · rcases List.mem_append.1 hy with hy | hy
    · have e : y.name ≠ x.name := fun q => hno (by rw [← q]; exact List.mem_map_of_mem hy)
      rw [atKey_put_other (klS_ne e), h.at_ y hy]
    · simp only [List.mem_singleton] at hy
      subst hy
      rw [atKey_put_same h.own.isMap (klS_key _)]
/-- What lies at a name. -/
theorem SymMap.found (h : SymMap w b cnt D S) {s : ByteArray} {m : Sm} (ha : ∀ z, D.atKey (klS s) z = symD m) : m ∈ S ∧ m.name = s := by
  have h1 : Maps.has D (klS s) = true := has_true_of_atKey ha
  rw [h.has s, memS_iff] at h1
  obtain ⟨x, hx, e⟩ := List.mem_map.1 h1
  have h2 := h.at_ x hx (.lit (.bool true))
  rw [e, ha] at h2
  have e2 := symD_inj h2
  subst e2
  exact ⟨hx, e⟩
end
/-- The names that have been met, of the symbols that are taken. -/
structure Met (q : Sm → Bool) (S : List Sm) (left : Lit → Bool) (ns : List ByteArray) : Prop where
  once : ns.Nodup
  mem : ∀ s, s ∈ ns ↔ left (klS s) = false ∧ ∃ x, x ∈ S ∧ q x = true ∧ x.name = s
section
variable {w : World} {b cnt : Nat} {D : DataW Unit} {S : List Sm} {q : Sm → Bool} {left : Lit → Bool} {ns : List ByteArray}
theorem Met.start (h : SymMap w b cnt D S) : Met q S (Maps.has D) [] := ⟨List.nodup_nil, fun s => by
  constructor
  · intro e; cases e
  · rintro ⟨h1, x, hx, _, rfl⟩
    rw [h.has, memS_iff.2 (List.mem_map_of_mem hx)] at h1
    cases h1⟩
theorem same_klS (s t : ByteArray) : (klS t).sameKey (klS s) = decide (t = s) := by
  by_cases e : t = s
  · subst e; simp [klS, Lit.sameKey]
  · have h := klS_ne e
    unfold klS at h ⊢
    simp only [Lit.sameKey, e, decide_false]
    simpa using h
theorem Met.took (h : SymMap w b cnt D S) (hM : Met q S left ns) {m : Sm} (hl : left (klS m.name) = true) (ha : ∀ z, D.atKey (klS m.name) z = symD m) (hq : q m = true) : Met q S (fun z => left z && !z.sameKey (klS m.name)) (ns ++ [m.name]) := by
  have hnew : m.name ∉ ns := fun e => by have := ((hM.mem _).1 e).1; rw [hl] at this; cases this
  refine ⟨List.nodup_append.2 ⟨hM.once, by simp, fun a ha b hb => by simp at hb; subst hb; exact fun e => hnew (e ▸ ha)⟩, fun s => ?_⟩
  rw [List.mem_append, List.mem_singleton, hM.mem s, same_klS]
  by_cases e : s = m.name
  · subst e
    simp only [or_true, decide_true, Bool.not_true, Bool.and_false, true_and, true_iff]
    exact ⟨m, (h.found ha).1, hq, rfl⟩
  · simp [e]
theorem Met.left_ (h : SymMap w b cnt D S) (hM : Met q S left ns) {m : Sm} (hl : left (klS m.name) = true) (ha : ∀ z, D.atKey (klS m.name) z = symD m) (hq : q m = false) : Met q S (fun z => left z && !z.sameKey (klS m.name)) ns := by
  refine ⟨hM.once, fun s => ?_⟩
  rw [hM.mem s, same_klS]
  by_cases e : s = m.name
  · subst e
    simp only [decide_true, Bool.not_true, Bool.and_false, true_and, hl, Bool.true_eq_false, false_and, false_iff]
    rintro ⟨x, hx, hqx, e⟩
    have h2 := h.at_ x hx (.lit (.bool true))
    rw [e, ha] at h2
    rw [← symD_inj h2, hq] at hqx
    cases hqx
  · simp [e]
theorem Met.done (hM : Met q S left ns) (hl : ∀ kl, left kl = false) (s : ByteArray) : s ∈ ns ↔ s ∈ (S.filter q).map Sm.name := by
  rw [hM.mem, hl, List.mem_map]
  simp only [true_and, List.mem_filter]
  constructor
  · rintro ⟨x, h1, h2, h3⟩; exact ⟨x, ⟨h1, h2⟩, h3⟩
  · rintro ⟨x, ⟨h1, h2⟩, h3⟩; exact ⟨x, h1, h2, h3⟩
end

end Go.Proofs.Ytdbedkjnoppkmaa

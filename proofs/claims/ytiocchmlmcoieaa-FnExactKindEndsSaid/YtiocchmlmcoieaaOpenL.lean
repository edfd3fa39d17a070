/-
  Objects in a list that came in, opened.
-/
import Derived.Test.YtiocchmlmcoieaaOpenO
import Derived.Test.YtiocchmlmcoieaaLnkV
namespace Go.Proofs.Ytiocchmlmcoieaa
open Go.ChangeShapes Go.WideShapes Go.ChangeAt Go.RowKit Go.Deep

section
variable {H : Type} {enc : TypeId × Value → H} {W : World} {held : Bool}
set_option maxRecDepth 100000 in
/-- An object's cells, read. -/
theorem openObjL {fuel base : Nat} {cs : List Value} {x : DataW H × List MemPlace} (hsz : cs.length = 2) (hf : DataW.trod enc Try.prog W base (fun _ => true) held fuel 73 cs = some x) :
    ∃ y : Oj, cs = [.slice y.a1 y.l.length y.c1, .slice y.a2 y.ms.length y.c2] ∧ Sects W W.heap.size y.a1 y.l ∧ Syms W W.heap.size y.a2 y.ms ∧ y.fits := by
  obtain ⟨xs, n, _, _, _, hxl, hg⟩ := DataW.trod_struct Try.underlying73 hf
  have get : ∀ i, i < 2 → ∃ y, xs[i]? = some y := fun i hi => ⟨_, List.getElem?_eq_getElem (by rw [hxl]; exact hi)⟩
  match cs, hsz with
  | [v0, v1], _ =>
    obtain ⟨y0, h0⟩ := get 0 (by omega)
    obtain ⟨y1, h1⟩ := get 1 (by omega)
    have t0 := (hg 0 _ rfl).trans h0
    have t1 := (hg 1 _ rfl).trans h1
    simp [Try.cells_secs, Try.cells_syms] at t0 t1
    obtain ⟨a1, c1, l, rfl, k1, k2, k3⟩ := openSecs t0
    obtain ⟨a2, c2, ms, rfl, q1, q2, q3⟩ := openSyms t1
    exact ⟨⟨l, ms, a1, c1, a2, c2⟩, rfl, k2, q2, k1, q1, k3, q3⟩
set_option maxRecDepth 100000 in
/-- A row of objects, read. -/
theorem openObjs {fuel base : Nat} {v : Value} {x : DataW H × List MemPlace} (h : DataW.trod enc Try.prog W base (fun _ => true) held fuel 45 [v] = some x) :
    ∃ (a : Option Addr) (c : Nat) (l : List Oj), v = .slice a l.length c ∧ l.length ≤ 9223372036854775807 ∧ Objs W W.heap.size a l ∧ ∀ y ∈ l, y.fits := by
  rcases open_slice Try.underlying45 h with ⟨e, _⟩ | ⟨a, len, cap, m, n, D, Pl, e, _, hlc, hcm, hm, _, hi⟩
  · simp at e; subst e
    exact ⟨none, 0, [], rfl, by simp, Objs.nil, by simp⟩
  · simp at e; subst e
    simp only [if_true] at hm
    subst hm
    have hx : ∀ i, ∃ y : Oj, i < len → W.cell? ((a.add (i * 2)).add 0) = some (.slice y.a1 y.l.length y.c1) ∧ W.cell? ((a.add (i * 2)).add 1) = some (.slice y.a2 y.ms.length y.c2) ∧ Sects W W.heap.size y.a1 y.l ∧ Syms W W.heap.size y.a2 y.ms ∧ y.fits := fun i => by
      by_cases hil : i < len
      · obtain ⟨cs, hc, ht⟩ := hi i (by omega)
        rw [Try.cells_lobj] at hc
        obtain ⟨_, hl, hat⟩ := World.cells?_some hc
        obtain ⟨y, hy⟩ := openObjL hl ht
        refine ⟨y, fun _ => ?_⟩
        obtain ⟨rfl, h1, h2, h3⟩ := hy
        exact ⟨by rw [hat 0 (by omega)]; rfl, by rw [hat 1 (by omega)]; rfl, h1, h2, h3⟩
      · exact ⟨⟨[], [], none, 0, none, 0⟩, fun h => absurd h hil⟩
    obtain ⟨F, hF⟩ : ∃ F : Nat → Oj, ∀ i, i < len → W.cell? ((a.add (i * 2)).add 0) = some (.slice (F i).a1 (F i).l.length (F i).c1) ∧ W.cell? ((a.add (i * 2)).add 1) = some (.slice (F i).a2 (F i).ms.length (F i).c2) ∧ Sects W W.heap.size (F i).a1 (F i).l ∧ Syms W W.heap.size (F i).a2 (F i).ms ∧ (F i).fits :=
      ⟨fun i => Classical.choose (hx i), fun i => Classical.choose_spec (hx i)⟩
    have hlen : ((List.range len).map F).length = len := by simp
    have row : 0 < len → ∃ b off, a = ⟨b, off, none⟩ ∧ b < W.heap.size := fun hn => by
      obtain ⟨b, off, spot⟩ := a
      have h0 := (hF 0 hn).1
      have hspot : spot = none := by
        have := World.cell?_spot h0
        simpa [Addr.add] using this
      subst hspot
      have hlt := lt_of_cell h0
      exact ⟨b, off, rfl, by simpa [Addr.add] using hlt⟩
    have back : ∀ i y, ((List.range len).map F)[i]? = some y → i < len ∧ F i = y := fun i y hf => by
      have hil : i < len := by
        rcases Nat.lt_or_ge i len with h | h
        · exact h
        · rw [List.getElem?_eq_none (by rw [hlen]; exact h)] at hf; cases hf
      rw [List.getElem?_map, List.getElem?_range hil] at hf
      exact ⟨hil, by simpa using hf⟩
    refine ⟨some a, m, (List.range len).map F, by rw [hlen], by rw [hlen]; unfold maxLen at hcm; omega, ⟨fun hn => ?_, fun y hy => ?_, fun y hy => ?_⟩, fun y hy => ?_⟩
    · rw [hlen] at hn
      obtain ⟨b, off, rfl, hlt⟩ := row hn
      refine ⟨b, off, rfl, hlt, fun i y hf => ?_⟩
      obtain ⟨hil, rfl⟩ := back i y hf
      obtain ⟨k0, k1, _⟩ := hF i hil
      rw [add_add] at k0 k1
      exact ⟨k0, k1⟩
    · obtain ⟨i, hil, rfl⟩ := List.mem_map.1 hy
      exact (hF i (by simpa using hil)).2.2.1
    · obtain ⟨i, hil, rfl⟩ := List.mem_map.1 hy
      exact (hF i (by simpa using hil)).2.2.2.1
    · obtain ⟨i, hil, rfl⟩ := List.mem_map.1 hy
      exact (hF i (by simpa using hil)).2.2.2.2
set_option maxRecDepth 100000 in
/-- Objects that came in. -/
theorem openObjsV {r : Reach} {b0 base : Nat} {v : Value} {d : DataW H} {p : List MemPlace} (hv : Value.okWide Try.prog W r b0 45 v) (h : DataW.Trod enc Try.prog W base (fun _ => true) held 45 v d p) :
    ∃ (a : Option Addr) (c n : Nat) (l : List Oj), v = .slice a n c ∧ n = l.length ∧ Objs W W.heap.size a l ∧ n ≤ 9223372036854775807 ∧ ∀ y ∈ l, y.fits := by
  obtain ⟨a, len, cap, rfl⟩ := okWide_slice Try.underlying45 hv
  obtain ⟨fuel, hf⟩ := h
  obtain ⟨a', c, l, e, h1, h2, h3⟩ := openObjs hf
  injection e with e1 e2 e3
  subst e1; subst e2; subst e3
  exact ⟨a, cap, l.length, l, rfl, rfl, h2, h1, h3⟩
set_option maxRecDepth 100000 in
/-- A text that came in. -/
theorem openTextV {r : Reach} {b0 base : Nat} {v : Value} {d : DataW H} {p : List MemPlace} (hv : Value.okWide Try.prog W r b0 9 v) (h : DataW.Trod enc Try.prog W base (fun _ => true) held 9 v d p) :
    ∃ s : ByteArray, v = .string s ∧ s.size ≤ maxLen := by
  obtain ⟨s, e, _, _, k⟩ := Go.ChangeMaps.open_string Try.underlying9 hv h
  exact ⟨s, e, k⟩
end
end Go.Proofs.Ytiocchmlmcoieaa

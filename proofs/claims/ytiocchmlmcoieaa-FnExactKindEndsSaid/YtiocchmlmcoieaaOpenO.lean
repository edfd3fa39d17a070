/-
  Sections, symbols and objects that came in, opened.
-/
import Derived.Test.YtiocchmlmcoieaaOpenX
import Derived.Test.YtiocchmlmcoieaaWant4
namespace Go.Proofs.Ytiocchmlmcoieaa
open Go.ChangeShapes Go.WideShapes Go.ChangeAt Go.RowKit Go.Deep

theorem Try.cells_lsym : Try.prog.cellsOf 129 = 4 := by kernel_rfl
theorem Try.cells_lobj : Try.prog.cellsOf 73 = 2 := by kernel_rfl
theorem Try.cells_secs : Try.prog.cellsOf 70 = 1 := by kernel_rfl
theorem Try.cells_syms : Try.prog.cellsOf 71 = 1 := by kernel_rfl
section
variable {H : Type} {enc : TypeId × Value → H} {W : World} {held : Bool}
set_option maxRecDepth 100000 in
/-- A section's cells, read. -/
theorem openSectL {fuel base : Nat} {cs : List Value} {x : DataW H × List MemPlace} (hsz : cs.length = 6) (hf : DataW.trod enc Try.prog W base (fun _ => true) held fuel 127 cs = some x) :
    ∃ y : Sp, cs = [.string y.s.name, .int .i64 y.s.kind, .int .i64 y.s.align, .slice y.a1 y.s.bytes.length y.c1, .int .i64 y.s.size, .slice y.a2 y.s.fixs.length y.c2] ∧ Ints W .u8 W.heap.size y.a1 y.s.bytes ∧ Fixs W W.heap.size y.a2 y.s.fixs ∧ y.s.fits := by
  obtain ⟨xs, n, _, _, _, hxl, hg⟩ := DataW.trod_struct Try.underlying127 hf
  have get : ∀ i, i < 6 → ∃ y, xs[i]? = some y := fun i hi => ⟨_, List.getElem?_eq_getElem (by rw [hxl]; exact hi)⟩
  match cs, hsz with
  | [v0, v1, v2, v3, v4, v5], _ =>
    obtain ⟨y0, h0⟩ := get 0 (by omega)
    obtain ⟨y1, h1⟩ := get 1 (by omega)
    obtain ⟨y2, h2⟩ := get 2 (by omega)
    obtain ⟨y3, h3⟩ := get 3 (by omega)
    obtain ⟨y4, h4⟩ := get 4 (by omega)
    obtain ⟨y5, h5⟩ := get 5 (by omega)
    obtain ⟨nm, e0, _, k0⟩ := DataW.trod_string Try.underlying9 ((hg 0 _ rfl).trans h0)
    obtain ⟨n1, e1, _, k1⟩ := DataW.trod_int Try.underlying3 ((hg 1 _ rfl).trans h1)
    obtain ⟨n2, e2, _, k2⟩ := DataW.trod_int Try.underlying3 ((hg 2 _ rfl).trans h2)
    obtain ⟨n4, e4, _, k4⟩ := DataW.trod_int Try.underlying3 ((hg 4 _ rfl).trans h4)
    have t3 := (hg 3 _ rfl).trans h3
    have t5 := (hg 5 _ rfl).trans h5
    simp [Try.cells_int, Try.cells_str] at e0 e1 e2 e4
    simp [Try.cells_u8s, Try.cells_fixs] at t3 t5
    subst e0 e1 e2 e4
    obtain ⟨a2, fs, c2, rfl, hfl, hfx, hfi⟩ := openFixs t5
    obtain ⟨a1, bs, c1, rfl, hbl, hib⟩ : ∃ (a1 : Option Addr) (bs : List Int) (c1 : Nat), v3 = .slice a1 bs.length c1 ∧ bs.length ≤ 9223372036854775807 ∧ Ints W .u8 W.heap.size a1 bs := by
      rcases open_ints Try.underlying22 Try.underlying5 Try.cells_u8 t3 with ⟨hcs, _⟩ | ⟨x, l, c, zs, hcs, _, hl, hm, hz, _, hcell, hwz⟩
      · simp at hcs; subst hcs
        exact ⟨none, [], 0, rfl, by simp, ⟨by simp, fun h => by simp at h⟩⟩
      · simp at hcs; subst hcs
        obtain ⟨bs, hi, hbl, hb9⟩ := Ints.ofRow (w := W) (k := .u8) (a := some x) (len := l) (cap := c) (zs := zs) (.inr ⟨x, rfl, hl, hm, by simpa using hz, hcell, hwz⟩)
        exact ⟨some x, bs, c, by rw [hbl], by omega, hi⟩
    exact ⟨⟨⟨nm, n1, n2, bs, n4, fs⟩, a1, c1, a2, c2⟩, rfl, hib, hfx, ⟨k0, i64_ofWf k1, i64_ofWf k2, i64_ofWf k4, hbl, by unfold maxLen at hfl; omega, hfi⟩⟩
set_option maxRecDepth 100000 in
/-- A symbol's cells, read. -/
theorem openSymL {fuel base : Nat} {cs : List Value} {x : DataW H × List MemPlace} (hsz : cs.length = 4) (hf : DataW.trod enc Try.prog W base (fun _ => true) held fuel 129 cs = some x) :
    ∃ m : Sm, cs = [.string m.name, .int .i64 m.bind, .int .i64 m.loc, .int .i64 m.value] ∧ m.fits := by
  obtain ⟨xs, n, _, _, _, hxl, hg⟩ := DataW.trod_struct Try.underlying129 hf
  have get : ∀ i, i < 4 → ∃ y, xs[i]? = some y := fun i hi => ⟨_, List.getElem?_eq_getElem (by rw [hxl]; exact hi)⟩
  match cs, hsz with
  | [v0, v1, v2, v3], _ =>
    obtain ⟨y0, h0⟩ := get 0 (by omega)
    obtain ⟨y1, h1⟩ := get 1 (by omega)
    obtain ⟨y2, h2⟩ := get 2 (by omega)
    obtain ⟨y3, h3⟩ := get 3 (by omega)
    obtain ⟨nm, e0, _, k0⟩ := DataW.trod_string Try.underlying9 ((hg 0 _ rfl).trans h0)
    obtain ⟨n1, e1, _, k1⟩ := DataW.trod_int Try.underlying3 ((hg 1 _ rfl).trans h1)
    obtain ⟨n2, e2, _, k2⟩ := DataW.trod_int Try.underlying3 ((hg 2 _ rfl).trans h2)
    obtain ⟨n3, e3, _, k3⟩ := DataW.trod_int Try.underlying3 ((hg 3 _ rfl).trans h3)
    simp [Try.cells_int, Try.cells_str] at e0 e1 e2 e3
    subst e0 e1 e2 e3
    exact ⟨⟨nm, n1, n2, n3⟩, rfl, ⟨k0, i64_ofWf k1, i64_ofWf k2, i64_ofWf k3⟩⟩
theorem add_add (b off i j : Nat) : ((⟨b, off, none⟩ : Addr).add i).add j = ⟨b, off + i + j, none⟩ := by
  have e1 : ∀ (o q : Nat), (⟨b, o, none⟩ : Addr).add q = ⟨b, o + q, none⟩ := fun o q => by unfold Addr.add; split <;> simp_all
  rw [e1, e1]
set_option maxRecDepth 100000 in
/-- A row of secs, read. -/
theorem openSecs {fuel base : Nat} {v : Value} {x : DataW H × List MemPlace} (h : DataW.trod enc Try.prog W base (fun _ => true) held fuel 70 [v] = some x) :
    ∃ (a : Option Addr) (c : Nat) (l : List Sp), v = .slice a l.length c ∧ l.length ≤ 9223372036854775807 ∧ Sects W W.heap.size a l ∧ ∀ y ∈ l, y.s.fits := by
  rcases open_slice Try.underlying70 h with ⟨e, _⟩ | ⟨a, len, cap, m, n, D, Pl, e, _, hlc, hcm, hm, _, hi⟩
  · simp at e; subst e
    exact ⟨none, 0, [], rfl, by simp, Sects.nil, by simp⟩
  · simp at e; subst e
    simp only [if_true] at hm
    subst hm
    have hx : ∀ i, ∃ y : Sp, i < len → W.cell? ((a.add (i * 6)).add 0) = some (.string y.s.name) ∧ W.cell? ((a.add (i * 6)).add 1) = some (.int .i64 y.s.kind) ∧ W.cell? ((a.add (i * 6)).add 2) = some (.int .i64 y.s.align) ∧ W.cell? ((a.add (i * 6)).add 3) = some (.slice y.a1 y.s.bytes.length y.c1) ∧ W.cell? ((a.add (i * 6)).add 4) = some (.int .i64 y.s.size) ∧ W.cell? ((a.add (i * 6)).add 5) = some (.slice y.a2 y.s.fixs.length y.c2) ∧ Ints W .u8 W.heap.size y.a1 y.s.bytes ∧ Fixs W W.heap.size y.a2 y.s.fixs ∧ y.s.fits := fun i => by
      by_cases hil : i < len
      · obtain ⟨cs, hc, ht⟩ := hi i (by omega)
        rw [Try.cells_lsect] at hc
        obtain ⟨_, hl, hat⟩ := World.cells?_some hc
        obtain ⟨y, hy⟩ := openSectL hl ht
        refine ⟨y, fun _ => ?_⟩
        obtain ⟨rfl, h1, h2, h3⟩ := hy
        exact ⟨by rw [hat 0 (by omega)]; rfl, by rw [hat 1 (by omega)]; rfl, by rw [hat 2 (by omega)]; rfl, by rw [hat 3 (by omega)]; rfl, by rw [hat 4 (by omega)]; rfl, by rw [hat 5 (by omega)]; rfl, h1, h2, h3⟩
      · exact ⟨⟨⟨⟨#[]⟩, 0, 0, [], 0, []⟩, none, 0, none, 0⟩, fun h => absurd h hil⟩
    obtain ⟨F, hF⟩ : ∃ F : Nat → Sp, ∀ i, i < len → W.cell? ((a.add (i * 6)).add 0) = some (.string (F i).s.name) ∧ W.cell? ((a.add (i * 6)).add 1) = some (.int .i64 (F i).s.kind) ∧ W.cell? ((a.add (i * 6)).add 2) = some (.int .i64 (F i).s.align) ∧ W.cell? ((a.add (i * 6)).add 3) = some (.slice (F i).a1 (F i).s.bytes.length (F i).c1) ∧ W.cell? ((a.add (i * 6)).add 4) = some (.int .i64 (F i).s.size) ∧ W.cell? ((a.add (i * 6)).add 5) = some (.slice (F i).a2 (F i).s.fixs.length (F i).c2) ∧ Ints W .u8 W.heap.size (F i).a1 (F i).s.bytes ∧ Fixs W W.heap.size (F i).a2 (F i).s.fixs ∧ (F i).s.fits :=
      ⟨fun i => Classical.choose (hx i), fun i => Classical.choose_spec (hx i)⟩
    have hlen : ((List.range len).map F).length = len := by simp
    have row : 0 < len → ∃ b off, a = ⟨b, off, none⟩ ∧ b < W.heap.size := fun hn => by
      obtain ⟨b, off, spot⟩ := a
      have h0 := (hF 0 hn).1
      have hspot : spot = none := by
        have := World.cell?_spot h0
        simpa [Addr.add] using this
      subst hspot
      have hlt := lt_of_cell h0
      exact ⟨b, off, rfl, by simpa [Addr.add] using hlt⟩
    have back : ∀ i y, ((List.range len).map F)[i]? = some y → i < len ∧ F i = y := fun i y hf => by
      have hil : i < len := by
        rcases Nat.lt_or_ge i len with h | h
        · exact h
        · rw [List.getElem?_eq_none (by rw [hlen]; exact h)] at hf; cases hf
      rw [List.getElem?_map, List.getElem?_range hil] at hf
      exact ⟨hil, by simpa using hf⟩
    refine ⟨some a, m, (List.range len).map F, by rw [hlen], by rw [hlen]; unfold maxLen at hcm; omega, ⟨fun hn => ?_, fun y hy => ?_, fun y hy => ?_⟩, fun y hy => ?_⟩
    · rw [hlen] at hn
      obtain ⟨b, off, rfl, hlt⟩ := row hn
      refine ⟨b, off, rfl, hlt, fun i y hf => ?_⟩
      obtain ⟨hil, rfl⟩ := back i y hf
      obtain ⟨k0, k1, k2, k3, k4, k5, _⟩ := hF i hil
      rw [add_add] at k0 k1 k2 k3 k4 k5
      exact ⟨k0, k1, k2, k3, k4, k5⟩
    · obtain ⟨i, hil, rfl⟩ := List.mem_map.1 hy
      exact (hF i (by simpa using hil)).2.2.2.2.2.2.1
    · obtain ⟨i, hil, rfl⟩ := List.mem_map.1 hy
      exact (hF i (by simpa using hil)).2.2.2.2.2.2.2.1
    · obtain ⟨i, hil, rfl⟩ := List.mem_map.1 hy
      exact (hF i (by simpa using hil)).2.2.2.2.2.2.2.2
set_option maxRecDepth 100000 in
/-- A row of syms, read. -/
theorem openSyms {fuel base : Nat} {v : Value} {x : DataW H × List MemPlace} (h : DataW.trod enc Try.prog W base (fun _ => true) held fuel 71 [v] = some x) :
    ∃ (a : Option Addr) (c : Nat) (l : List Sm), v = .slice a l.length c ∧ l.length ≤ 9223372036854775807 ∧ Syms W W.heap.size a l ∧ ∀ y ∈ l, y.fits := by
  rcases open_slice Try.underlying71 h with ⟨e, _⟩ | ⟨a, len, cap, m, n, D, Pl, e, _, hlc, hcm, hm, _, hi⟩
  · simp at e; subst e
    exact ⟨none, 0, [], rfl, by simp, Syms.nil, by simp⟩
  · simp at e; subst e
    simp only [if_true] at hm
    subst hm
    have hx : ∀ i, ∃ y : Sm, i < len → W.cell? ((a.add (i * 4)).add 0) = some (.string y.name) ∧ W.cell? ((a.add (i * 4)).add 1) = some (.int .i64 y.bind) ∧ W.cell? ((a.add (i * 4)).add 2) = some (.int .i64 y.loc) ∧ W.cell? ((a.add (i * 4)).add 3) = some (.int .i64 y.value) ∧ y.fits := fun i => by
      by_cases hil : i < len
      · obtain ⟨cs, hc, ht⟩ := hi i (by omega)
        rw [Try.cells_lsym] at hc
        obtain ⟨_, hl, hat⟩ := World.cells?_some hc
        obtain ⟨y, hy⟩ := openSymL hl ht
        refine ⟨y, fun _ => ?_⟩
        obtain ⟨rfl, h1⟩ := hy
        exact ⟨by rw [hat 0 (by omega)]; rfl, by rw [hat 1 (by omega)]; rfl, by rw [hat 2 (by omega)]; rfl, by rw [hat 3 (by omega)]; rfl, h1⟩
      · exact ⟨⟨⟨#[]⟩, 0, 0, 0⟩, fun h => absurd h hil⟩
    obtain ⟨F, hF⟩ : ∃ F : Nat → Sm, ∀ i, i < len → W.cell? ((a.add (i * 4)).add 0) = some (.string (F i).name) ∧ W.cell? ((a.add (i * 4)).add 1) = some (.int .i64 (F i).bind) ∧ W.cell? ((a.add (i * 4)).add 2) = some (.int .i64 (F i).loc) ∧ W.cell? ((a.add (i * 4)).add 3) = some (.int .i64 (F i).value) ∧ (F i).fits :=
      ⟨fun i => Classical.choose (hx i), fun i => Classical.choose_spec (hx i)⟩
    have hlen : ((List.range len).map F).length = len := by simp
    have row : 0 < len → ∃ b off, a = ⟨b, off, none⟩ ∧ b < W.heap.size := fun hn => by
      obtain ⟨b, off, spot⟩ := a
      have h0 := (hF 0 hn).1
      have hspot : spot = none := by
        have := World.cell?_spot h0
        simpa [Addr.add] using this
      subst hspot
      have hlt := lt_of_cell h0
      exact ⟨b, off, rfl, by simpa [Addr.add] using hlt⟩
    have back : ∀ i y, ((List.range len).map F)[i]? = some y → i < len ∧ F i = y := fun i y hf => by
      have hil : i < len := by
        rcases Nat.lt_or_ge i len with h | h
        · exact h
        · rw [List.getElem?_eq_none (by rw [hlen]; exact h)] at hf; cases hf
      rw [List.getElem?_map, List.getElem?_range hil] at hf
      exact ⟨hil, by simpa using hf⟩
    refine ⟨some a, m, (List.range len).map F, by rw [hlen], by rw [hlen]; unfold maxLen at hcm; omega, fun hn => ?_, fun y hy => ?_⟩
    · rw [hlen] at hn
      obtain ⟨b, off, rfl, hlt⟩ := row hn
      refine ⟨b, off, rfl, hlt, fun i y hf => ?_⟩
      obtain ⟨hil, rfl⟩ := back i y hf
      obtain ⟨k0, k1, k2, k3, _⟩ := hF i hil
      rw [add_add] at k0 k1 k2 k3
      exact ⟨k0, k1, k2, k3⟩
    · obtain ⟨i, hil, rfl⟩ := List.mem_map.1 hy
      exact (hF i (by simpa using hil)).2.2.2.2
set_option maxRecDepth 100000 in
/-- Sections that came in. -/
theorem openSectsV {r : Reach} {b0 base : Nat} {v : Value} {d : DataW H} {p : List MemPlace} (hv : Value.okWide Try.prog W r b0 70 v) (h : DataW.Trod enc Try.prog W base (fun _ => true) held 70 v d p) :
    ∃ (a : Option Addr) (c n : Nat) (l : List Sp), v = .slice a n c ∧ n = l.length ∧ Sects W W.heap.size a l ∧ n ≤ 9223372036854775807 ∧ ∀ y ∈ l, y.s.fits := by
  obtain ⟨a, len, cap, rfl⟩ := okWide_slice Try.underlying70 hv
  obtain ⟨fuel, hf⟩ := h
  obtain ⟨a', c, l, e, h1, h2, h3⟩ := openSecs hf
  injection e with e1 e2 e3
  subst e1; subst e2; subst e3
  exact ⟨a, cap, l.length, l, rfl, rfl, h2, h1, h3⟩
set_option maxRecDepth 100000 in
/-- A symbol that came in. -/
theorem openSymV {r : Reach} {b0 base : Nat} {v : Value} {d : DataW H} {p : List MemPlace} (hv : Value.okWide Try.prog W r b0 129 v) (h : DataW.Trod enc Try.prog W base (fun _ => true) held 129 v d p) :
    ∃ s : Sm, v = s.agg ∧ s.fits := by
  obtain ⟨cs, rfl, hsz⟩ := okWide_struct Try.underlying129 hv
  obtain ⟨fuel, hf⟩ := h
  rw [Try.cells_lsym] at hsz
  obtain ⟨l⟩ := cs
  obtain ⟨m, e, hm⟩ := openSymL (cs := l) hsz hf
  subst e
  exact ⟨m, rfl, hm⟩
set_option maxRecDepth 100000 in
/-- An object that came in. -/
theorem openObjV {r : Reach} {b0 base : Nat} {v : Value} {d : DataW H} {p : List MemPlace} (hv : Value.okWide Try.prog W r b0 73 v) (h : DataW.Trod enc Try.prog W base (fun _ => true) held 73 v d p) :
    ∃ (a1 a2 : Option Addr) (c1 c2 n m : Nat) (l : List Sp) (ms : List Sm), v = .agg #[.slice a1 n c1, .slice a2 m c2] ∧ n = l.length ∧ m = ms.length ∧ Sects W W.heap.size a1 l ∧ Syms W W.heap.size a2 ms ∧ n ≤ 9223372036854775807 ∧ m ≤ 9223372036854775807 ∧ (∀ y ∈ l, y.s.fits) ∧ ∀ x ∈ ms, x.fits := by
  obtain ⟨cs, rfl, hsz⟩ := okWide_struct Try.underlying73 hv
  obtain ⟨fuel, hf⟩ := h
  obtain ⟨xs, n, _, _, _, hxl, hg⟩ := DataW.trod_struct Try.underlying73 hf
  have get : ∀ i, i < 2 → ∃ y, xs[i]? = some y := fun i hi => ⟨_, List.getElem?_eq_getElem (by rw [hxl]; exact hi)⟩
  rw [Try.cells_lobj] at hsz
  obtain ⟨l⟩ := cs
  match l, hsz with
  | [v0, v1], _ =>
    obtain ⟨y0, h0⟩ := get 0 (by omega)
    obtain ⟨y1, h1⟩ := get 1 (by omega)
    have t0 := (hg 0 _ rfl).trans h0
    have t1 := (hg 1 _ rfl).trans h1
    simp [Value.cells, Try.cells_secs, Try.cells_syms] at t0 t1
    obtain ⟨a1, c1, l, rfl, k1, k2, k3⟩ := openSecs t0
    obtain ⟨a2, c2, ms, rfl, q1, q2, q3⟩ := openSyms t1
    exact ⟨a1, a2, c1, c2, l.length, ms.length, l, ms, rfl, rfl, rfl, k2, q2, k1, q1, k3, q3⟩
end
end Go.Proofs.Ytiocchmlmcoieaa

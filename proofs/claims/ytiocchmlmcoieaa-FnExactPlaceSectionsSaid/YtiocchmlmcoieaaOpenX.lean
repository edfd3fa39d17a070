/-
  A section that came in, opened.
-/
import Derived.Test.YtiocchmlmcoieaaWant3
import Derived.Deep.Slices
import Derived.Deep.Fields
import Derived.ChangeSame
import Derived.ProofKit
import Derived.OpenShut
import Derived.ShutString
namespace Go.Proofs.Ytiocchmlmcoieaa
open Go.ChangeShapes Go.WideShapes Go.ChangeAt Go.RowKit Go.Deep

theorem Try.cells_lsect : Try.prog.cellsOf 127 = 6 := by kernel_rfl
theorem Try.cells_lfix : Try.prog.cellsOf 143 = 4 := by kernel_rfl
theorem Try.cells_str : Try.prog.cellsOf 9 = 1 := by kernel_rfl
theorem Try.cells_int : Try.prog.cellsOf 3 = 1 := by kernel_rfl
theorem Try.cells_u8 : Try.prog.cellsOf 5 = 1 := by kernel_rfl
theorem Try.cells_u8s : Try.prog.cellsOf 22 = 1 := by kernel_rfl
theorem Try.cells_fixs : Try.prog.cellsOf 125 = 1 := by kernel_rfl
section
variable {H : Type} {enc : TypeId × Value → H} {W : World} {spare : Nat → Bool} {held : Bool}
theorem i64_ofWf {n : Int} (h : (Lit.int .i64 n).wf = true) : I64 n := by
  simp [Lit.wf, IntKind.min, IntKind.max, IntKind.signed, IntKind.bits] at h
  exact ⟨by omega, by omega⟩
set_option maxRecDepth 100000 in
/-- A fixup's cells, read. -/
theorem openFix {fuel base : Nat} {a : Addr} {cs : List Value} {x : DataW H × List MemPlace} (hc : W.cells? base a 4 = some cs) (h : DataW.trod enc Try.prog W base spare held fuel 143 cs = some x) :
    ∃ f : Fx, W.cell? (a.add 0) = some (.int .i64 f.pl) ∧ W.cell? (a.add 1) = some (.int .i64 f.kind) ∧ W.cell? (a.add 2) = some (.int .i64 f.to) ∧ W.cell? (a.add 3) = some (.int .i64 f.add) ∧ I64 f.pl ∧ I64 f.kind ∧ I64 f.to ∧ I64 f.add := by
  obtain ⟨_, hl, hat⟩ := World.cells?_some hc
  obtain ⟨xs, n, _, _, _, hxl, hg⟩ := DataW.trod_struct Try.underlying143 h
  have get : ∀ i, i < 4 → ∃ y, xs[i]? = some y := fun i hi => ⟨_, List.getElem?_eq_getElem (by rw [hxl]; exact hi)⟩
  match cs, hl with
  | [v0, v1, v2, v3], _ =>
    obtain ⟨y0, h0⟩ := get 0 (by omega)
    obtain ⟨y1, h1⟩ := get 1 (by omega)
    obtain ⟨y2, h2⟩ := get 2 (by omega)
    obtain ⟨y3, h3⟩ := get 3 (by omega)
    obtain ⟨n0, e0, _, k0⟩ := DataW.trod_int Try.underlying3 ((hg 0 _ rfl).trans h0)
    obtain ⟨n1, e1, _, k1⟩ := DataW.trod_int Try.underlying3 ((hg 1 _ rfl).trans h1)
    obtain ⟨n2, e2, _, k2⟩ := DataW.trod_int Try.underlying3 ((hg 2 _ rfl).trans h2)
    obtain ⟨n3, e3, _, k3⟩ := DataW.trod_int Try.underlying3 ((hg 3 _ rfl).trans h3)
    simp [Try.cells_int] at e0 e1 e2 e3
    subst e0 e1 e2 e3
    exact ⟨⟨n0, n1, n2, n3⟩, by rw [hat 0 (by omega)]; rfl, by rw [hat 1 (by omega)]; rfl, by rw [hat 2 (by omega)]; rfl, by rw [hat 3 (by omega)]; rfl, i64_ofWf k0, i64_ofWf k1, i64_ofWf k2, i64_ofWf k3⟩
set_option maxRecDepth 100000 in
/-- A row of fixups, read. -/
theorem openFixs {fuel base : Nat} {v : Value} {x : DataW H × List MemPlace} (h : DataW.trod enc Try.prog W base (fun _ => true) held fuel 125 [v] = some x) :
    ∃ (a : Option Addr) (fs : List Fx) (c : Nat), v = .slice a fs.length c ∧ fs.length ≤ maxLen ∧ Fixs W W.heap.size a fs ∧ ∀ f ∈ fs, I64 f.pl ∧ I64 f.kind ∧ I64 f.to ∧ I64 f.add := by
  rcases open_slice Try.underlying125 h with ⟨e, _⟩ | ⟨a, len, cap, m, n, D, Pl, e, _, hlc, hcm, hm, _, hi⟩
  · simp at e; subst e
    exact ⟨none, [], 0, rfl, by simp, Fixs.nil, by simp⟩
  · simp at e; subst e
    simp only [if_true] at hm
    subst hm
    have hx : ∀ i, ∃ f : Fx, i < len → W.cell? ((a.add (i * 4)).add 0) = some (.int .i64 f.pl) ∧ W.cell? ((a.add (i * 4)).add 1) = some (.int .i64 f.kind) ∧ W.cell? ((a.add (i * 4)).add 2) = some (.int .i64 f.to) ∧ W.cell? ((a.add (i * 4)).add 3) = some (.int .i64 f.add) ∧ I64 f.pl ∧ I64 f.kind ∧ I64 f.to ∧ I64 f.add := fun i => by
      by_cases hil : i < len
      · obtain ⟨cs, hc, ht⟩ := hi i (by omega)
        rw [Try.cells_lfix] at hc
        obtain ⟨f, hf⟩ := openFix hc ht
        exact ⟨f, fun _ => hf⟩
      · exact ⟨⟨0, 0, 0, 0⟩, fun h => absurd h hil⟩
    obtain ⟨F, hF⟩ : ∃ F : Nat → Fx, ∀ i, i < len → W.cell? ((a.add (i * 4)).add 0) = some (.int .i64 (F i).pl) ∧ W.cell? ((a.add (i * 4)).add 1) = some (.int .i64 (F i).kind) ∧ W.cell? ((a.add (i * 4)).add 2) = some (.int .i64 (F i).to) ∧ W.cell? ((a.add (i * 4)).add 3) = some (.int .i64 (F i).add) ∧ I64 (F i).pl ∧ I64 (F i).kind ∧ I64 (F i).to ∧ I64 (F i).add :=
      ⟨fun i => Classical.choose (hx i), fun i => Classical.choose_spec (hx i)⟩
    have hlen : ((List.range len).map F).length = len := by simp
    refine ⟨some a, (List.range len).map F, m, by rw [hlen], by rw [hlen]; omega, fun hn => ?_, fun f hf => ?_⟩
    · rw [hlen] at hn
      obtain ⟨b, off, spot⟩ := a
      have h0 := (hF 0 hn).1
      have hspot : spot = none := by
        have := World.cell?_spot h0
        simpa [Addr.add] using this
      subst hspot
      have hlt := lt_of_cell h0
      refine ⟨b, off, rfl, by simpa [Addr.add] using hlt, fun i f hf => ?_⟩
      have hil : i < len := by
        rcases Nat.lt_or_ge i len with h | h
        · exact h
        · rw [List.getElem?_eq_none (by rw [hlen]; exact h)] at hf; cases hf
      have e : F i = f := by
        rw [List.getElem?_map, List.getElem?_range hil] at hf
        simpa using hf
      subst e
      obtain ⟨k0, k1, k2, k3, _⟩ := hF i hil
      have ad : ∀ j, ((⟨b, off, none⟩ : Addr).add (i * 4)).add j = ⟨b, off + i * 4 + j, none⟩ := fun j => by
        have e1 : ∀ (o q : Nat), (⟨b, o, none⟩ : Addr).add q = ⟨b, o + q, none⟩ := fun o q => by unfold Addr.add; split <;> simp_all
        rw [e1, e1]
      rw [ad] at k0 k1 k2 k3
      exact ⟨k0, k1, k2, k3⟩
    · obtain ⟨i, hil, rfl⟩ := List.mem_map.1 hf
      exact (hF i (by simpa using hil)).2.2.2.2
set_option maxRecDepth 100000 in
/-- A section that came in, read. -/
theorem openSect {r : Reach} {b0 base : Nat} {v : Value} {d : DataW H} {p : List MemPlace} (hv : Value.okWide Try.prog W r b0 127 v) (h : DataW.Trod enc Try.prog W base (fun _ => true) held 127 v d p) :
    ∃ (s : Sx) (a1 : Option Addr) (c1 : Nat) (a2 : Option Addr) (c2 : Nat), v = s.agg a1 c1 a2 c2 ∧ Ints W .u8 W.heap.size a1 s.bytes ∧ Fixs W W.heap.size a2 s.fixs ∧ s.fits := by
  obtain ⟨cs, rfl, hsz⟩ := okWide_struct Try.underlying127 hv
  obtain ⟨fuel, hf⟩ := h
  obtain ⟨xs, n, _, _, _, hxl, hg⟩ := DataW.trod_struct Try.underlying127 hf
  have get : ∀ i, i < 6 → ∃ y, xs[i]? = some y := fun i hi => ⟨_, List.getElem?_eq_getElem (by rw [hxl]; exact hi)⟩
  rw [Try.cells_lsect] at hsz
  obtain ⟨l⟩ := cs
  match l, hsz with
  | [v0, v1, v2, v3, v4, v5], _ =>
    obtain ⟨y0, h0⟩ := get 0 (by omega)
    obtain ⟨y1, h1⟩ := get 1 (by omega)
    obtain ⟨y2, h2⟩ := get 2 (by omega)
    obtain ⟨y3, h3⟩ := get 3 (by omega)
    obtain ⟨y4, h4⟩ := get 4 (by omega)
    obtain ⟨y5, h5⟩ := get 5 (by omega)
    obtain ⟨nm, e0, _, k0⟩ := DataW.trod_string Try.underlying9 ((hg 0 _ rfl).trans h0)
    obtain ⟨n1, e1, _, k1⟩ := DataW.trod_int Try.underlying3 ((hg 1 _ rfl).trans h1)
    obtain ⟨n2, e2, _, k2⟩ := DataW.trod_int Try.underlying3 ((hg 2 _ rfl).trans h2)
    obtain ⟨n4, e4, _, k4⟩ := DataW.trod_int Try.underlying3 ((hg 4 _ rfl).trans h4)
    have t3 := (hg 3 _ rfl).trans h3
    have t5 := (hg 5 _ rfl).trans h5
    simp [Value.cells, Try.cells_int, Try.cells_str] at e0 e1 e2 e4
    simp [Value.cells, Try.cells_u8s, Try.cells_fixs] at t3 t5
    subst e0 e1 e2 e4
    obtain ⟨a2, fs, c2, rfl, hfl, hfx, hfi⟩ := openFixs t5
    obtain ⟨a1, bs, c1, rfl, hbl, hib⟩ : ∃ (a1 : Option Addr) (bs : List Int) (c1 : Nat), v3 = .slice a1 bs.length c1 ∧ bs.length ≤ 9223372036854775807 ∧ Ints W .u8 W.heap.size a1 bs := by
      rcases open_ints Try.underlying22 Try.underlying5 Try.cells_u8 t3 with ⟨hcs, _⟩ | ⟨x, l, c, zs, hcs, _, hl, hm, hz, _, hcell, hwz⟩
      · simp at hcs; subst hcs
        exact ⟨none, [], 0, rfl, by simp, ⟨by simp, fun h => by simp at h⟩⟩
      · simp at hcs; subst hcs
        obtain ⟨bs, hi, hbl, hb9⟩ := Ints.ofRow (w := W) (k := .u8) (a := some x) (len := l) (cap := c) (zs := zs) (.inr ⟨x, rfl, hl, hm, by simpa using hz, hcell, hwz⟩)
        exact ⟨some x, bs, c, by rw [hbl], by omega, hi⟩
    exact ⟨⟨nm, n1, n2, bs, n4, fs⟩, a1, c1, a2, c2, rfl, hib, hfx, ⟨k0, i64_ofWf k1, i64_ofWf k2, i64_ofWf k4, hbl, by unfold maxLen at hfl; omega, hfi⟩⟩
end
end Go.Proofs.Ytiocchmlmcoieaa

/-
  A header that came in, opened.
-/
import Derived.Test.YtplkhpkbfhpjeaaWant5
import Derived.Deep.Slices
import Derived.Deep.Fields
import Derived.ChangeSame
import Derived.ProofKit
import Derived.OpenShut
import Derived.ShutString
namespace Go.Proofs.Ytplkhpkbfhpjeaa
open Go.ChangeShapes Go.WideShapes Go.ChangeAt Go.RowKit Go.Deep

theorem Try.cells_lhd : Try.prog.cellsOf 34 = 4 := by kernel_rfl
theorem Try.cells_int : Try.prog.cellsOf 3 = 1 := by kernel_rfl
section
variable {H : Type} {enc : TypeId × Value → H} {W : World} {held : Bool}
theorem bound_ofWf {n : Int} (h : (Lit.int .i64 n).wf = true) : -9223372036854775808 ≤ n ∧ n ≤ 9223372036854775807 := by
  simp [Lit.wf, IntKind.min, IntKind.max, IntKind.signed, IntKind.bits] at h
  exact ⟨by omega, by omega⟩
set_option maxRecDepth 100000 in
/-- A header's cells, read. -/
theorem openHdL {fuel base : Nat} {cs : List Value} {x : DataW H × List MemPlace} (hsz : cs.length = 4) (hf : DataW.trod enc Try.prog W base (fun _ => true) held fuel 34 cs = some x) :
    ∃ m : Hd, cs = [.int .i64 m.sec, .int .i64 m.sym, .int .i64 m.fix, .int .i64 m.nam] ∧ m.fits := by
  obtain ⟨xs, n, _, _, _, hxl, hg⟩ := DataW.trod_struct Try.underlying34 hf
  have get : ∀ i, i < 4 → ∃ y, xs[i]? = some y := fun i hi => ⟨_, List.getElem?_eq_getElem (by rw [hxl]; exact hi)⟩
  match cs, hsz with
  | [v0, v1, v2, v3], _ =>
    obtain ⟨y0, h0⟩ := get 0 (by omega)
    obtain ⟨y1, h1⟩ := get 1 (by omega)
    obtain ⟨y2, h2⟩ := get 2 (by omega)
    obtain ⟨y3, h3⟩ := get 3 (by omega)
    obtain ⟨n0, e0, _, k0⟩ := DataW.trod_int Try.underlying3 ((hg 0 _ rfl).trans h0)
    obtain ⟨n1, e1, _, k1⟩ := DataW.trod_int Try.underlying3 ((hg 1 _ rfl).trans h1)
    obtain ⟨n2, e2, _, k2⟩ := DataW.trod_int Try.underlying3 ((hg 2 _ rfl).trans h2)
    obtain ⟨n3, e3, _, k3⟩ := DataW.trod_int Try.underlying3 ((hg 3 _ rfl).trans h3)
    simp [Try.cells_int] at e0 e1 e2 e3
    subst e0 e1 e2 e3
    exact ⟨⟨n0, n1, n2, n3⟩, rfl, ⟨bound_ofWf k0, bound_ofWf k1, bound_ofWf k2, bound_ofWf k3⟩⟩
set_option maxRecDepth 100000 in
/-- A header that came in. -/
theorem openHdV {r : Reach} {b0 base : Nat} {v : Value} {d : DataW H} {p : List MemPlace} (hv : Value.okWide Try.prog W r b0 34 v) (h : DataW.Trod enc Try.prog W base (fun _ => true) held 34 v d p) :
    ∃ s : Hd, v = s.agg ∧ s.fits := by
  obtain ⟨cs, rfl, hsz⟩ := okWide_struct Try.underlying34 hv
  obtain ⟨fuel, hf⟩ := h
  rw [Try.cells_lhd] at hsz
  obtain ⟨l⟩ := cs
  obtain ⟨m, e, hm⟩ := openHdL (cs := l) hsz hf
  subst e
  exact ⟨m, rfl, hm⟩
end

end Go.Proofs.Ytplkhpkbfhpjeaa

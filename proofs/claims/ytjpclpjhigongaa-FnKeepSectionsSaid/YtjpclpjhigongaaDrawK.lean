/-
  spec.DrawHideNames: an object that was drawn, and names.
-/
import Derived.Test.YtjpclpjhigongaaDrawO
import Derived.Test.YtjpclpjhigongaaRoB
import Derived.Laws.ResultCell
import Derived.Deep.RegionWith
import Derived.Deep.CutBlock
namespace Go.Proofs.Ytjpclpjhigongaa
open Go.RowKit

theorem results_cell_rowK {P : Program} {fn : Func} {p u : Tmp} {ty : TypeId} (h : fn.results = #[.cell p ty, .tmp u]) (tmps : Array Value) (w : World) (g : Nat) (t : TypeId) (cs : Array Value) (fr : Nat × Nat) (d : TypeDesc)
    (hp : tmps.getD p undef = .pointer (some ⟨g, 0, none⟩)) (hg : w.heap[g]? = some (.cells cs t fr))
    (hu : P.underlying ty = some d) (hd : (match d with | .struct _ | .array _ _ => true | _ => false) = true) (hi : (P.info? ty).map (·.size) = some cs.size) :
    (results fn tmps).run P w = .ok (.tuple #[.agg cs, tmps.getD u undef]) w := by
  rw [results_cell_tmp h, hp]
  simp [asAddr, run_loadVar_row w g t ty cs fr d hg hu hd hi, Result.andThen]
/-- An object and names that were drawn. -/
def GotK (w : World) (e : Ending) (w' : World) : Prop := ∃ (ss : List Sp) (ms : List Sm) (K : List ByteArray) (a1 a2 ka : Option Addr) (c1 c2 kc : Nat), e = .returned (.tuple #[.agg #[.slice a1 ss.length c1, .slice a2 ms.length c2], .slice ka K.length kc]) ∧ ss.length ≤ 8 ∧ ms.length ≤ 20 ∧ (∀ y ∈ ss, y.s.small) ∧ (∀ m ∈ ms, m.small) ∧ Sects w' w'.heap.size a1 ss ∧ Syms w' w'.heap.size a2 ms ∧ Vals w' w'.heap.size ka (K.map Value.string) ∧ K.length ≤ 7 ∧ Below w.heap.size w w'
































































































end Go.Proofs.Ytjpclpjhigongaa

/-
  Contract of the draw of a symbol. Sections that were drawn, one behind the other. The draw of a symbol and sections.
-/
import Derived.Deep.Cut
import Derived.Deep.CutRange
import Derived.Deep.CutBlock
import Derived.Deep.RegionHeld3
import Derived.IntWalk
import Derived.Laws.ResultCell
import Derived.Test.YtdmdjlnpbmiadaaSecs
import Derived.Test.YtdmdjlnpbmiadaaDrawN
import Derived.Test.YtdmdjlnpbmiadaaDrA
import Derived.Test.YtdmdjlnpbmiadaaRegionV
import Derived.Test.YtdmdjlnpbmiadaaRowsX
/- Contract of the draw of a symbol. -/
namespace Go.Proofs.Ytdmdjlnpbmiadaa
open Go.RowKit

/-- The cells of sections, in a row that is not the reader's block. -/
def RowX (w : World) (g : Nat) (a : Option Addr) (l : List Sp) : Prop :=
  0 < l.length → ∃ b off, a = some ⟨b, off, none⟩ ∧ b < w.heap.size ∧ b ≠ g ∧ ∀ i y, l[i]? = some y → SecAt w b (off + i * 6) y
theorem RowX.grown {w w' : World} {g : Nat} {a : Option Addr} {l : List Sp} (h : RowX w g a l) (hg : w.grownBy w' (some g)) : RowX w' g a l := fun hn => by
  obtain ⟨b, off, ha, hb, hbg, hc⟩ := h hn
  exact ⟨b, off, ha, Nat.lt_of_lt_of_le hb hg.size, hbg, fun i y hi => (hc i y hi).keep fun _ => World.cell?_of_block (hg.block b hb (fun e => by injection e with e; exact hbg e))⟩
theorem RowX.alloc {w : World} {g : Nat} {a : Option Addr} {l : List Sp} (h : RowX w g a l) (o : Obj) : RowX (w.alloc o) g a l := fun hn => by
  obtain ⟨b, off, ha, hb, hbg, hc⟩ := h hn
  exact ⟨b, off, ha, by simp; omega, hbg, fun i y hi => (hc i y hi).keep fun j => World.cell?_alloc_lt _ _ _ (by show b < w.heap.size; exact hb)⟩
/-- A symbol of small numbers. -/
structure Sm.small (m : Sm) : Prop where
  name : m.name.size ≤ 9
  bind0 : -1 ≤ m.bind
  bind1 : m.bind ≤ 3
  loc0 : -3 ≤ m.loc
  loc1 : m.loc ≤ 100
  value0 : -1 ≤ m.value
  value1 : m.value ≤ 60001








section
variable {w W W' : World} {B g gs : Nat} {P P' : Int} {m : Sm}

















end
/-- What the draw of a symbol leaves. -/
def DrawnY (w : World) (B g : Nat) (P : Int) (e : Ending) (w' : World) : Prop :=
  ∃ m : Sm, e = .returned m.agg ∧ m.small ∧ Rd w' B g (P + 30) ∧ w.grownBy w' (some g)























































































































































































































































































































end Go.Proofs.Ytdmdjlnpbmiadaa
/- Sections that were drawn, one behind the other. -/
namespace Go.Proofs.Ytdmdjlnpbmiadaa
open Go.RowKit






section
variable {W W' : World} {base : Nat} {v : Value} {l : List Sp}


























































theorem Sx.small.long {s : Sx} (h : s.small) : 0 ≤ s.long ∨ s.long = -1 := by
  unfold Sx.long
  have := h.size0
  split <;> omega
end

end Go.Proofs.Ytdmdjlnpbmiadaa
/- The draw of a symbol and sections. -/
namespace Go.Proofs.Ytdmdjlnpbmiadaa
open Go.RowKit

theorem results_cell_row3 {P : Program} {fn : Func} {p u : Tmp} {ty : TypeId} (h : fn.results = #[.cell p ty, .tmp u]) (tmps : Array Value) (w : World) (g : Nat) (t : TypeId) (cs : Array Value) (fr : Nat × Nat) (d : TypeDesc)
    (hp : tmps.getD p undef = .pointer (some ⟨g, 0, none⟩)) (hg : w.heap[g]? = some (.cells cs t fr))
    (hu : P.underlying ty = some d) (hd : (match d with | .struct _ | .array _ _ => true | _ => false) = true) (hi : (P.info? ty).map (·.size) = some cs.size) :
    (results fn tmps).run P w = .ok (.tuple #[.agg cs, tmps.getD u undef]) w := by
  rw [results_cell_tmp h, hp]
  simp [asAddr, run_loadVar_row w g t ty cs fr d hg hu hd hi, Result.andThen]
theorem Sx.small.longs {s : Sx} (h : s.small) (hz : 0 ≤ s.size) : 0 ≤ s.long ∧ s.long ≤ 100 ∧ s.bytes.length ≤ 100 := by
  have := h.size1
  have := h.bytes
  unfold Sx.long
  split <;> omega























































































































end Go.Proofs.Ytdmdjlnpbmiadaa

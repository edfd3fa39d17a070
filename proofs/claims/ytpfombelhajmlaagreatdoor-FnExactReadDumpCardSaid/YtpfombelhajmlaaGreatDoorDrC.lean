import Derived.Deep.Cut
import Derived.Deep.CutRange
import Derived.Deep.CutBlock
import Derived.Deep.RegionHeld3
import Derived.IntWalk
import Derived.Laws.ResultCell
import Derived.Test.YtpfombelhajmlaaGreatDoorSecs
import Derived.Test.YtpfombelhajmlaaGreatDoorDrawN
import Derived.Test.YtpfombelhajmlaaGreatDoorDrA
import Derived.Test.YtpfombelhajmlaaGreatDoorRegionV
import Derived.Test.YtpfombelhajmlaaGreatDoorSR
namespace Go.Proofs.YtpfombelhajmlaaGreatDoor
open Go.RowKit
def RowX (w : World) (g : Nat) (a : Option Addr) (l : List Sp) : Prop :=
  0 < l.length → ∃ b off, a = some ⟨b, off, none⟩ ∧ b < w.heap.size ∧ b ≠ g ∧ ∀ i y, l[i]? = some y → SecAt w b (off + i * 6) y
theorem RowX.grown {w w' : World} {g : Nat} {a : Option Addr} {l : List Sp} (h : RowX w g a l) (hg : w.grownBy w' (some g)) : RowX w' g a l := fun hn => by
  obtain ⟨b, off, ha, hb, hbg, hc⟩ := h hn
  exact ⟨b, off, ha, Nat.lt_of_lt_of_le hb hg.size, hbg, fun i y hi => (hc i y hi).keep fun _ => World.cell?_of_block (hg.block b hb (fun e => by injection e with e; exact hbg e))⟩
theorem RowX.alloc {w : World} {g : Nat} {a : Option Addr} {l : List Sp} (h : RowX w g a l) (o : Obj) : RowX (w.alloc o) g a l := fun hn => by
  obtain ⟨b, off, ha, hb, hbg, hc⟩ := h hn
  exact ⟨b, off, ha, by simp; omega, hbg, fun i y hi => (hc i y hi).keep fun j => World.cell?_alloc_lt _ _ _ (by show b < w.heap.size; exact hb)⟩
structure Sm.small (m : Sm) : Prop where
  name : m.name.size ≤ 9
  bind0 : -1 ≤ m.bind
  bind1 : m.bind ≤ 3
  loc0 : -3 ≤ m.loc
  loc1 : m.loc ≤ 100
  value0 : -1 ≤ m.value
  value1 : m.value ≤ 60001
structure DY (w W : World) (B g gs : Nat) (P : Int) (m : Sm) : Prop where
  rd : Rd W B g P
  grown : w.grownBy W (some g)
  res : Has W w.heap.size 58 #[.string ⟨#[]⟩, .int .i64 0, .int .i64 0, .int .i64 0]
  high : w.heap.size < gs
  sym : Has W gs 58 #[.string m.name, .int .i64 m.bind, .int .i64 m.loc, .int .i64 m.value]
  small : m.small
section
variable {w W W' : World} {B g gs : Nat} {P P' : Int} {m : Sm}
theorem DY.more (d : DY w W B g gs P m) (hP : P ≤ P') : DY w W B g gs P' m := { d with rd := d.rd.mono hP }
theorem DY.alloc (d : DY w W B g gs P m) (o : Obj) : DY w (W.alloc o) B g gs P m :=
  ⟨d.rd.alloc o, only_alloc d.grown o, d.res.alloc o, d.high, d.sym.alloc o, d.small⟩
theorem DY.kept (d : DY w W B g gs P m) (_ : g < w.heap.size) (hg : W.grownBy W' none) : DY w W' B g gs P m :=
  ⟨d.rd.grown hg (by simp), only_trans d.grown ⟨hg.os, hg.tape, hg.output, hg.size, fun k hk _ => hg.block k hk (by simp)⟩, d.res.grown hg (by simp), d.high, d.sym.grown hg (by simp), d.small⟩
theorem DY.put (d : DY w W B g gs P m) (hl : g < w.heap.size) (k : Nat) (u : Value) {t : Sm} (ht : t.small)
    (he : (#[.string m.name, .int .i64 m.bind, .int .i64 m.loc, .int .i64 m.value] : Array Value).setIfInBounds k u = #[.string t.name, .int .i64 t.bind, .int .i64 t.loc, .int .i64 t.value]) :
    DY w (W.setCell ⟨gs, k, none⟩ u) B g gs P t := by
  have hg : W.grownBy (W.setCell ⟨gs, k, none⟩ u) (some gs) := only_put' (g := gs) k u
  have hh := d.high
  have hB := d.rd.1
  have hgr : w.grownBy (W.setCell ⟨gs, k, none⟩ u) (some g) := ⟨hg.os.trans d.grown.os, hg.tape.trans d.grown.tape, hg.output.trans d.grown.output, Nat.le_trans d.grown.size hg.size, fun i hi hne => (hg.block i (Nat.lt_of_lt_of_le hi d.grown.size) (fun e => by injection e with e; omega)).trans (d.grown.block i hi hne)⟩
  refine ⟨d.rd.grown hg (fun j hj => by injection hj with hj; omega), hgr, d.res.away (p := ⟨gs, k, none⟩) (by show _ ≠ gs; omega) u, hh, ?_, ht⟩
  rw [← he]; exact d.sym.put k u
end
end Go.Proofs.YtpfombelhajmlaaGreatDoor
namespace Go.Proofs.YtpfombelhajmlaaGreatDoor
open Go.RowKit
structure SL (W : World) (base : Nat) (v : Value) (l : List Sp) : Prop where
  row : W.ownsRow base 52 6 v l.length (flatS l)
  small : ∀ y ∈ l, y.s.small
  own1 : ∀ y ∈ l, W.ownsRow base 5 1 (.slice y.a1 y.s.bytes.length y.c1) y.s.bytes.length (y.s.bytes.map (Value.int .u8))
  own2 : ∀ y ∈ l, W.ownsRow base 55 4 (.slice y.a2 y.s.fixs.length y.c2) y.s.fixs.length (flatF y.s.fixs)
section
variable {W W' : World} {base : Nat} {v : Value} {l : List Sp}
theorem SL.low (h : SL W base v l) {g : Nat} (hg : g < base) (hw : W.grownBy W' (some g)) : SL W' base v l :=
  ⟨h.row.kept hw (row_high h.row hg), h.small, fun y hy => (h.own1 y hy).kept hw (row_high (h.own1 y hy) hg), fun y hy => (h.own2 y hy).kept hw (row_high (h.own2 y hy) hg)⟩
theorem SL.kept (h : SL W base v l) (hw : W.grownBy W' none) : SL W' base v l :=
  ⟨h.row.kept hw (Classical.em _), h.small, fun y hy => (h.own1 y hy).kept hw (Classical.em _), fun y hy => (h.own2 y hy).kept hw (Classical.em _)⟩
theorem SL.alloc (h : SL W base v l) (o : Obj) : SL (W.alloc o) base v l :=
  ⟨h.row.alloc o, h.small, fun y hy => (h.own1 y hy).alloc o, fun y hy => (h.own2 y hy).alloc o⟩
theorem SL.other (h : SL W base v l) {b : Nat} {T : TypeId} {cs : Array Value} (hb : Has W b T cs) (h1 : 52 ≠ T) (h2 : 5 ≠ T) (h3 : 55 ≠ T) (hw : W.grownBy W' (some b)) : SL W' base v l :=
  ⟨h.row.kept hw (row_apart h.row hb h1), h.small, fun y hy => (h.own1 y hy).kept hw (row_apart (h.own1 y hy) hb h2), fun y hy => (h.own2 y hy).kept hw (row_apart (h.own2 y hy) hb h3)⟩
theorem SL.row' (h : SL W base v l) {base' : Nat} {T : TypeId} {size : Nat} {u : Value} {n : Nat} {xs : List Value} (hu : W.ownsRow base' T size u n xs) (h1 : 52 ≠ T) (h2 : 5 ≠ T) (h3 : 55 ≠ T) (hw : W.grownBy W' u.ownBlock) : SL W' base v l :=
  ⟨h.row.kept hw (rows_apart h.row hu h1), h.small, fun y hy => (h.own1 y hy).kept hw (rows_apart (h.own1 y hy) hu h2), fun y hy => (h.own2 y hy).kept hw (rows_apart (h.own2 y hy) hu h3)⟩
theorem SL.app (h : SL W base v l) {y : Sp} (hs : y.s.small) (h1 : W.ownsRow base 5 1 (.slice y.a1 y.s.bytes.length y.c1) y.s.bytes.length (y.s.bytes.map (Value.int .u8)))
    (h2 : W.ownsRow base 55 4 (.slice y.a2 y.s.fixs.length y.c2) y.s.fixs.length (flatF y.s.fixs)) {v' : Value}
    (hr : W'.ownsRow base 52 6 v' (l.length + 1) (flatS l ++ [.string y.s.name, .int .i64 y.s.kind, .int .i64 y.s.align, .slice y.a1 y.s.bytes.length y.c1, .int .i64 y.s.size, .slice y.a2 y.s.fixs.length y.c2])) (hw : W.grownBy W' v.ownBlock) : SL W' base v' (l ++ [y]) := by
  have k1 : ∀ z ∈ l ++ [y], W.ownsRow base 5 1 (.slice z.a1 z.s.bytes.length z.c1) z.s.bytes.length (z.s.bytes.map (Value.int .u8)) := fun z hz => by
    rcases List.mem_append.1 hz with h' | h'
    · exact h.own1 z h'
    · simp only [List.mem_singleton] at h'; rw [h']; exact h1
  have k2 : ∀ z ∈ l ++ [y], W.ownsRow base 55 4 (.slice z.a2 z.s.fixs.length z.c2) z.s.fixs.length (flatF z.s.fixs) := fun z hz => by
    rcases List.mem_append.1 hz with h' | h'
    · exact h.own2 z h'
    · simp only [List.mem_singleton] at h'; rw [h']; exact h2
  refine ⟨?_, fun z hz => ?_, fun z hz => (k1 z hz).kept hw (rows_apart (k1 z hz) h.row (by decide)), fun z hz => (k2 z hz).kept hw (rows_apart (k2 z hz) h.row (by decide))⟩
  · rw [flatS_snoc, List.length_append]; exact hr
  · rcases List.mem_append.1 hz with h' | h'
    · exact h.small z h'
    · simp only [List.mem_singleton] at h'; rw [h']; exact hs
theorem SL.cells {a : Option Addr} {c : Nat} (h : SL W base (.slice a l.length c) l) : 0 < l.length → ∃ b, a = some ⟨b, 0, none⟩ ∧ base ≤ b ∧ b < W.heap.size ∧ ∀ i y, l[i]? = some y → SecAt W b (i * 6) y := fun hn => by
  rcases h.row.2 with ⟨_, h0⟩ | ⟨g, cap, cur, hv, hgb, hh, _, _, _, ht⟩
  · omega
  have hh' : Has W g 52 cur := hh
  injection hv with hv _
  refine ⟨g, hv, hgb, hh'.lt, fun i y hi => ?_⟩
  have hil : i < l.length := (List.getElem?_eq_some_iff.1 hi).1
  obtain ⟨e0, e1, e2, e3, e4, e5⟩ := flatS_at l i y hi
  have key : ∀ j (u : Value), j < l.length * 6 → (flatS l)[j]? = some u → W.cell? ⟨g, j, none⟩ = some u := fun j u hj hu => by
    rw [hh'.cell j, ← Array.getElem?_toList]
    rw [← ht, List.getElem?_take, if_pos hj] at hu
    exact hu
  exact ⟨key _ _ (by omega) e0, key _ _ (by omega) e1, key _ _ (by omega) e2, key _ _ (by omega) e3, key _ _ (by omega) e4, key _ _ (by omega) e5⟩
theorem SL.sects {a : Option Addr} {c : Nat} (h : SL W base (.slice a l.length c) l) : Sects W W.heap.size a l :=
  ⟨fun hn => by
    obtain ⟨b, ha, hb, hl, hc⟩ := h.cells hn
    exact ⟨b, 0, ha, hl, fun i y hi => by rw [Nat.zero_add]; exact hc i y hi⟩,
   fun y hy => by
    obtain ⟨b1, d1, e1, hd1, hi1⟩ := ints_of_own' (h.own1 y hy) (h.small y hy).wf
    cases e1
    exact hi1,
   fun y hy => fixs_of_own (h.own2 y hy)⟩
theorem SL.val {v : Value} (h : SL W base v l) : ∃ a c, v = .slice a l.length c := by
  rcases h.row.2 with ⟨e, h0⟩ | ⟨g, cap, cur, e, _⟩
  · exact ⟨_, _, by rw [e, h0]⟩
  · exact ⟨_, _, e⟩
theorem Sx.small.long {s : Sx} (h : s.small) : 0 ≤ s.long ∨ s.long = -1 := by
  unfold Sx.long
  have := h.size0
  split <;> omega
end
end Go.Proofs.YtpfombelhajmlaaGreatDoor
namespace Go.Proofs.YtpfombelhajmlaaGreatDoor
open Go.RowKit
theorem results_cell_row3 {P : Program} {fn : Func} {p u : Tmp} {ty : TypeId} (h : fn.results = #[.cell p ty, .tmp u]) (tmps : Array Value) (w : World) (g : Nat) (t : TypeId) (cs : Array Value) (fr : Nat × Nat) (d : TypeDesc)
    (hp : tmps.getD p undef = .pointer (some ⟨g, 0, none⟩)) (hg : w.heap[g]? = some (.cells cs t fr))
    (hu : P.underlying ty = some d) (hd : (match d with | .struct _ | .array _ _ => true | _ => false) = true) (hi : (P.info? ty).map (·.size) = some cs.size) :
    (results fn tmps).run P w = .ok (.tuple #[.agg cs, tmps.getD u undef]) w := by
  rw [results_cell_tmp h, hp]
  simp [asAddr, run_loadVar_row w g t ty cs fr d hg hu hd hi, Result.andThen]
end Go.Proofs.YtpfombelhajmlaaGreatDoor

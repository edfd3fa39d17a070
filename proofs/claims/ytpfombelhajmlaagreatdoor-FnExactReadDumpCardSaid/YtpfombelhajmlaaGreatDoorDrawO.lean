import Derived.Test.YtpfombelhajmlaaGreatDoorDrC
import Derived.Test.YtpfombelhajmlaaGreatDoorSecs
import Derived.Test.YtpfombelhajmlaaGreatDoorRegionV
namespace Go.Proofs.YtpfombelhajmlaaGreatDoor
open Go.RowKit
structure DO (w W : World) (B g : Nat) (P : Int) (vs vm : Value) (ss : List Sp) (ms : List Sm) : Prop where
  rd : Rd W B g P
  grown : w.grownBy W (some g)
  res : Has W w.heap.size 26 #[.slice none 0 0, .slice none 0 0]
  obj : Has W (w.heap.size + 1) 26 #[vs, vm]
  secs : SL W (w.heap.size + 2) vs ss
  syms : W.ownsRow (w.heap.size + 2) 58 4 vm ms.length (flatM ms)
  small : ∀ m ∈ ms, m.small
section
variable {w W W' : World} {B g : Nat} {P P' : Int} {vs vm : Value} {ss : List Sp} {ms : List Sm}
theorem DO.more (d : DO w W B g P vs vm ss ms) (hP : P ≤ P') : DO w W B g P' vs vm ss ms := { d with rd := d.rd.mono hP }
theorem DO.alloc (d : DO w W B g P vs vm ss ms) (o : Obj) : DO w (W.alloc o) B g P vs vm ss ms :=
  ⟨d.rd.alloc o, only_alloc d.grown o, d.res.alloc o, d.obj.alloc o, d.secs.alloc o, d.syms.alloc o, d.small⟩
theorem DO.kept (d : DO w W B g P vs vm ss ms) (hg : W.grownBy W' none) : DO w W' B g P vs vm ss ms :=
  ⟨d.rd.grown hg (by simp), only_trans d.grown ⟨hg.os, hg.tape, hg.output, hg.size, fun k hk _ => hg.block k hk (by simp)⟩, d.res.grown hg (by simp), d.obj.grown hg (by simp), d.secs.kept hg, d.syms.kept hg (Classical.em _), d.small⟩
end
theorem own_val {W : World} {base : Nat} {T : TypeId} {size : Nat} {v : Value} {n : Nat} {xs : List Value} (h : W.ownsRow base T size v n xs) : ∃ a c, v = .slice a n c := by
  rcases h.2 with ⟨e, h0⟩ | ⟨g, cap, cur, e, _⟩
  · exact ⟨_, _, by rw [e, h0]⟩
  · exact ⟨_, _, e⟩
def NewSec (w W : World) (nn : Int) (y : Sp) : Prop := y.s.small ∧ (nn = 0 → 0 ≤ y.s.size) ∧ W.ownsRow (w.heap.size + 2) 5 1 (.slice y.a1 y.s.bytes.length y.c1) y.s.bytes.length (y.s.bytes.map (Value.int .u8)) ∧ W.ownsRow (w.heap.size + 2) 55 4 (.slice y.a2 y.s.fixs.length y.c2) y.s.fixs.length (flatF y.s.fixs)
def JS (w : World) (B g : Nat) (Q nn : Int) (vs vm : Value) (ss : List Sp) (ms : List Sm) : Nat → World → (Nat → Value) → Prop
  | 0, W, _ => DO w W B g Q vs vm ss ms
  | 1, W, vals => DO w W B g (Q + 100) vs vm ss ms ∧ ∃ y, NewSec w W nn y ∧ vals 0 = .agg #[.string y.s.name, .int .i64 y.s.kind, .int .i64 y.s.align, .slice y.a1 y.s.bytes.length y.c1, .int .i64 y.s.size, .slice y.a2 y.s.fixs.length y.c2]
  | 2, W, vals => DO w W B g (Q + 100) vs vm ss ms ∧ ∃ y h, NewSec w W nn y ∧ vals 1 = .slice (some ⟨h, 0, none⟩) 1 1 ∧ Has W h 52 #[.string y.s.name, .int .i64 y.s.kind, .int .i64 y.s.align, .slice y.a1 y.s.bytes.length y.c1, .int .i64 y.s.size, .slice y.a2 y.s.fixs.length y.c2]
  | 3, W, vals => ∃ y b2 d2, (nn = 0 → 0 ≤ y.s.size) ∧ vals 2 = .slice b2 (ss.length + 1) d2 ∧ W.cell? ⟨w.heap.size + 1, 0, none⟩ = some vs ∧ W.frozen? ⟨w.heap.size + 1, 0, none⟩ = false ∧ DO w (W.setCell ⟨w.heap.size + 1, 0, none⟩ (vals 2)) B g (Q + 100) (vals 2) vm (ss ++ [y]) ms
  | _, W, _ => ∃ v y, (nn = 0 → 0 ≤ y.s.size) ∧ DO w W B g (Q + 100) v vm (ss ++ [y]) ms
theorem JS.obj {w W : World} {B g : Nat} {Q nn : Int} {vs vm : Value} {ss : List Sp} {ms : List Sm} {k : Nat} {vals : Nat → Value} (h : JS w B g Q nn vs vm ss ms k W vals) (hk : k ≤ 2) : Has W (w.heap.size + 1) 26 #[vs, vm] := by
  match k, hk, h with
  | 0, _, h => exact DO.obj h
  | 1, _, h => exact DO.obj h.1
  | 2, _, h => exact DO.obj h.1
theorem DO.app {w W W' : World} {B g : Nat} {P : Int} {vs vm : Value} {ss : List Sp} {ms : List Sm} (d : DO w W B g P vs vm ss ms) (hl : g < w.heap.size) {y : Sp} {nn : Int} (hy : NewSec w W nn y) {v' : Value}
    (hr : W'.ownsRow (w.heap.size + 2) 52 6 v' (ss.length + 1) (flatS ss ++ [.string y.s.name, .int .i64 y.s.kind, .int .i64 y.s.align, .slice y.a1 y.s.bytes.length y.c1, .int .i64 y.s.size, .slice y.a2 y.s.fixs.length y.c2])) (hw : W.grownBy W' vs.ownBlock) :
    (∃ b2 d2, v' = .slice b2 (ss.length + 1) d2) ∧ W'.cell? ⟨w.heap.size + 1, 0, none⟩ = some vs ∧ W'.frozen? ⟨w.heap.size + 1, 0, none⟩ = false ∧ DO w (W'.setCell ⟨w.heap.size + 1, 0, none⟩ v') B g P v' vm (ss ++ [y]) ms := by
  have hlow : ∀ k, vs.ownBlock = some k → w.heap.size + 2 ≤ k := fun k hk => (d.secs.row.lt k hk).1
  have hob : Has W' (w.heap.size + 1) 26 #[vs, vm] := d.obj.grown hw (fun e => by have := hlow _ e.symm; omega)
  have hg2 : W'.grownBy (W'.setCell ⟨w.heap.size + 1, 0, none⟩ v') (some (w.heap.size + 1)) := only_put' (g := w.heap.size + 1) 0 v'
  have hB := d.rd.1
  have hrd : Rd W' B g P := d.rd.grown hw (fun k hk => by have := hlow k hk; omega)
  have hgr : w.grownBy (W'.setCell ⟨w.heap.size + 1, 0, none⟩ v') (some g) := by
    refine ⟨hg2.os.trans (hw.os.trans d.grown.os), hg2.tape.trans (hw.tape.trans d.grown.tape), hg2.output.trans (hw.output.trans d.grown.output), Nat.le_trans d.grown.size (Nat.le_trans hw.size hg2.size), fun i hi hne => ?_⟩
    have h1 := Nat.lt_of_lt_of_le hi d.grown.size
    have h2 := Nat.lt_of_lt_of_le h1 hw.size
    exact (hg2.block i h2 (fun e => by injection e with e; omega)).trans ((hw.block i h1 (fun e => by have := hlow i e.symm; omega)).trans (d.grown.block i hi hne))
  have hsl := d.secs.app hy.1 hy.2.2.1 hy.2.2.2 hr hw
  have hsy := d.syms.kept hw (rows_apart d.syms d.secs.row (by decide))
  have hv : ∃ b2 d2, v' = .slice b2 (ss.length + 1) d2 := by
    rcases hr.2 with ⟨_, h0⟩ | ⟨k, cap, cur, e, _⟩
    · omega
    · exact ⟨_, _, e⟩
  refine ⟨hv, hob.cell 0, hob.free 0, ⟨hrd.grown hg2 (fun j hj => by injection hj with hj; omega), hgr, (d.res.grown hw (fun e => by have := hlow _ e.symm; omega)).away (p := ⟨w.heap.size + 1, 0, none⟩) (by show _ ≠ w.heap.size + 1; omega) _, hob.put 0 v', hsl.low (by omega) hg2, hsy.kept hg2 (row_high hsy (by omega)), d.small⟩⟩
theorem DO.setM {w W W' : World} {B g : Nat} {P : Int} {vs vm : Value} {ss : List Sp} {ms ms' : List Sm} (d : DO w W B g P vs vm ss ms) (hl : g < w.heap.size) (hm : ∀ m ∈ ms', m.small) {v' : Value}
    (hr : W'.ownsRow (w.heap.size + 2) 58 4 v' ms'.length (flatM ms')) (hw : W.grownBy W' vm.ownBlock) :
    W'.cell? ⟨w.heap.size + 1, 1, none⟩ = some vm ∧ W'.frozen? ⟨w.heap.size + 1, 1, none⟩ = false ∧ DO w (W'.setCell ⟨w.heap.size + 1, 1, none⟩ v') B g P vs v' ss ms' := by
  have hlow : ∀ k, vm.ownBlock = some k → w.heap.size + 2 ≤ k := fun k hk => (d.syms.lt k hk).1
  have hob : Has W' (w.heap.size + 1) 26 #[vs, vm] := d.obj.grown hw (fun e => by have := hlow _ e.symm; omega)
  have hg2 : W'.grownBy (W'.setCell ⟨w.heap.size + 1, 1, none⟩ v') (some (w.heap.size + 1)) := only_put' (g := w.heap.size + 1) 1 v'
  have hB := d.rd.1
  have hrd : Rd W' B g P := d.rd.grown hw (fun k hk => by have := hlow k hk; omega)
  have hgr : w.grownBy (W'.setCell ⟨w.heap.size + 1, 1, none⟩ v') (some g) := by
    refine ⟨hg2.os.trans (hw.os.trans d.grown.os), hg2.tape.trans (hw.tape.trans d.grown.tape), hg2.output.trans (hw.output.trans d.grown.output), Nat.le_trans d.grown.size (Nat.le_trans hw.size hg2.size), fun i hi hne => ?_⟩
    have h1 := Nat.lt_of_lt_of_le hi d.grown.size
    have h2 := Nat.lt_of_lt_of_le h1 hw.size
    exact (hg2.block i h2 (fun e => by injection e with e; omega)).trans ((hw.block i h1 (fun e => by have := hlow i e.symm; omega)).trans (d.grown.block i hi hne))
  have hsl := d.secs.row' d.syms (by decide) (by decide) (by decide) hw
  exact ⟨hob.cell 1, hob.free 1, ⟨hrd.grown hg2 (fun j hj => by injection hj with hj; omega), hgr, (d.res.grown hw (fun e => by have := hlow _ e.symm; omega)).away (p := ⟨w.heap.size + 1, 1, none⟩) (by show _ ≠ w.heap.size + 1; omega) _, hob.put 1 v', hsl.low (by omega) hg2, hr.kept hg2 (row_high hr (by omega)), hm⟩⟩
theorem small_snoc {ms ns : List Sm} (h : ∀ m ∈ ms, m.small) (hn : ∀ m ∈ ns, m.small) : ∀ m ∈ ms ++ ns, m.small := fun z hz => by
  rcases List.mem_append.1 hz with h' | h'
  · exact h z h'
  · exact hn z h'
theorem flatM_append (l l' : List Sm) : flatM (l ++ l') = flatM l ++ flatM l' := by simp [flatM]
theorem DO.appM {w W W' : World} {B g : Nat} {P : Int} {vs vm : Value} {ss : List Sp} {ms : List Sm} (d : DO w W B g P vs vm ss ms) (hl : g < w.heap.size) {ns : List Sm} (hm : ∀ m ∈ ns, m.small) {v' : Value} {k : Nat} {xs : List Value} (hk : k = ns.length) (hxs : xs = flatM ns)
    (hr : W'.ownsRow (w.heap.size + 2) 58 4 v' (ms.length + k) (flatM ms ++ xs)) (hw : W.grownBy W' vm.ownBlock) :
    (∃ b2 d2, v' = .slice b2 (ms.length + k) d2) ∧ W'.cell? ⟨w.heap.size + 1, 1, none⟩ = some vm ∧ W'.frozen? ⟨w.heap.size + 1, 1, none⟩ = false ∧ DO w (W'.setCell ⟨w.heap.size + 1, 1, none⟩ v') B g P vs v' ss (ms ++ ns) := by
  subst hk
  subst hxs
  exact ⟨own_val hr, d.setM hl (small_snoc d.small hm) (by rw [flatM_append, List.length_append]; exact hr) hw⟩
def JM (w : World) (B g : Nat) (Q : Int) (vs vm : Value) (ss : List Sp) (ms : List Sm) : Nat → World → (Nat → Value) → Prop
  | 0, W, _ => DO w W B g Q vs vm ss ms
  | 1, W, vals => DO w W B g (Q + 30) vs vm ss ms ∧ ∃ m : Sm, m.small ∧ vals 0 = .agg #[.string m.name, .int .i64 m.bind, .int .i64 m.loc, .int .i64 m.value]
  | 2, W, vals => DO w W B g (Q + 30) vs vm ss ms ∧ ∃ (m : Sm) (h : Nat), m.small ∧ vals 1 = .slice (some ⟨h, 0, none⟩) 1 1 ∧ Has W h 58 #[.string m.name, .int .i64 m.bind, .int .i64 m.loc, .int .i64 m.value]
  | 3, W, vals => ∃ (m : Sm) (b2 : Option Addr) (d2 : Nat), vals 2 = .slice b2 (ms.length + 1) d2 ∧ W.cell? ⟨w.heap.size + 1, 1, none⟩ = some vm ∧ W.frozen? ⟨w.heap.size + 1, 1, none⟩ = false ∧ DO w (W.setCell ⟨w.heap.size + 1, 1, none⟩ (vals 2)) B g (Q + 30) vs (vals 2) ss (ms ++ [m])
  | _, W, _ => ∃ (v : Value) (m : Sm), DO w W B g (Q + 30) vs v ss (ms ++ [m])
theorem JM.obj {w W : World} {B g : Nat} {Q : Int} {vs vm : Value} {ss : List Sp} {ms : List Sm} {k : Nat} {vals : Nat → Value} (h : JM w B g Q vs vm ss ms k W vals) (hk : k ≤ 2) : Has W (w.heap.size + 1) 26 #[vs, vm] := by
  match k, hk, h with
  | 0, _, h => exact DO.obj h
  | 1, _, h => exact DO.obj h.1
  | 2, _, h => exact DO.obj h.1
end Go.Proofs.YtpfombelhajmlaaGreatDoor

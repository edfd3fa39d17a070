/-
  The draw of an object.
-/
import Derived.Test.YtiocchmlmcoieaaDrC
import Derived.Test.YtiocchmlmcoieaaSecs
import Derived.Test.YtiocchmlmcoieaaRegionV
namespace Go.Proofs.Ytiocchmlmcoieaa
open Go.RowKit

/-- The object that is being drawn. -/
structure DO (w W : World) (B g : Nat) (P : Int) (vs vm : Value) (ss : List Sp) (ms : List Sm) : Prop where
  rd : Rd W B g P
  grown : w.grownBy W (some g)
  res : Has W w.heap.size 29 #[.slice none 0 0, .slice none 0 0]
  obj : Has W (w.heap.size + 1) 29 #[vs, vm]
  secs : SL W (w.heap.size + 2) vs ss
  syms : W.ownsRow (w.heap.size + 2) 82 4 vm ms.length (flatM ms)
  small : ∀ m ∈ ms, m.small
section
variable {w W W' : World} {B g : Nat} {P P' : Int} {vs vm : Value} {ss : List Sp} {ms : List Sm}
theorem DO.more (d : DO w W B g P vs vm ss ms) (hP : P ≤ P') : DO w W B g P' vs vm ss ms := { d with rd := d.rd.mono hP }
theorem DO.pick (d : DO w W B g P vs vm ss ms) (hl : g < w.heap.size) (hr : Rd W' B g P') (hg : W.grownBy W' (some g)) : DO w W' B g P' vs vm ss ms :=
  ⟨hr, only_trans d.grown hg, d.res.grown hg (by simp; omega), d.obj.grown hg (by simp; omega), d.secs.low (by omega) hg, d.syms.kept hg (row_high d.syms (by omega)), d.small⟩
theorem DO.alloc (d : DO w W B g P vs vm ss ms) (o : Obj) : DO w (W.alloc o) B g P vs vm ss ms :=
  ⟨d.rd.alloc o, only_alloc d.grown o, d.res.alloc o, d.obj.alloc o, d.secs.alloc o, d.syms.alloc o, d.small⟩
theorem DO.kept (d : DO w W B g P vs vm ss ms) (hg : W.grownBy W' none) : DO w W' B g P vs vm ss ms :=
  ⟨d.rd.grown hg (by simp), only_trans d.grown ⟨hg.os, hg.tape, hg.output, hg.size, fun k hk _ => hg.block k hk (by simp)⟩, d.res.grown hg (by simp), d.obj.grown hg (by simp), d.secs.kept hg, d.syms.kept hg (Classical.em _), d.small⟩
end
theorem own_val {W : World} {base : Nat} {T : TypeId} {size : Nat} {v : Value} {n : Nat} {xs : List Value} (h : W.ownsRow base T size v n xs) : ∃ a c, v = .slice a n c := by
  rcases h.2 with ⟨e, h0⟩ | ⟨g, cap, cur, e, _⟩
  · exact ⟨_, _, by rw [e, h0]⟩
  · exact ⟨_, _, e⟩
/-- A symbol's variable is written. -/
theorem DO.var {w W W' : World} {B g : Nat} {P : Int} {vs vm : Value} {ss : List Sp} {ms : List Sm} (d : DO w W B g P vs vm ss ms) (hl : g < w.heap.size) {b : Nat} {cs : Array Value} (hb : Has W b 82 cs) (hw : w.heap.size + 2 ≤ b) (hne : ∀ k, vm.ownBlock = some k → k ≠ b) (hg : W.grownBy W' (some b)) : DO w W' B g P vs vm ss ms := by
  have hB := d.rd.1
  refine ⟨d.rd.grown hg (fun j hj => by injection hj with hj; omega), ?_, d.res.grown hg (fun e => by injection e with e; omega), d.obj.grown hg (fun e => by injection e with e; omega), d.secs.other hb (by decide) (by decide) (by decide) hg, d.syms.kept hg ?_, d.small⟩
  · exact ⟨hg.os.trans d.grown.os, hg.tape.trans d.grown.tape, hg.output.trans d.grown.output, Nat.le_trans d.grown.size hg.size, fun i hi hn => (hg.block i (Nat.lt_of_lt_of_le hi d.grown.size) (fun e => by injection e with e; omega)).trans (d.grown.block i hi hn)⟩
  · cases e : vm.ownBlock with
    | none => exact .inl rfl
    | some k => exact .inr fun e2 => by injection e2 with e2; exact hne k e e2
/-- A section that was just drawn, with its own rows. -/
def NewSec (w W : World) (nn : Int) (y : Sp) : Prop := y.s.small ∧ (nn = 0 → 0 ≤ y.s.size) ∧ W.ownsRow (w.heap.size + 2) 5 1 (.slice y.a1 y.s.bytes.length y.c1) y.s.bytes.length (y.s.bytes.map (Value.int .u8)) ∧ W.ownsRow (w.heap.size + 2) 119 4 (.slice y.a2 y.s.fixs.length y.c2) y.s.fixs.length (flatF y.s.fixs)
/-- Around the append of a section: what holds when so many of the chain are done. -/
def JS (w : World) (B g : Nat) (Q nn : Int) (vs vm : Value) (ss : List Sp) (ms : List Sm) : Nat → World → (Nat → Value) → Prop
  | 0, W, _ => DO w W B g Q vs vm ss ms
  | 1, W, vals => DO w W B g (Q + 100) vs vm ss ms ∧ ∃ y, NewSec w W nn y ∧ vals 0 = .agg #[.string y.s.name, .int .i64 y.s.kind, .int .i64 y.s.align, .slice y.a1 y.s.bytes.length y.c1, .int .i64 y.s.size, .slice y.a2 y.s.fixs.length y.c2]
  | 2, W, vals => DO w W B g (Q + 100) vs vm ss ms ∧ ∃ y h, NewSec w W nn y ∧ vals 1 = .slice (some ⟨h, 0, none⟩) 1 1 ∧ Has W h 42 #[.string y.s.name, .int .i64 y.s.kind, .int .i64 y.s.align, .slice y.a1 y.s.bytes.length y.c1, .int .i64 y.s.size, .slice y.a2 y.s.fixs.length y.c2]
  | 3, W, vals => ∃ y b2 d2, (nn = 0 → 0 ≤ y.s.size) ∧ vals 2 = .slice b2 (ss.length + 1) d2 ∧ W.cell? ⟨w.heap.size + 1, 0, none⟩ = some vs ∧ W.frozen? ⟨w.heap.size + 1, 0, none⟩ = false ∧ DO w (W.setCell ⟨w.heap.size + 1, 0, none⟩ (vals 2)) B g (Q + 100) (vals 2) vm (ss ++ [y]) ms
  | _, W, _ => ∃ v y, (nn = 0 → 0 ≤ y.s.size) ∧ DO w W B g (Q + 100) v vm (ss ++ [y]) ms
theorem JS.obj {w W : World} {B g : Nat} {Q nn : Int} {vs vm : Value} {ss : List Sp} {ms : List Sm} {k : Nat} {vals : Nat → Value} (h : JS w B g Q nn vs vm ss ms k W vals) (hk : k ≤ 2) : Has W (w.heap.size + 1) 29 #[vs, vm] := by
  match k, hk, h with
  | 0, _, h => exact DO.obj h
  | 1, _, h => exact DO.obj h.1
  | 2, _, h => exact DO.obj h.1
/-- The row of sections with one more, ahead of its being set. -/
theorem DO.app {w W W' : World} {B g : Nat} {P : Int} {vs vm : Value} {ss : List Sp} {ms : List Sm} (d : DO w W B g P vs vm ss ms) (hl : g < w.heap.size) {y : Sp} {nn : Int} (hy : NewSec w W nn y) {v' : Value}
    (hr : W'.ownsRow (w.heap.size + 2) 42 6 v' (ss.length + 1) (flatS ss ++ [.string y.s.name, .int .i64 y.s.kind, .int .i64 y.s.align, .slice y.a1 y.s.bytes.length y.c1, .int .i64 y.s.size, .slice y.a2 y.s.fixs.length y.c2])) (hw : W.grownBy W' vs.ownBlock) :
    (∃ b2 d2, v' = .slice b2 (ss.length + 1) d2) ∧ W'.cell? ⟨w.heap.size + 1, 0, none⟩ = some vs ∧ W'.frozen? ⟨w.heap.size + 1, 0, none⟩ = false ∧ DO w (W'.setCell ⟨w.heap.size + 1, 0, none⟩ v') B g P v' vm (ss ++ [y]) ms := by
  have hlow : ∀ k, vs.ownBlock = some k → w.heap.size + 2 ≤ k := fun k hk => (d.secs.row.lt k hk).1
  have hob : Has W' (w.heap.size + 1) 29 #[vs, vm] := d.obj.grown hw (fun e => by have := hlow _ e.symm; omega)
  have hg2 : W'.grownBy (W'.setCell ⟨w.heap.size + 1, 0, none⟩ v') (some (w.heap.size + 1)) := only_put' (g := w.heap.size + 1) 0 v'
  have hB := d.rd.1
  have hrd : Rd W' B g P := d.rd.grown hw (fun k hk => by have := hlow k hk; omega)
  have hgr : w.grownBy (W'.setCell ⟨w.heap.size + 1, 0, none⟩ v') (some g) := by
    refine ⟨hg2.os.trans (hw.os.trans d.grown.os), hg2.tape.trans (hw.tape.trans d.grown.tape), hg2.output.trans (hw.output.trans d.grown.output), Nat.le_trans d.grown.size (Nat.le_trans hw.size hg2.size), fun i hi hne => ?_⟩
    have h1 := Nat.lt_of_lt_of_le hi d.grown.size
    have h2 := Nat.lt_of_lt_of_le h1 hw.size
    exact (hg2.block i h2 (fun e => by injection e with e; omega)).trans ((hw.block i h1 (fun e => by have := hlow i e.symm; omega)).trans (d.grown.block i hi hne))
  have hsl := d.secs.app hy.1 hy.2.2.1 hy.2.2.2 hr hw
  have hsy := d.syms.kept hw (rows_apart d.syms d.secs.row (by decide))
  have hv : ∃ b2 d2, v' = .slice b2 (ss.length + 1) d2 := by
    rcases hr.2 with ⟨_, h0⟩ | ⟨k, cap, cur, e, _⟩
    · omega
    · exact ⟨_, _, e⟩
  refine ⟨hv, hob.cell 0, hob.free 0, ⟨hrd.grown hg2 (fun j hj => by injection hj with hj; omega), hgr, (d.res.grown hw (fun e => by have := hlow _ e.symm; omega)).away (p := ⟨w.heap.size + 1, 0, none⟩) (by show _ ≠ w.heap.size + 1; omega) _, hob.put 0 v', hsl.low (by omega) hg2, hsy.kept hg2 (row_high hsy (by omega)), d.small⟩⟩
/-- Another row of symbols, ahead of its being set. -/
theorem DO.setM {w W W' : World} {B g : Nat} {P : Int} {vs vm : Value} {ss : List Sp} {ms ms' : List Sm} (d : DO w W B g P vs vm ss ms) (hl : g < w.heap.size) (hm : ∀ m ∈ ms', m.small) {v' : Value}
    (hr : W'.ownsRow (w.heap.size + 2) 82 4 v' ms'.length (flatM ms')) (hw : W.grownBy W' vm.ownBlock) :
    W'.cell? ⟨w.heap.size + 1, 1, none⟩ = some vm ∧ W'.frozen? ⟨w.heap.size + 1, 1, none⟩ = false ∧ DO w (W'.setCell ⟨w.heap.size + 1, 1, none⟩ v') B g P vs v' ss ms' := by
  have hlow : ∀ k, vm.ownBlock = some k → w.heap.size + 2 ≤ k := fun k hk => (d.syms.lt k hk).1
  have hob : Has W' (w.heap.size + 1) 29 #[vs, vm] := d.obj.grown hw (fun e => by have := hlow _ e.symm; omega)
  have hg2 : W'.grownBy (W'.setCell ⟨w.heap.size + 1, 1, none⟩ v') (some (w.heap.size + 1)) := only_put' (g := w.heap.size + 1) 1 v'
  have hB := d.rd.1
  have hrd : Rd W' B g P := d.rd.grown hw (fun k hk => by have := hlow k hk; omega)
  have hgr : w.grownBy (W'.setCell ⟨w.heap.size + 1, 1, none⟩ v') (some g) := by
    refine ⟨hg2.os.trans (hw.os.trans d.grown.os), hg2.tape.trans (hw.tape.trans d.grown.tape), hg2.output.trans (hw.output.trans d.grown.output), Nat.le_trans d.grown.size (Nat.le_trans hw.size hg2.size), fun i hi hne => ?_⟩
    have h1 := Nat.lt_of_lt_of_le hi d.grown.size
    have h2 := Nat.lt_of_lt_of_le h1 hw.size
    exact (hg2.block i h2 (fun e => by injection e with e; omega)).trans ((hw.block i h1 (fun e => by have := hlow i e.symm; omega)).trans (d.grown.block i hi hne))
  have hsl := d.secs.row' d.syms (by decide) (by decide) (by decide) hw
  exact ⟨hob.cell 1, hob.free 1, ⟨hrd.grown hg2 (fun j hj => by injection hj with hj; omega), hgr, (d.res.grown hw (fun e => by have := hlow _ e.symm; omega)).away (p := ⟨w.heap.size + 1, 1, none⟩) (by show _ ≠ w.heap.size + 1; omega) _, hob.put 1 v', hsl.low (by omega) hg2, hr.kept hg2 (row_high hr (by omega)), hm⟩⟩
theorem small_snoc {ms ns : List Sm} (h : ∀ m ∈ ms, m.small) (hn : ∀ m ∈ ns, m.small) : ∀ m ∈ ms ++ ns, m.small := fun z hz => by
  rcases List.mem_append.1 hz with h' | h'
  · exact h z h'
  · exact hn z h'
theorem flatM_append (l l' : List Sm) : flatM (l ++ l') = flatM l ++ flatM l' := by simp [flatM]
/-- The row of symbols with some more, ahead of its being set. -/
theorem DO.appM {w W W' : World} {B g : Nat} {P : Int} {vs vm : Value} {ss : List Sp} {ms : List Sm} (d : DO w W B g P vs vm ss ms) (hl : g < w.heap.size) {ns : List Sm} (hm : ∀ m ∈ ns, m.small) {v' : Value} {k : Nat} {xs : List Value} (hk : k = ns.length) (hxs : xs = flatM ns)
    (hr : W'.ownsRow (w.heap.size + 2) 82 4 v' (ms.length + k) (flatM ms ++ xs)) (hw : W.grownBy W' vm.ownBlock) :
    (∃ b2 d2, v' = .slice b2 (ms.length + k) d2) ∧ W'.cell? ⟨w.heap.size + 1, 1, none⟩ = some vm ∧ W'.frozen? ⟨w.heap.size + 1, 1, none⟩ = false ∧ DO w (W'.setCell ⟨w.heap.size + 1, 1, none⟩ v') B g P vs v' ss (ms ++ ns) := by
  subst hk
  subst hxs
  exact ⟨own_val hr, d.setM hl (small_snoc d.small hm) (by rw [flatM_append, List.length_append]; exact hr) hw⟩
/-- Around the append of a symbol that was drawn: what holds when so many of the chain are done. -/
def JM (w : World) (B g : Nat) (Q : Int) (vs vm : Value) (ss : List Sp) (ms : List Sm) : Nat → World → (Nat → Value) → Prop
  | 0, W, _ => DO w W B g Q vs vm ss ms
  | 1, W, vals => DO w W B g (Q + 30) vs vm ss ms ∧ ∃ m : Sm, m.small ∧ vals 0 = .agg #[.string m.name, .int .i64 m.bind, .int .i64 m.loc, .int .i64 m.value]
  | 2, W, vals => DO w W B g (Q + 30) vs vm ss ms ∧ ∃ (m : Sm) (h : Nat), m.small ∧ vals 1 = .slice (some ⟨h, 0, none⟩) 1 1 ∧ Has W h 82 #[.string m.name, .int .i64 m.bind, .int .i64 m.loc, .int .i64 m.value]
  | 3, W, vals => ∃ (m : Sm) (b2 : Option Addr) (d2 : Nat), vals 2 = .slice b2 (ms.length + 1) d2 ∧ W.cell? ⟨w.heap.size + 1, 1, none⟩ = some vm ∧ W.frozen? ⟨w.heap.size + 1, 1, none⟩ = false ∧ DO w (W.setCell ⟨w.heap.size + 1, 1, none⟩ (vals 2)) B g (Q + 30) vs (vals 2) ss (ms ++ [m])
  | _, W, _ => ∃ (v : Value) (m : Sm), DO w W B g (Q + 30) vs v ss (ms ++ [m])
theorem JM.obj {w W : World} {B g : Nat} {Q : Int} {vs vm : Value} {ss : List Sp} {ms : List Sm} {k : Nat} {vals : Nat → Value} (h : JM w B g Q vs vm ss ms k W vals) (hk : k ≤ 2) : Has W (w.heap.size + 1) 29 #[vs, vm] := by
  match k, hk, h with
  | 0, _, h => exact DO.obj h
  | 1, _, h => exact DO.obj h.1
  | 2, _, h => exact DO.obj h.1
/-- Two symbols with the same name. -/
def twoSm : List Sm := [⟨⟨#[116, 119, 111]⟩, 1, -2, 0⟩, ⟨⟨#[116, 119, 111]⟩, 2, -2, 0⟩]
theorem twoSm_small : ∀ m ∈ twoSm, m.small := fun m hm => by
  simp only [twoSm, List.mem_cons, List.not_mem_nil, or_false] at hm
  rcases hm with rfl | rfl <;> exact ⟨by decide, by decide, by decide, by decide, by decide, by decide, by decide⟩
/-- Symbols without anything. -/
def noSm : List Sm := [⟨⟨#[]⟩, 0, 0, 0⟩, ⟨⟨#[]⟩, 0, 0, 0⟩, ⟨⟨#[]⟩, 0, 0, 0⟩, ⟨⟨#[]⟩, 0, 0, 0⟩, ⟨⟨#[]⟩, 0, 0, 0⟩, ⟨⟨#[]⟩, 0, 0, 0⟩, ⟨⟨#[]⟩, 0, 0, 0⟩, ⟨⟨#[]⟩, 0, 0, 0⟩, ⟨⟨#[]⟩, 0, 0, 0⟩, ⟨⟨#[]⟩, 0, 0, 0⟩, ⟨⟨#[]⟩, 0, 0, 0⟩, ⟨⟨#[]⟩, 0, 0, 0⟩, ⟨⟨#[]⟩, 0, 0, 0⟩]
theorem noSm_small : ∀ m ∈ noSm, m.small := fun m hm => by
  have e : m = ⟨⟨#[]⟩, 0, 0, 0⟩ := by simpa [noSm] using hm
  rw [e]
  exact ⟨by decide, by decide, by decide, by decide, by decide, by decide, by decide⟩
/-- What the draw of an object leaves. -/
def DrawnO (w : World) (B g : Nat) (P : Int) (e : Ending) (w' : World) : Prop :=
  ∃ (a1 a2 : Option Addr) (c1 c2 : Nat) (ss : List Sp) (ms : List Sm), e = .returned (.agg #[.slice a1 ss.length c1, .slice a2 ms.length c2]) ∧ ss.length ≤ 8 ∧ ms.length ≤ 20 ∧ SL w' (w.heap.size + 2) (.slice a1 ss.length c1) ss ∧ w'.ownsRow (w.heap.size + 2) 82 4 (.slice a2 ms.length c2) ms.length (flatM ms) ∧ (∀ m ∈ ms, m.small) ∧
    Rd w' B g (P + 2000) ∧ w.grownBy w' (some g)
set_option maxRecDepth 100000 in
set_option maxHeartbeats 2000000 in
theorem l20Object_any (w : World) (B g : Nat) (P n : Int) (h : Rd w B g P) (hP : P ≤ 50000) (hn : 0 ≤ n) (hn' : n ≤ 4294967296) :
    Calls Try.prog 48 #[.pointer (some ⟨g, 0, none⟩), .int .i64 n] w (DrawnO w B g P) := by
  have hgl := h.lt
  obtain ⟨i0, hi, hz0, hz1, hz2⟩ := info_parts Try.info_section
  obtain ⟨j1, hj, hy0, hy1, hy2⟩ := info_parts Try.info_symbol
  go_enter Try.func48, Try.ntmps48
  go_wp2_with fail
  have D0 : Hid (DO w ((w.alloc (.cells #[.slice none 0 0, .slice none 0 0] 29)).alloc (.cells #[.slice none 0 0, .slice none 0 0] 29)) B g P (.slice none 0 0) (.slice none 0 0) [] []) :=
    ⟨(h.alloc _).alloc _, only_alloc (only_alloc (World.grownBy.refl w _) _) _, (Has.new w _ _).alloc _, by have := Has.new (w.alloc (.cells #[.slice none 0 0, .slice none 0 0] 29)) 29 #[.slice none 0 0, .slice none 0 0]; simpa using this,
     ⟨⟨by simp [flatS], .inl ⟨rfl, rfl⟩⟩, by simp, by simp, by simp⟩, ⟨by simp [flatM], .inl ⟨rfl, rfl⟩⟩, by simp⟩
  refine (pick_any _ B g P 6 D0.out.rd (by omega) (by omega) (by omega)).mono ?_
  rintro e w1 ⟨many, rfl, m0, m1, hr1, hg1⟩
  have D1 := hidden (D0.out.pick hgl hr1 hg1)
  clear D0 hr1 hg1 h
  go_wp2_with fail
  refine (pick_any _ B g (P + 1) 4 D1.out.rd (by omega) (by omega) (by omega)).mono ?_
  rintro e w2 ⟨x, rfl, x0, x1, hr2, hg2⟩
  have D2 := hidden (D1.out.pick hgl hr2 hg2)
  obtain ⟨j0, rfl⟩ := Int.eq_ofNat_of_zero_le x0
  clear D1 hr2 hg2
  go_wp2_with fail
  go_loopw [7] (fun k wr => ∃ (j : Nat) (vs : Value) (ss : List Sp) (Q : Int), k = .int .i64 j ∧ ss.length + j ≤ 3 ∧ Q + 100 * j ≤ P + 400 ∧ Hid (DO w wr B g Q vs (.slice none 0 0) ss []) ∧ Hid (∀ y ∈ ss, 0 ≤ y.s.size)) (fun k _ => (intOf k).toNat)
  case atStart => exact ⟨j0, .slice none 0 0, [], P + 1 + 1, rfl, by simp; omega, by omega, D2, hidden (by simp)⟩
  case round =>
    obtain ⟨j, vs, ss, Q, rfl, hlj, hQ, D, hsz⟩ := hrel
    clear D2
    rcases Nat.eq_zero_or_pos j with rfl | hjp
    · obtain ⟨a1, c1, rfl⟩ := D.out.secs.val
      have HLG : Hid (∀ y ∈ ss, 0 ≤ y.s.long ∧ y.s.long ≤ 100 ∧ y.s.bytes.length ≤ 100) := fun y hy => (D.out.secs.small y hy).longs (hsz.out y hy)
      obtain ⟨ns, hns⟩ : ∃ q, q = ss.length := ⟨_, rfl⟩
      have hns3 : ns ≤ 3 := by omega
      rw [← hns] at D
      have HNS := hidden hns
      clear hns
      try rw [show ((0 : Nat) : Int) = (0 : Int) from rfl]
      go_wp2_with fail
      go_loopw [8] (fun i wq => ∃ (k : Nat) (vm : Value) (ms : List Sm) (Q2 : Int), i = .int .i64 k ∧ (k : Int) ≤ many ∧ Hid (ms.length = k) ∧ Q2 ≤ P + 400 + 40 * k ∧ Hid (DO w wq B g Q2 (.slice a1 ns c1) vm ss ms)) (fun i _ => many.toNat - (intOf i).toNat)
      case atStart => exact ⟨0, .slice none 0 0, [], Q, rfl, m0, hidden rfl, by omega, D⟩
      case round =>
        obtain ⟨k, vm, ms, Q2, rfl, hkm, hml, hQ2, DD⟩ := hrel
        clear D
        by_cases hlt : (k : Int) < many
        · have c0 := DD.out.obj.cell 0
          have hw2 : w.heap.size + 2 ≤ wr.heap.size := by have := DD.out.obj.lt; omega
          have hsl : SL wr (w.heap.size + 2) (.slice a1 ss.length c1) ss := by have := DD.out.secs; rwa [HNS.out] at this
          have HDS := hidden (l20Symbol_any wr B g Q2 0 DD.out.rd (by omega) (by omega) (by omega) a1 c1 ns ss HNS.out (by omega) (hsl.rowX (by omega)) HLG.out)
          clear hsl
          go_wp2_with fail
          refine HDS.out.mono ?_
          clear HDS
          rintro e w3 ⟨m, he, hm, hr3, hg3⟩
          have D3 := hidden (DD.out.pick hgl hr3 hg3)
          unfold Sm.agg at he
          subst he
          have D4 := hidden (D3.out.alloc (.cells #[.string m.name, .int .i64 m.bind, .int .i64 m.loc, .int .i64 m.value] 82))
          have HM4 : Hid (Has (w3.alloc (.cells #[.string m.name, .int .i64 m.bind, .int .i64 m.loc, .int .i64 m.value] 82)) w3.heap.size 82 #[.string m.name, .int .i64 m.bind, .int .i64 m.loc, .int .i64 m.value]) := Has.new _ _ _
          obtain ⟨a2, c2, rfl⟩ := own_val D4.out.syms
          have HMK := hml
          have HLOW : Hid (∀ b, (Value.slice a2 ms.length c2).ownBlock = some b → b ≠ w3.heap.size) := fun b hb => by have := (D3.out.syms.lt b hb).2; omega
          have hk5 : (k : Int) ≤ 5 := by omega
          have hms5 : ms.length ≤ 5 := by have := hml.out; omega
          have hw3 : w.heap.size + 2 ≤ w3.heap.size := by have := D3.out.obj.lt; omega
          clear DD D3 hr3 hg3 c0 hw2
          go_wp2_with fail
          go_loopw [10] (fun i wv => ∃ (q : Nat) (m : Sm), i = .int .i64 q ∧ q ≤ ms.length ∧ m.small ∧ Hid (DO w wv B g (Q2 + 30) (.slice a1 ns c1) (.slice a2 ms.length c2) ss ms) ∧ Hid (Has wv w3.heap.size 82 #[.string m.name, .int .i64 m.bind, .int .i64 m.loc, .int .i64 m.value])) (fun i _ => ms.length - (intOf i).toNat)
          case atStart => exact ⟨0, m, rfl, Nat.zero_le _, hm, D4, HM4⟩
          case round =>
            clear D4 HM4 hm
            obtain ⟨q, m, rfl, hq, hm, D5, HM5⟩ := hrel
            by_cases hql : q < ms.length
            · have hi : (q : Int) < (ms.length : Int) := by omega
              have c1 := D5.out.obj.cell 1
              have hsy := syms_of_own D5.out.syms
              obtain ⟨b2, off2, rfl, hb2, px0, px1, -, -⟩ := hsy.at_ hql
              obtain ⟨x, hx⟩ : ∃ x, ms[q] = x := ⟨_, rfl⟩
              rw [hx] at px0 px1
              have HQL := hidden hql
              obtain ⟨xn, xb, xl, xv⟩ := x
              obtain ⟨mn, mb, ml, mv⟩ := m
              simp only at px0 px1 HM5
              have pm0 : wr.cell? ⟨w3.heap.size, 0, none⟩ = some (.string mn) := HM5.out.cell 0
              have pm1 : wr.cell? ⟨w3.heap.size, 1, none⟩ = some (.int .i64 mb) := HM5.out.cell 1
              clear hx hsy
              by_cases hnm : xn = mn
              · subst hnm
                by_cases hm0 : mb = 0
                · have y0 : (mb != 0) = false := by simp [hm0]
                  clear hm0
                  go_wp2_with fail
                  go_quiet (fail)
                  go_wp2_with fail
                  go_roundw
                  case rel => exact ⟨q + 1, ⟨_, mb, ml, mv⟩, by go_num, HQL.out, hm, D5.out.kept ⟨rfl, rfl, rfl, Nat.le_refl _, fun _ _ _ => rfl⟩, HM5.out.drewN _⟩
                  case measure => have := HQL.out; simp [intOf]; omega
                have y0 : (mb != 0) = true := by simp [hm0]
                by_cases hx0 : xb = 0
                · have x0 : (xb != 0) = false := by simp [hx0]
                  clear hx0
                  go_wp2_with fail
                  go_quiet (fail)
                  go_wp2_with fail
                  go_roundw
                  case rel => exact ⟨q + 1, ⟨_, mb, ml, mv⟩, by go_num, HQL.out, hm, D5.out.kept ⟨rfl, rfl, rfl, Nat.le_refl _, fun _ _ _ => rfl⟩, HM5.out.drewN _⟩
                  case measure => have := HQL.out; simp [intOf]; omega
                have x0 : (xb != 0) = true := by simp [hx0]
                clear hx0 hm0
                go_wp2_with fail
                go_quiet (fail)
                have hcv : ∀ (y : Int) (W : World), (convert 22 9 (.slice (some ⟨W.heap.size, 0, none⟩) 1 1)).run Try.prog (W.alloc (.cells #[.int .u8 y] 5)) = .ok (.string (strOfNums [y])) (W.alloc (.cells #[.int .u8 y] 5)) := fun y W =>
                  run_convert_bytes_arg (P := Try.prog) _ 22 5 Try.underlying22 Try.underlying5 W.heap.size 0 1 1 [y] rfl (fun i hi => by
                    have : i = 0 := by omega
                    subst this
                    rw [(Has.new W 5 #[.int .u8 y]).cell]
                    rfl) 9 Try.underlying9
                have hcv' : ∀ (y : Int) (u : Nat), (convert 22 9 (.slice (some ⟨wr.heap.size, 0, none⟩) 1 1)).run Try.prog ((wr.drewN u).alloc (.cells #[.int .u8 y] 5)) = .ok (.string (strOfNums [y])) ((wr.drewN u).alloc (.cells #[.int .u8 y] 5)) := fun y u => hcv y (wr.drewN u)
                clear hcv
                have hcy : ¬ 9223372036854775807 < (ByteArray.mk #[115]).size + (strOfNums [48 + (k : Int)]).size := by rw [strOfNums_size]; simp [ByteArray.size]
                have DW := (D5.out.kept (W' := wr.drewN nq) ⟨rfl, rfl, rfl, Nat.le_refl _, fun _ _ _ => rfl⟩).alloc (.cells #[.int .u8 (48 + (k : Int))] 5)
                have HW : Has ((wr.drewN nq).alloc (.cells #[.int .u8 (48 + (k : Int))] 5)) w3.heap.size 82 #[.string _, .int .i64 mb, .int .i64 ml, .int .i64 mv] := (HM5.out.drewN _).alloc _
                have z0 := HW.cell 0
                have z1 := HW.cell 1
                have z2 := HW.cell 2
                have z3 := HW.cell 3
                have f0 := HW.free 0
                have f1 := HW.free 1
                have f2 := HW.free 2
                have f3 := HW.free 3
                have hnm2 : Hid ((ByteArray.mk #[115] ++ strOfNums [48 + (k : Int)]).size ≤ 9) := by show _ ≤ _; rw [ByteArray.size_append, strOfNums_size]; simp [ByteArray.size]
                have HW' := hidden HW
                have DW' := hidden DW
                clear HW DW D5 HM5
                have HG := hidden (only_trans (only_trans (only_trans (only_put' (g := w3.heap.size) (w := (wr.drewN nq).alloc (.cells #[.int .u8 (48 + (k : Int))] 5)) 0 (.string (⟨#[115]⟩ ++ strOfNums [48 + (k : Int)]))) (only_put' 1 (.int .i64 1))) (only_put' 2 (.int .i64 (-2)))) (only_put' 3 (.int .i64 (7 * (k : Int)))))
                go_wp2_with fail
                go_roundw
                case rel => exact ⟨q + 1, ⟨_, 1, -2, 7 * k⟩, by go_num, HQL.out, ⟨hnm2.out, by show (-1 : Int) ≤ 1; omega, by show (1 : Int) ≤ 3; omega, by show (-3 : Int) ≤ -2; omega, by show (-2 : Int) ≤ 100; omega, by show (-1 : Int) ≤ 7 * (k : Int); omega, by show 7 * (k : Int) ≤ 60001; omega⟩, hidden (DW'.out.var hgl HW'.out hw3 HLOW.out HG.out), hidden ((((HW'.out.put 0 _).put 1 _).put 2 _).put 3 _)⟩
                case measure => have := HQL.out; simp [intOf]; omega
              · have hs0 := str_ne hnm
                clear hnm
                go_wp2_with fail
                go_quiet (fail)
                go_wp2_with fail
                go_roundw
                case rel => exact ⟨q + 1, ⟨_, mb, ml, mv⟩, by go_num, HQL.out, hm, D5.out.kept ⟨rfl, rfl, rfl, Nat.le_refl _, fun _ _ _ => rfl⟩, HM5.out.drewN _⟩
                case measure => have := HQL.out; simp [intOf]; omega
            · have hi' : ¬ (q : Int) < (ms.length : Int) := by omega
              have c1 := D5.out.obj.cell 1
              have pm0 : wr.cell? ⟨w3.heap.size, 0, none⟩ = some (.string m.name) := HM5.out.cell 0
              have pm1 : wr.cell? ⟨w3.heap.size, 1, none⟩ = some (.int .i64 m.bind) := HM5.out.cell 1
              have pm2 : wr.cell? ⟨w3.heap.size, 2, none⟩ = some (.int .i64 m.loc) := HM5.out.cell 2
              have pm3 : wr.cell? ⟨w3.heap.size, 3, none⟩ = some (.int .i64 m.value) := HM5.out.cell 3
              have D6 := hidden (D5.out.alloc (.cells #[.string m.name, .int .i64 m.bind, .int .i64 m.loc, .int .i64 m.value] 82))
              have hnew : Hid (Has (wr.alloc (.cells #[.string m.name, .int .i64 m.bind, .int .i64 m.loc, .int .i64 m.value] 82)) wr.heap.size 82 #[.string m.name, .int .i64 m.bind, .int .i64 m.loc, .int .i64 m.value]) := Has.new _ _ _
              have hw5 : w.heap.size + 2 ≤ (wr.alloc (.cells #[.string m.name, .int .i64 m.bind, .int .i64 m.loc, .int .i64 m.value] 82)).heap.size := by have := D6.out.obj.lt; omega
              go_wp2_with (at_builtin; refine wpList_append_own _ rfl _ _ 26 rfl (w.heap.size + 2) 82 j1 (.agg #[.string ⟨#[]⟩, .int .i64 0, .int .i64 0, .int .i64 0]) 4 40 Try.underlying26 hj hy0 hy1 hy2 rfl (by decide) _ _ _ rfl D6.out.syms ⟨wr.heap.size, 0, none⟩ 1 1 [.string m.name, .int .i64 m.bind, .int .i64 m.loc, .int .i64 m.value] rfl rfl (fun t u ht => by rw [addr_row, hnew.out.cell t]; simpa using ht) (by intro u hu; simp at hu; rcases hu with rfl | rfl | rfl | rfl <;> rfl) (by unfold maxLen; omega) (by omega) hw5 ?_)
              · intro v' w4 hown hgrow _
                obtain ⟨⟨b2, d2, rfl⟩, q1, q2, q3⟩ := D6.out.appM hgl (ns := [m]) (fun z hz => by simp only [List.mem_singleton] at hz; rw [hz]; exact hm) rfl rfl hown hgrow
                have HD7 := hidden q3
                have hml7 : Hid ((ms ++ [m]).length = k + 1) := by show _ = _; rw [List.length_append, HMK.out]; rfl
                clear hown hgrow q3 D5 D6 HM5 hnew
                go_wp2
                go_roundw
                case rel =>
                  exact ⟨k + 1, _, ms ++ [m], Q2 + 30, by go_num, by omega, hml7, by omega, HD7.out⟩
                case measure => simp [intOf]; omega
        · have hml5 : ms.length ≤ 5 := by have := hml.out; omega
          have hQ3 : Q2 ≤ P + 700 := by omega
          go_wp2_with fail
          refine (odd_any wr B g Q2 n DD.out.rd (by omega) hn hn').mono ?_
          rintro e w4 ⟨bb, rfl, hr4, hg4⟩
          have D7 := hidden (DD.out.pick hgl hr4 hg4)
          clear DD hr4 hg4
          go_upto_if 84 with fail
          go_cut [] from 7 (fun wx => ∃ (vs2 vm2 : Value) (ss2 : List Sp) (ms2 : List Sm), ss2.length ≤ 8 ∧ ms2.length ≤ 20 ∧ Hid (DO w wx B g (P + 1000) vs2 vm2 ss2 ms2))
          case first =>
            rcases bb with _ | _
            · go_wp2_with fail
              go_meet
              exact ⟨_, vm, ss, ms, by omega, by omega, D7.out.more (by omega)⟩
            go_wp2_with fail
            refine (pick_any w4 B g (Q2 + 1) 4 D7.out.rd (by omega) (by omega) (by omega)).mono ?_
            rintro e w5 ⟨x, rfl, xx0, xx1, hr5, hg5⟩
            have D8 := hidden (D7.out.pick hgl hr5 hg5)
            clear D7 hr5 hg5
            by_cases q0 : x = 0
            · have q0' : (x == 0) = true := by simp [q0]
              clear q0
              have HSX := hidden (fun (W : World) (hd : DO w W B g (Q2 + 1 + 1) (.slice a1 ns c1) vm ss ms) => l20Section_any W B g (Q2 + 1 + 1) many 1 hd.rd (by omega) (by omega) (by omega) (by omega) (by omega))
              have hJ0 : Hid (DO w w5.drew B g (Q2 + 1 + 1) (.slice a1 ns c1) vm ss ms) := D8.out.kept ⟨rfl, rfl, rfl, Nat.le_refl _, fun _ _ _ => rfl⟩
              go_upto_region 21 with fail
              refine wp_region_chain (m := 4) (js := [.quiet (.pointer (some ⟨w.heap.size + 1, 0, none⟩)) 4, .quiet (.slice a1 ns c1) 2, .quiet (.pointer (some ⟨g, 0, none⟩)) 4, .quiet (.int .i64 many) 4, .chain 0, .chain 1, .chain 2, .quiet (.pointer (some ⟨w.heap.size + 1, 0, none⟩)) 4, .chain 3]) (by kernel_rfl) (JS w B g (Q2 + 1 + 1) 1 (.slice a1 ns c1) vm ss ms) (by kernel_rfl) (by kernel_rfl) ⟨fun _ => undef, hJ0.out⟩ (fun vals => ?_) ?_
              · show SeqW _ _ _ _ _ _ _
                refine ⟨fun k hk W hW => ?_, ?_⟩
                · unfold Oper.wp
                  simp [go_sem]
                  try exact ⟨_, rfl, rfl⟩
                simp only [Act.put, List.setIfInBounds_toArray, List.set_cons_succ, List.set_cons_zero]
                refine ⟨fun k hk W hW => ?_, ?_⟩
                · have q := (JS.obj hW hk).cell 0; unfold Oper.wp
                  simp [go_sem, *]
                  try exact ⟨_, rfl, rfl⟩
                simp only [Act.put, List.setIfInBounds_toArray, List.set_cons_succ, List.set_cons_zero]
                refine ⟨fun k hk W hW => ?_, ?_⟩
                · unfold Oper.wp
                  simp [go_sem]
                  try exact ⟨_, rfl, rfl⟩
                simp only [Act.put, List.setIfInBounds_toArray, List.set_cons_succ, List.set_cons_zero]
                refine ⟨fun k hk W hW => ?_, ?_⟩
                · unfold Oper.wp
                  simp [go_sem]
                  try exact ⟨_, rfl, rfl⟩
                simp only [Act.put, List.setIfInBounds_toArray, List.set_cons_succ, List.set_cons_zero]
                refine ⟨fun W hW => ?_, ?_⟩
                · unfold Oper.wp
                  simp [go_sem]
                  refine (HSX.out W hW).mono ?_
                  rintro e w' ⟨s, b1, d1, b2, d2, rfl, hs, o1, o2, hr, hg, hz⟩
                  have hd : DO w W B g (Q2 + 1 + 1) (.slice a1 ns c1) vm ss ms := hW
                  have hws : w.heap.size + 2 ≤ W.heap.size := by have := hd.obj.lt; omega
                  have hN : JS w B g (Q2 + 1 + 1) 1 (.slice a1 ns c1) vm ss ms 1 w' (upd vals 0 (s.agg b1 d1 b2 d2)) := ⟨hd.pick hgl hr hg, ⟨s, b1, d1, b2, d2⟩, ⟨hs, hz, row_lower o1 hws, row_lower o2 hws⟩, rfl⟩
                  first | exact hN | exact ⟨_, rfl, hN⟩
                simp only [Act.put, List.setIfInBounds_toArray, List.set_cons_succ, List.set_cons_zero]
                refine ⟨fun W hW => ?_, ?_⟩
                · obtain ⟨hd, y, hy, hv⟩ := hW
                  have hN : JS w B g (Q2 + 1 + 1) 1 (.slice a1 ns c1) vm ss ms 2 (W.alloc (.cells #[.string y.s.name, .int .i64 y.s.kind, .int .i64 y.s.align, .slice y.a1 y.s.bytes.length y.c1, .int .i64 y.s.size, .slice y.a2 y.s.fixs.length y.c2] 42)) (upd vals 1 (.slice (some ⟨W.heap.size, 0, none⟩) 1 1)) :=
                    ⟨hd.alloc _, y, W.heap.size, ⟨hy.1, hy.2.1, hy.2.2.1.alloc _, hy.2.2.2.alloc _⟩, rfl, Has.new _ _ _⟩
                  clear hd
                  unfold Oper.wp
                  simp [go_sem, hv]
                  first | exact hN | exact ⟨_, rfl, hN⟩
                simp only [Act.put, List.setIfInBounds_toArray, List.set_cons_succ, List.set_cons_zero]
                refine ⟨fun W hW => ?_, ?_⟩
                · obtain ⟨hd, y, hb, hy, hv, hh⟩ := hW
                  have hw2 : w.heap.size + 2 ≤ W.heap.size := by have := hd.obj.lt; omega
                  refine wp_append_own W _ _ _ rfl (w.heap.size + 2) 42 i0 (.agg #[.string ⟨#[]⟩, .int .i64 0, .int .i64 0, .slice none 0 0, .int .i64 0, .slice none 0 0]) 6 88 Try.underlying27 hi hz0 hz1 hz2 rfl (by decide) _ _ _ rfl hd.secs.row ⟨hb, 0, none⟩ 1 1 [.string y.s.name, .int .i64 y.s.kind, .int .i64 y.s.align, .slice y.a1 y.s.bytes.length y.c1, .int .i64 y.s.size, .slice y.a2 y.s.fixs.length y.c2] hv ?_ ?_ ?_ ?_ ?_ ?_ ?_
                  · rfl
                  · intro t u ht
                    rw [addr_row, hh.cell t]
                    simpa using ht
                  · intro u hu
                    simp at hu
                    rcases hu with rfl | rfl | rfl | rfl | rfl | rfl <;> rfl
                  · unfold maxLen; omega
                  · omega
                  · exact hw2
                  · intro v' w' h2 h3 _
                    obtain ⟨⟨b2, d2, hv2⟩, q1, q2, q3⟩ := hd.app hgl hy h2 h3
                    exact ⟨v', rfl, y, b2, d2, hy.2.1, hv2, q1, q2, q3⟩
                simp only [Act.put, List.setIfInBounds_toArray, List.set_cons_succ, List.set_cons_zero]
                refine ⟨fun k hk W hW => ?_, ?_⟩
                · unfold Oper.wp
                  simp [go_sem]
                  try exact ⟨_, rfl, rfl⟩
                simp only [Act.put, List.setIfInBounds_toArray, List.set_cons_succ, List.set_cons_zero]
                refine ⟨fun W hW => ?_, trivial⟩
                obtain ⟨y, b2, d2, hz, hv2, q1, q2, q3⟩ := hW
                rw [hv2] at q3 ⊢
                have hN : ∀ u, JS w B g (Q2 + 1 + 1) 1 (.slice a1 ns c1) vm ss ms 4 (W.setCell ⟨w.heap.size + 1, 0, none⟩ (.slice b2 (ss.length + 1) d2)) (upd vals 3 u) := fun u => ⟨_, y, hz, q3⟩
                clear q3
                unfold Oper.wp
                simp [go_sem, q1, q2]
                first | exact hN _ | exact ⟨undef, hN _⟩ | exact ⟨_, rfl, hN _⟩
              · intro W vals hJ
                obtain ⟨v, y, hz, hd⟩ := hJ
                have HF := hidden (hd.more (P' := P + 1000) (by omega))
                clear hd hJ0 HSX D8
                simp only [putAll, List.map_cons, List.map_nil, Job.val, Act.put, List.setIfInBounds_toArray, List.set_cons_succ, List.set_cons_zero]
                go_wp2_with fail
                go_meet
                exact ⟨v, vm, ss ++ [y], ms, by simp; omega, by omega, HF.out⟩
            have q0' : (x == 0) = false := by simpa using q0
            by_cases q1 : x = 1
            · have q1' : (x == 1) = true := by simp [q1]
              clear q0 q1
              have HSX := hidden (fun (W : World) (hd : DO w W B g (Q2 + 1 + 1) (.slice a1 ns c1) vm ss ms) => l20Symbol_any W B g (Q2 + 1 + 1) 1 hd.rd (by omega) (by omega) (by omega) a1 c1 ns ss HNS.out (by omega) (by have hw2 := hd.obj.lt; have hsl : SL W (w.heap.size + 2) (.slice a1 ss.length c1) ss := (by have := hd.secs; rwa [HNS.out] at this); exact hsl.rowX (by omega)) HLG.out)
              have hJ0 : Hid (DO w w5.drew B g (Q2 + 1 + 1) (.slice a1 ns c1) vm ss ms) := D8.out.kept ⟨rfl, rfl, rfl, Nat.le_refl _, fun _ _ _ => rfl⟩
              go_upto_region 23 with fail
              refine wp_region_chain (m := 4) (js := [.quiet (.pointer (some ⟨w.heap.size + 1, 1, none⟩)) 4, .quiet vm 2, .quiet (.pointer (some ⟨g, 0, none⟩)) 4, .quiet (.pointer (some ⟨w.heap.size + 1, 0, none⟩)) 4, .quiet (.slice a1 ns c1) 0, .chain 0, .chain 1, .chain 2, .quiet (.pointer (some ⟨w.heap.size + 1, 1, none⟩)) 4, .chain 3]) (by kernel_rfl) (JM w B g (Q2 + 1 + 1) (.slice a1 ns c1) vm ss ms) (by kernel_rfl) (by kernel_rfl) ⟨fun _ => undef, hJ0.out⟩ (fun vals => ?_) ?_
              · show SeqW _ _ _ _ _ _ _
                refine ⟨fun k hk W hW => ?_, ?_⟩
                · unfold Oper.wp
                  simp [go_sem]
                  try exact ⟨_, rfl, rfl⟩
                simp only [Act.put, List.setIfInBounds_toArray, List.set_cons_succ, List.set_cons_zero]
                refine ⟨fun k hk W hW => ?_, ?_⟩
                · have q := (JM.obj hW hk).cell 1; unfold Oper.wp
                  simp [go_sem, *]
                  try exact ⟨_, rfl, rfl⟩
                simp only [Act.put, List.setIfInBounds_toArray, List.set_cons_succ, List.set_cons_zero]
                refine ⟨fun k hk W hW => ?_, ?_⟩
                · unfold Oper.wp
                  simp [go_sem]
                  try exact ⟨_, rfl, rfl⟩
                simp only [Act.put, List.setIfInBounds_toArray, List.set_cons_succ, List.set_cons_zero]
                refine ⟨fun k hk W hW => ?_, ?_⟩
                · unfold Oper.wp
                  simp [go_sem]
                  try exact ⟨_, rfl, rfl⟩
                simp only [Act.put, List.setIfInBounds_toArray, List.set_cons_succ, List.set_cons_zero]
                refine ⟨fun k hk W hW => ?_, ?_⟩
                · have q := (JM.obj hW (Nat.le_trans hk (by decide))).cell 0; unfold Oper.wp
                  simp [go_sem, *]
                  try exact ⟨_, rfl, rfl⟩
                simp only [Act.put, List.setIfInBounds_toArray, List.set_cons_succ, List.set_cons_zero]
                refine ⟨fun W hW => ?_, ?_⟩
                · unfold Oper.wp
                  simp [go_sem]
                  refine (HSX.out W hW).mono ?_
                  rintro e w' ⟨m, he, hm, hr, hg⟩
                  unfold Sm.agg at he
                  subst he
                  have hd : DO w W B g (Q2 + 1 + 1) (.slice a1 ns c1) vm ss ms := hW
                  have hN : JM w B g (Q2 + 1 + 1) (.slice a1 ns c1) vm ss ms 1 w' (upd vals 0 (.agg #[.string m.name, .int .i64 m.bind, .int .i64 m.loc, .int .i64 m.value])) := ⟨hd.pick hgl hr hg, m, hm, rfl⟩
                  first | exact hN | exact ⟨_, rfl, hN⟩
                simp only [Act.put, List.setIfInBounds_toArray, List.set_cons_succ, List.set_cons_zero]
                refine ⟨fun W hW => ?_, ?_⟩
                · obtain ⟨hd, m, hm, hv⟩ := hW
                  have hN : JM w B g (Q2 + 1 + 1) (.slice a1 ns c1) vm ss ms 2 (W.alloc (.cells #[.string m.name, .int .i64 m.bind, .int .i64 m.loc, .int .i64 m.value] 82)) (upd vals 1 (.slice (some ⟨W.heap.size, 0, none⟩) 1 1)) :=
                    ⟨hd.alloc _, m, W.heap.size, hm, rfl, Has.new _ _ _⟩
                  clear hd
                  unfold Oper.wp
                  simp [go_sem, hv]
                  first | exact hN | exact ⟨_, rfl, hN⟩
                simp only [Act.put, List.setIfInBounds_toArray, List.set_cons_succ, List.set_cons_zero]
                refine ⟨fun W hW => ?_, ?_⟩
                · obtain ⟨hd, m, hb, hm, hv, hh⟩ := hW
                  have hw2 : w.heap.size + 2 ≤ W.heap.size := by have := hd.obj.lt; omega
                  refine wp_append_own W _ _ _ rfl (w.heap.size + 2) 82 j1 (.agg #[.string ⟨#[]⟩, .int .i64 0, .int .i64 0, .int .i64 0]) 4 40 Try.underlying26 hj hy0 hy1 hy2 rfl (by decide) _ _ _ rfl hd.syms ⟨hb, 0, none⟩ 1 1 [.string m.name, .int .i64 m.bind, .int .i64 m.loc, .int .i64 m.value] hv ?_ ?_ ?_ ?_ ?_ ?_ ?_
                  · rfl
                  · intro t u ht
                    rw [addr_row, hh.cell t]
                    simpa using ht
                  · intro u hu
                    simp at hu
                    rcases hu with rfl | rfl | rfl | rfl <;> rfl
                  · unfold maxLen; omega
                  · omega
                  · exact hw2
                  · intro v' w' h2 h3 _
                    obtain ⟨⟨b2, d2, hv2⟩, q1, q2, q3⟩ := hd.appM hgl (ns := [m]) (fun z hz => by simp only [List.mem_singleton] at hz; rw [hz]; exact hm) rfl rfl h2 h3
                    exact ⟨v', rfl, m, b2, d2, hv2, q1, q2, q3⟩
                simp only [Act.put, List.setIfInBounds_toArray, List.set_cons_succ, List.set_cons_zero]
                refine ⟨fun k hk W hW => ?_, ?_⟩
                · unfold Oper.wp
                  simp [go_sem]
                  try exact ⟨_, rfl, rfl⟩
                simp only [Act.put, List.setIfInBounds_toArray, List.set_cons_succ, List.set_cons_zero]
                refine ⟨fun W hW => ?_, trivial⟩
                obtain ⟨m, b2, d2, hv2, q1, q2, q3⟩ := hW
                rw [hv2] at q3 ⊢
                have hN : ∀ u, JM w B g (Q2 + 1 + 1) (.slice a1 ns c1) vm ss ms 4 (W.setCell ⟨w.heap.size + 1, 1, none⟩ (.slice b2 (ms.length + 1) d2)) (upd vals 3 u) := fun u => ⟨_, m, q3⟩
                clear q3
                unfold Oper.wp
                simp [go_sem, q1, q2]
                first | exact hN _ | exact ⟨undef, hN _⟩ | exact ⟨_, rfl, hN _⟩
              · intro W vals hJ
                obtain ⟨v, m, hd⟩ := hJ
                have HF := hidden (hd.more (P' := P + 1000) (by omega))
                clear hd hJ0 HSX D8
                simp only [putAll, List.map_cons, List.map_nil, Job.val, Act.put, List.setIfInBounds_toArray, List.set_cons_succ, List.set_cons_zero]
                go_wp2_with fail
                go_meet
                exact ⟨_, v, ss, ms ++ [m], by omega, by simp; omega, HF.out⟩
            have q1' : (x == 1) = false := by simpa using q1
            have c0 := D8.out.obj.cell 1
            have f0 := D8.out.obj.free 1
            have hw5 : w.heap.size + 2 ≤ w5.heap.size := by have := D8.out.obj.lt; omega
            by_cases q2 : x = 2
            · have q2' : (x == 2) = true := by simp [q2]
              clear q0 q1 q2
              have D9 := hidden (D8.out.alloc (.cells #[.string ⟨#[116, 119, 111]⟩, .int .i64 1, .int .i64 (-2), .int .i64 0, .string ⟨#[116, 119, 111]⟩, .int .i64 2, .int .i64 (-2), .int .i64 0] 82))
              have hnew : Hid (Has (w5.alloc (.cells #[.string ⟨#[116, 119, 111]⟩, .int .i64 1, .int .i64 (-2), .int .i64 0, .string ⟨#[116, 119, 111]⟩, .int .i64 2, .int .i64 (-2), .int .i64 0] 82)) w5.heap.size 82 #[.string ⟨#[116, 119, 111]⟩, .int .i64 1, .int .i64 (-2), .int .i64 0, .string ⟨#[116, 119, 111]⟩, .int .i64 2, .int .i64 (-2), .int .i64 0]) := Has.new _ _ _
              have hw6 : w.heap.size + 2 ≤ (w5.alloc (.cells #[.string ⟨#[116, 119, 111]⟩, .int .i64 1, .int .i64 (-2), .int .i64 0, .string ⟨#[116, 119, 111]⟩, .int .i64 2, .int .i64 (-2), .int .i64 0] 82)).heap.size := by have := D9.out.obj.lt; omega
              clear D8
              go_wp2_with (at_builtin; refine wpList_append_own _ rfl _ _ 26 rfl (w.heap.size + 2) 82 j1 (.agg #[.string ⟨#[]⟩, .int .i64 0, .int .i64 0, .int .i64 0]) 4 40 Try.underlying26 hj hy0 hy1 hy2 rfl (by decide) _ _ _ rfl D9.out.syms ⟨w5.heap.size, 0, none⟩ 2 2 [.string ⟨#[116, 119, 111]⟩, .int .i64 1, .int .i64 (-2), .int .i64 0, .string ⟨#[116, 119, 111]⟩, .int .i64 2, .int .i64 (-2), .int .i64 0] rfl rfl (fun t u ht => by rw [addr_row, hnew.out.cell t]; simpa using ht) (by intro u hu; simp only [List.mem_cons, List.not_mem_nil, or_false] at hu; rcases hu with rfl | rfl | rfl | rfl | rfl | rfl | rfl | rfl <;> rfl) (by unfold maxLen; omega) (by omega) hw6 ?_)
              · intro v' w6 hown hgrow _
                obtain ⟨⟨b2, d2, rfl⟩, p1, p2, p3⟩ := D9.out.appM hgl (ns := twoSm) twoSm_small rfl rfl hown hgrow
                have HF := hidden (p3.more (P' := P + 1000) (by omega))
                clear hown hgrow p3 D9 hnew
                go_wp2
                go_meet
                exact ⟨_, _, ss, ms ++ twoSm, by omega, by simp [twoSm]; omega, HF.out⟩
            · have q2' : (x == 2) = false := by simpa using q2
              clear q0 q1 q2
              have hmk : ∀ W : World, (Instr.makeSlice 26 (.int .i64 13) (.int .i64 13)).run Try.prog W = .ok (.slice (some ⟨W.heap.size, 0, none⟩) 13 13) (W.alloc (.cells #[.string ⟨#[]⟩, .int .i64 0, .int .i64 0, .int .i64 0, .string ⟨#[]⟩, .int .i64 0, .int .i64 0, .int .i64 0, .string ⟨#[]⟩, .int .i64 0, .int .i64 0, .int .i64 0, .string ⟨#[]⟩, .int .i64 0, .int .i64 0, .int .i64 0, .string ⟨#[]⟩, .int .i64 0, .int .i64 0, .int .i64 0, .string ⟨#[]⟩, .int .i64 0, .int .i64 0, .int .i64 0, .string ⟨#[]⟩, .int .i64 0, .int .i64 0, .int .i64 0, .string ⟨#[]⟩, .int .i64 0, .int .i64 0, .int .i64 0, .string ⟨#[]⟩, .int .i64 0, .int .i64 0, .int .i64 0, .string ⟨#[]⟩, .int .i64 0, .int .i64 0, .int .i64 0, .string ⟨#[]⟩, .int .i64 0, .int .i64 0, .int .i64 0, .string ⟨#[]⟩, .int .i64 0, .int .i64 0, .int .i64 0, .string ⟨#[]⟩, .int .i64 0, .int .i64 0, .int .i64 0] 82)) := fun _ => by kernel_rfl
              have D9 := D8.out.alloc (.cells #[.string ⟨#[]⟩, .int .i64 0, .int .i64 0, .int .i64 0, .string ⟨#[]⟩, .int .i64 0, .int .i64 0, .int .i64 0, .string ⟨#[]⟩, .int .i64 0, .int .i64 0, .int .i64 0, .string ⟨#[]⟩, .int .i64 0, .int .i64 0, .int .i64 0, .string ⟨#[]⟩, .int .i64 0, .int .i64 0, .int .i64 0, .string ⟨#[]⟩, .int .i64 0, .int .i64 0, .int .i64 0, .string ⟨#[]⟩, .int .i64 0, .int .i64 0, .int .i64 0, .string ⟨#[]⟩, .int .i64 0, .int .i64 0, .int .i64 0, .string ⟨#[]⟩, .int .i64 0, .int .i64 0, .int .i64 0, .string ⟨#[]⟩, .int .i64 0, .int .i64 0, .int .i64 0, .string ⟨#[]⟩, .int .i64 0, .int .i64 0, .int .i64 0, .string ⟨#[]⟩, .int .i64 0, .int .i64 0, .int .i64 0, .string ⟨#[]⟩, .int .i64 0, .int .i64 0, .int .i64 0] 82)
              obtain ⟨p1, p2, p3⟩ := D8.out.setM hgl (W' := w5.alloc (.cells #[.string ⟨#[]⟩, .int .i64 0, .int .i64 0, .int .i64 0, .string ⟨#[]⟩, .int .i64 0, .int .i64 0, .int .i64 0, .string ⟨#[]⟩, .int .i64 0, .int .i64 0, .int .i64 0, .string ⟨#[]⟩, .int .i64 0, .int .i64 0, .int .i64 0, .string ⟨#[]⟩, .int .i64 0, .int .i64 0, .int .i64 0, .string ⟨#[]⟩, .int .i64 0, .int .i64 0, .int .i64 0, .string ⟨#[]⟩, .int .i64 0, .int .i64 0, .int .i64 0, .string ⟨#[]⟩, .int .i64 0, .int .i64 0, .int .i64 0, .string ⟨#[]⟩, .int .i64 0, .int .i64 0, .int .i64 0, .string ⟨#[]⟩, .int .i64 0, .int .i64 0, .int .i64 0, .string ⟨#[]⟩, .int .i64 0, .int .i64 0, .int .i64 0, .string ⟨#[]⟩, .int .i64 0, .int .i64 0, .int .i64 0, .string ⟨#[]⟩, .int .i64 0, .int .i64 0, .int .i64 0] 82)) (ms' := noSm) noSm_small (v' := .slice (some ⟨w5.heap.size, 0, none⟩) 13 13) (World.ownsRow_lit w5 _ 13 hw5 (by decide) rfl) (only_alloc (World.grownBy.refl w5 _) _)
              have HF := hidden (p3.more (P' := P + 1000) (by omega))
              clear p3 D9 D8 c0 f0
              go_wp2_with fail
              go_meet
              exact ⟨_, _, ss, noSm, by omega, by decide, HF.out⟩
          case rest =>
            obtain ⟨vs2, vm2, ss2, ms2, hl1, hl2, D⟩ := hcut
            clear D7
            have HS := hidden D.out.obj
            have HR := hidden D.out.res
            obtain ⟨e1, g1, rfl⟩ := D.out.secs.val
            obtain ⟨e2, g2, rfl⟩ := own_val D.out.syms
            have z0 := HS.out.cell 0
            have z1 := HS.out.cell 1
            have y0 := HR.out.cell 0
            have y1 := HR.out.cell 1
            have f0 := HR.out.free 0
            have f1 := HR.out.free 1
            go_wp2_with fail
            have HF : Has ((wc.setCell ⟨w.heap.size, 0, none⟩ (.slice e1 ss2.length g1)).setCell ⟨w.heap.size, 1, none⟩ (.slice e2 ms2.length g2)) w.heap.size 29 #[.slice e1 ss2.length g1, .slice e2 ms2.length g2] := (HR.out.put 0 _).put 1 _
            have G0 : wc.grownBy (wc.setCell ⟨w.heap.size, 0, none⟩ (.slice e1 ss2.length g1)) (some w.heap.size) := only_put' (g := w.heap.size) 0 _
            have G1 : (wc.setCell ⟨w.heap.size, 0, none⟩ (.slice e1 ss2.length g1)).grownBy ((wc.setCell ⟨w.heap.size, 0, none⟩ (.slice e1 ss2.length g1)).setCell ⟨w.heap.size, 1, none⟩ (.slice e2 ms2.length g2)) (some w.heap.size) := only_put' (g := w.heap.size) 1 _
            have S0 := (D.out.secs.low (by omega) G0).low (by omega) G1
            have M0 := D.out.syms.kept G0 (row_high D.out.syms (by omega))
            have M1 := M0.kept G1 (row_high M0 (by omega))
            have HG := only_trans G0 G1
            refine bodyPost_ret (results_cell_row rfl _ _ w.heap.size 29 #[.slice e1 ss2.length g1, .slice e2 ms2.length g2] (0, 0) _ rfl HF Try.underlying29 rfl (by kernel_rfl)) rfl ?_
            refine ⟨e1, e2, g1, g2, ss2, ms2, rfl, hl1, hl2, S0, M1, D.out.small, (D.out.rd.grown HG (fun j hj => by injection hj with hj; have := D.out.rd.1; omega)).mono (by omega), ?_⟩
            exact ⟨HG.os.trans D.out.grown.os, HG.tape.trans D.out.grown.tape, HG.output.trans D.out.grown.output, Nat.le_trans D.out.grown.size HG.size, fun i hi hne => (HG.block i (Nat.lt_of_lt_of_le hi D.out.grown.size) (fun e => by injection e with e; omega)).trans (D.out.grown.block i hi hne)⟩
    · obtain ⟨j, rfl⟩ : ∃ j', j = j' + 1 := ⟨j - 1, by omega⟩
      have c0 := D.out.obj.cell 0
      have f0 := D.out.obj.free 0
      have HSX := hidden (fun (W : World) (hd : DO w W B g Q vs (.slice none 0 0) ss []) => l20Section_any W B g Q many 0 hd.rd (by omega) (by omega) (by omega) (by omega) (by omega))
      have hJ0 : Hid (DO w wr.drew B g Q vs (.slice none 0 0) ss []) := D.out.kept ⟨rfl, rfl, rfl, Nat.le_refl _, fun _ _ _ => rfl⟩
      go_upto_region 6 with fail
      refine wp_region_chain (m := 4) (js := [.quiet (.pointer (some ⟨w.heap.size + 1, 0, none⟩)) 4, .quiet vs 2, .quiet (.pointer (some ⟨g, 0, none⟩)) 4, .quiet (.int .i64 many) 4, .chain 0, .chain 1, .chain 2, .quiet (.pointer (some ⟨w.heap.size + 1, 0, none⟩)) 4, .chain 3]) (by kernel_rfl) (JS w B g Q 0 vs (.slice none 0 0) ss []) (by kernel_rfl) (by kernel_rfl) ⟨fun _ => undef, hJ0.out⟩ (fun vals => ?_) ?_
      · show SeqW _ _ _ _ _ _ _
        refine ⟨fun k hk W hW => ?_, ?_⟩
        · unfold Oper.wp
          simp [go_sem]
          try exact ⟨_, rfl, rfl⟩
        simp only [Act.put, List.setIfInBounds_toArray, List.set_cons_succ, List.set_cons_zero]
        refine ⟨fun k hk W hW => ?_, ?_⟩
        · have q := (JS.obj hW hk).cell 0; unfold Oper.wp
          simp [go_sem, *]
          try exact ⟨_, rfl, rfl⟩
        simp only [Act.put, List.setIfInBounds_toArray, List.set_cons_succ, List.set_cons_zero]
        refine ⟨fun k hk W hW => ?_, ?_⟩
        · unfold Oper.wp
          simp [go_sem]
          try exact ⟨_, rfl, rfl⟩
        simp only [Act.put, List.setIfInBounds_toArray, List.set_cons_succ, List.set_cons_zero]
        refine ⟨fun k hk W hW => ?_, ?_⟩
        · unfold Oper.wp
          simp [go_sem]
          try exact ⟨_, rfl, rfl⟩
        simp only [Act.put, List.setIfInBounds_toArray, List.set_cons_succ, List.set_cons_zero]
        refine ⟨fun W hW => ?_, ?_⟩
        · unfold Oper.wp
          simp [go_sem]
          refine (HSX.out W hW).mono ?_
          rintro e w' ⟨s, a1, c1, a2, c2, rfl, hs, o1, o2, hr, hg, hz⟩
          have hd : DO w W B g Q vs (.slice none 0 0) ss [] := hW
          have hws : w.heap.size + 2 ≤ W.heap.size := by have := hd.obj.lt; omega
          have hN : JS w B g Q 0 vs (.slice none 0 0) ss [] 1 w' (upd vals 0 (s.agg a1 c1 a2 c2)) := ⟨hd.pick hgl hr hg, ⟨s, a1, c1, a2, c2⟩, ⟨hs, hz, row_lower o1 hws, row_lower o2 hws⟩, rfl⟩
          first | exact hN | exact ⟨_, rfl, hN⟩
        simp only [Act.put, List.setIfInBounds_toArray, List.set_cons_succ, List.set_cons_zero]
        refine ⟨fun W hW => ?_, ?_⟩
        · obtain ⟨hd, y, hy, hv⟩ := hW
          have hN : JS w B g Q 0 vs (.slice none 0 0) ss [] 2 (W.alloc (.cells #[.string y.s.name, .int .i64 y.s.kind, .int .i64 y.s.align, .slice y.a1 y.s.bytes.length y.c1, .int .i64 y.s.size, .slice y.a2 y.s.fixs.length y.c2] 42)) (upd vals 1 (.slice (some ⟨W.heap.size, 0, none⟩) 1 1)) :=
            ⟨hd.alloc _, y, W.heap.size, ⟨hy.1, hy.2.1, hy.2.2.1.alloc _, hy.2.2.2.alloc _⟩, rfl, Has.new _ _ _⟩
          clear hd
          unfold Oper.wp
          simp [go_sem, hv]
          first | exact hN | exact ⟨_, rfl, hN⟩
        simp only [Act.put, List.setIfInBounds_toArray, List.set_cons_succ, List.set_cons_zero]
        refine ⟨fun W hW => ?_, ?_⟩
        · obtain ⟨hd, y, hb, hy, hv, hh⟩ := hW
          have hw2 : w.heap.size + 2 ≤ W.heap.size := by have := hd.obj.lt; omega
          refine wp_append_own W _ _ _ rfl (w.heap.size + 2) 42 i0 (.agg #[.string ⟨#[]⟩, .int .i64 0, .int .i64 0, .slice none 0 0, .int .i64 0, .slice none 0 0]) 6 88 Try.underlying27 hi hz0 hz1 hz2 rfl (by decide) _ _ _ rfl hd.secs.row ⟨hb, 0, none⟩ 1 1 [.string y.s.name, .int .i64 y.s.kind, .int .i64 y.s.align, .slice y.a1 y.s.bytes.length y.c1, .int .i64 y.s.size, .slice y.a2 y.s.fixs.length y.c2] hv ?_ ?_ ?_ ?_ ?_ ?_ ?_
          · rfl
          · intro t u ht
            rw [addr_row, hh.cell t]
            simpa using ht
          · intro u hu
            simp at hu
            rcases hu with rfl | rfl | rfl | rfl | rfl | rfl <;> rfl
          · unfold maxLen; omega
          · omega
          · exact hw2
          · intro v' w' h2 h3 _
            obtain ⟨⟨b2, d2, hv2⟩, q1, q2, q3⟩ := hd.app hgl hy h2 h3
            exact ⟨v', rfl, y, b2, d2, hy.2.1, hv2, q1, q2, q3⟩
        simp only [Act.put, List.setIfInBounds_toArray, List.set_cons_succ, List.set_cons_zero]
        refine ⟨fun k hk W hW => ?_, ?_⟩
        · unfold Oper.wp
          simp [go_sem]
          try exact ⟨_, rfl, rfl⟩
        simp only [Act.put, List.setIfInBounds_toArray, List.set_cons_succ, List.set_cons_zero]
        refine ⟨fun W hW => ?_, trivial⟩
        obtain ⟨y, b2, d2, hz, hv2, q1, q2, q3⟩ := hW
        rw [hv2] at q3 ⊢
        have hN : ∀ u, JS w B g Q 0 vs (.slice none 0 0) ss [] 4 (W.setCell ⟨w.heap.size + 1, 0, none⟩ (.slice b2 (ss.length + 1) d2)) (upd vals 3 u) := fun u => ⟨_, y, hz, q3⟩
        clear q3
        unfold Oper.wp
        simp [go_sem, q1, q2]
        first | exact hN _ | exact ⟨undef, hN _⟩ | exact ⟨_, rfl, hN _⟩
      · intro W vals hJ
        obtain ⟨v, y, hz, hd⟩ := hJ
        have HD := hidden hd
        have hsz2 : Hid (∀ z ∈ ss ++ [y], 0 ≤ z.s.size) := fun z hzm => by
          rcases List.mem_append.1 hzm with h | h
          · exact hsz.out z h
          · simp only [List.mem_singleton] at h; rw [h]; exact hz rfl
        clear hd hJ0 HSX c0 f0 D hsz
        simp only [putAll, List.map_cons, List.map_nil, Job.val, Act.put, List.setIfInBounds_toArray, List.set_cons_succ, List.set_cons_zero]
        go_wp2_with fail
        go_roundw
        case rel => exact ⟨j, v, ss ++ [y], Q + 100, by go_num, by simp; omega, by omega, HD.out, hsz2⟩
        case measure => simp [intOf]

end Go.Proofs.Ytiocchmlmcoieaa

/-
  What holds while an object is made: the object so far, and the section that is being made.
-/
import Derived.Test.YtiocchmlmcoieaaBase
import Derived.Test.YtiocchmlmcoieaaSR
namespace Go.Proofs.Ytiocchmlmcoieaa
open Go.RowKit

theorem grown_only {w w' : World} (h : Below w.heap.size w w') : w.grownBy w' none := ⟨h.os, h.tape, h.output, h.size, fun i hi _ => h.block i hi⟩
theorem only_below {w w' : World} (h : w.grownBy w' none) : Below w.heap.size w w' := ⟨h.os, h.tape, h.output, h.size, fun i hi => h.block i hi (by simp)⟩
theorem SR.low {W W' : World} {base : Nat} {v : Value} {l : List Sp} (h : SR W base v l) {g : Nat} (hg : g < base) (hw : W.grownBy W' (some g)) : SR W' base v l :=
  ⟨h.row.kept hw (row_high h.row hg), h.wf, fun y hy => (h.own1 y hy).kept hw (row_high (h.own1 y hy) hg), fun y hy => (h.own2 y hy).kept hw (row_high (h.own2 y hy) hg), h.apart⟩
theorem SR.lower {W : World} {base base' : Nat} {v : Value} {l : List Sp} (h : SR W base v l) (hb : base' ≤ base) : SR W base' v l :=
  ⟨row_lower h.row hb, h.wf, fun y hy => row_lower (h.own1 y hy) hb, fun y hy => row_lower (h.own2 y hy) hb, h.apart⟩
theorem own_shape {W : World} {base : Nat} {T : TypeId} {size : Nat} {v : Value} {n : Nat} {xs : List Value} (h : W.ownsRow base T size v n xs) : ∃ a c, v = .slice a n c := by
  rcases h.2 with ⟨rfl, h0⟩ | ⟨k, cap, cur, rfl, _⟩
  · exact ⟨none, 0, by rw [h0]⟩
  · exact ⟨_, _, rfl⟩
/-- The object so far. -/
structure RO (w2 W : World) (vs vm : Value) (ss : List Sp) (ms : List Sm) : Prop where
  below : Below w2.heap.size w2 W
  obj : Has W w2.heap.size 29 #[vs, vm]
  secs : SR W (w2.heap.size + 1) vs ss
  syms : W.ownsRow (w2.heap.size + 1) 82 4 vm ms.length (flatM ms)
section
variable {w2 W W' : World} {vs vm : Value} {ss : List Sp} {ms : List Sm}
theorem RO.kept (h : RO w2 W vs vm ss ms) (hg : W.grownBy W' none) : RO w2 W' vs vm ss ms :=
  ⟨h.below.grown hg h.below.size (fun q hq => by cases hq), h.obj.grown hg (by simp), h.secs.kept hg, h.syms.kept hg (Classical.em _)⟩
theorem RO.only (h : RO w2 W vs vm ss ms) (hb : Below W.heap.size W W') : RO w2 W' vs vm ss ms := h.kept (grown_only hb)
theorem RO.alloc (h : RO w2 W vs vm ss ms) (o : Obj) : RO w2 (W.alloc o) vs vm ss ms := h.only ((Below.refl _ _).alloc (Nat.le_refl _) o)
theorem RO.drew (h : RO w2 W vs vm ss ms) : RO w2 W.drew vs vm ss ms := h.only ⟨rfl, rfl, rfl, Nat.le_refl _, fun _ _ => rfl⟩
theorem RO.new (w2 : World) : RO w2 (w2.alloc (.cells #[.slice none 0 0, .slice none 0 0] 29)) (.slice none 0 0) (.slice none 0 0) [] [] :=
  ⟨(Below.refl _ _).alloc (Nat.le_refl _) _, Has.new _ _ _, SR.nil _ _, World.ownsRow_nil _ _ _ _⟩
end
/-- The section that is being read. -/
structure RS (wb W : World) (nm : ByteArray) (kd al sz : Int) (v1 v2 : Value) (bs : List Int) (fs : List Fx) : Prop where
  below : Below wb.heap.size wb W
  sec : Has W wb.heap.size 42 #[.string nm, .int .i64 kd, .int .i64 al, v1, .int .i64 sz, v2]
  own1 : W.ownsRow wb.heap.size 5 1 v1 bs.length (bs.map (Value.int .u8))
  own2 : W.ownsRow wb.heap.size 119 4 v2 fs.length (flatF fs)
section
variable {wb W W' : World} {nm : ByteArray} {kd al sz : Int} {v1 v2 : Value} {bs : List Int} {fs : List Fx}
theorem RS.new (wb : World) (nm : ByteArray) (kd al : Int) : RS wb (wb.alloc (.cells #[.string nm, .int .i64 kd, .int .i64 al, .slice none 0 0, .int .i64 0, .slice none 0 0] 42)) nm kd al 0 (.slice none 0 0) (.slice none 0 0) [] [] :=
  ⟨(Below.refl _ _).alloc (Nat.le_refl _) _, Has.new _ _ _, World.ownsRow_nil _ _ _ _, World.ownsRow_nil _ _ _ _⟩
theorem RS.kept (h : RS wb W nm kd al sz v1 v2 bs fs) (hg : W.grownBy W' none) : RS wb W' nm kd al sz v1 v2 bs fs :=
  ⟨h.below.grown hg h.below.size (fun q hq => by cases hq), h.sec.grown hg (by simp), h.own1.kept hg (Classical.em _), h.own2.kept hg (Classical.em _)⟩
theorem RS.alloc (h : RS wb W nm kd al sz v1 v2 bs fs) (o : Obj) : RS wb (W.alloc o) nm kd al sz v1 v2 bs fs := h.kept (grown_only ((Below.refl _ _).alloc (Nat.le_refl _) o))
theorem RS.drew (h : RS wb W nm kd al sz v1 v2 bs fs) : RS wb W.drew nm kd al sz v1 v2 bs fs := h.kept ⟨rfl, rfl, rfl, Nat.le_refl _, fun _ _ _ => rfl⟩
/-- Its size is set. -/
theorem RS.size (h : RS wb W nm kd al sz v1 v2 bs fs) (z : Int) : RS wb (W.setCell ⟨wb.heap.size, 4, none⟩ (.int .i64 z)) nm kd al z v1 v2 bs fs :=
  have hg : W.grownBy (W.setCell ⟨wb.heap.size, 4, none⟩ (.int .i64 z)) (some wb.heap.size) := only_put' 4 _
  ⟨h.below.grown hg h.below.size (by intro q hq; injection hq with hq; omega), h.sec.put 4 _, h.own1.kept hg (row_apart h.own1 h.sec (by decide)), h.own2.kept hg (row_apart h.own2 h.sec (by decide))⟩
/-- Its bytes are set: a row that was made for them. -/
theorem RS.bytes {v' : Value} {bs' : List Int} (h : RS wb W nm kd al sz v1 v2 bs fs) (hg0 : W.grownBy W' none) (hr : W'.ownsRow wb.heap.size 5 1 v' bs'.length (bs'.map (Value.int .u8))) : RS wb (W'.setCell ⟨wb.heap.size, 3, none⟩ v') nm kd al sz v' v2 bs' fs :=
  have h1 := h.kept hg0
  have hg : W'.grownBy (W'.setCell ⟨wb.heap.size, 3, none⟩ v') (some wb.heap.size) := only_put' 3 _
  ⟨h1.below.grown hg h1.below.size (by intro q hq; injection hq with hq; omega), h1.sec.put 3 _, hr.kept hg (row_apart hr h1.sec (by decide)), h1.own2.kept hg (row_apart h1.own2 h1.sec (by decide))⟩
/-- A fixup is put behind the others, and the list is stored. -/
theorem RS.fixup {v' : Value} {f : Fx} (h : RS wb W nm kd al sz v1 v2 bs fs) (hg0 : W.grownBy W' v2.ownBlock) (hr : W'.ownsRow wb.heap.size 119 4 v' (fs.length + 1) (flatF fs ++ [.int .i64 f.pl, .int .i64 f.kind, .int .i64 f.to, .int .i64 f.add])) :
    Has W' wb.heap.size 42 #[.string nm, .int .i64 kd, .int .i64 al, v1, .int .i64 sz, v2] ∧ RS wb (W'.setCell ⟨wb.heap.size, 5, none⟩ v') nm kd al sz v1 v' bs (fs ++ [f]) := by
  have hs : Has W' wb.heap.size 42 #[.string nm, .int .i64 kd, .int .i64 al, v1, .int .i64 sz, v2] := h.sec.grown hg0 (h.sec.other h.own2 (by decide))
  have hb : Below wb.heap.size wb W' := h.below.grown hg0 h.below.size (fun q hq => (h.own2.lt q hq).1)
  have hg : W'.grownBy (W'.setCell ⟨wb.heap.size, 5, none⟩ v') (some wb.heap.size) := only_put' 5 _
  have o1 : W'.ownsRow wb.heap.size 5 1 v1 bs.length (bs.map (Value.int .u8)) := h.own1.kept hg0 (rows_apart h.own1 h.own2 (by decide))
  refine ⟨hs, hb.grown hg hb.size (by intro q hq; injection hq with hq; omega), hs.put 5 _, o1.kept hg (row_apart o1 hs (by decide)), ?_⟩
  rw [flatF_snoc, List.length_append]
  exact World.ownsRow.kept hr hg (row_apart hr hs (by decide))
/-- The section is put behind the others, and the list is stored. -/
theorem RO.app {w2 : World} {vs vm : Value} {ss : List Sp} {ms : List Sm} {a1 a2 : Option Addr} {c1 c2 : Nat} (hro : RO w2 wb vs vm ss ms) (h : RS wb W nm kd al sz (.slice a1 bs.length c1) (.slice a2 fs.length c2) bs fs) (hwf : ∀ x ∈ bs, (Lit.int .u8 x).wf = true)
    {v' : Value} (hg0 : W.grownBy W' vs.ownBlock) (hr : W'.ownsRow (w2.heap.size + 1) 42 6 v' (ss.length + 1) (flatS ss ++ [.string nm, .int .i64 kd, .int .i64 al, .slice a1 bs.length c1, .int .i64 sz, .slice a2 fs.length c2])) :
    Has W' w2.heap.size 29 #[vs, vm] ∧ RO w2 (W'.setCell ⟨w2.heap.size, 0, none⟩ v') v' vm (ss ++ [⟨⟨nm, kd, al, bs, sz, fs⟩, a1, c1, a2, c2⟩]) ms := by
  have hw := hro.kept (grown_only h.below)
  have hle : w2.heap.size + 1 ≤ wb.heap.size := hro.obj.lt
  have ho : Has W' w2.heap.size 29 #[vs, vm] := hw.obj.grown hg0 (hw.obj.other hw.secs.row (by decide))
  have hb : Below w2.heap.size w2 W' := hw.below.grown hg0 hw.below.size (fun q hq => by have := (hw.secs.row.lt q hq).1; omega)
  have hg : W'.grownBy (W'.setCell ⟨w2.heap.size, 0, none⟩ v') (some w2.heap.size) := only_put' 0 _
  have hsy : W'.ownsRow (w2.heap.size + 1) 82 4 vm ms.length (flatM ms) := hw.syms.kept hg0 (rows_apart hw.syms hw.secs.row (by decide))
  have hss : SR W' (w2.heap.size + 1) v' (ss ++ [⟨⟨nm, kd, al, bs, sz, fs⟩, a1, c1, a2, c2⟩]) := hw.secs.app (y := ⟨⟨nm, kd, al, bs, sz, fs⟩, a1, c1, a2, c2⟩) (hro.secs.later (Nat.le_refl _) (y := ⟨⟨nm, kd, al, bs, sz, fs⟩, a1, c1, a2, c2⟩) h.own1 h.own2) hwf (row_lower h.own1 hle) (row_lower h.own2 hle) hr hg0
  exact ⟨ho, hb.grown hg hb.size (by intro q hq; injection hq with hq; omega), ho.put 0 _, hss.other ho (by decide) (by decide) (by decide) hg, hsy.kept hg (row_apart hsy ho (by decide))⟩
end
/-- A symbol is put behind the others, and the list is stored. -/
theorem RO.appM {w2 W W' : World} {vs vm : Value} {ss : List Sp} {ms : List Sm} {m : Sm} (h : RO w2 W vs vm ss ms) {v' : Value} (hg0 : W.grownBy W' vm.ownBlock)
    (hr : W'.ownsRow (w2.heap.size + 1) 82 4 v' (ms.length + 1) (flatM ms ++ [.string m.name, .int .i64 m.bind, .int .i64 m.loc, .int .i64 m.value])) :
    Has W' w2.heap.size 29 #[vs, vm] ∧ RO w2 (W'.setCell ⟨w2.heap.size, 1, none⟩ v') vs v' ss (ms ++ [m]) := by
  have ho : Has W' w2.heap.size 29 #[vs, vm] := h.obj.grown hg0 (h.obj.other h.syms (by decide))
  have hb : Below w2.heap.size w2 W' := h.below.grown hg0 h.below.size (fun q hq => by have := (h.syms.lt q hq).1; omega)
  have hg : W'.grownBy (W'.setCell ⟨w2.heap.size, 1, none⟩ v') (some w2.heap.size) := only_put' 1 _
  have hss := h.secs.row' h.syms (by decide) (by decide) (by decide) hg0
  refine ⟨ho, hb.grown hg hb.size (by intro q hq; injection hq with hq; omega), ho.put 1 _, hss.other ho (by decide) (by decide) (by decide) hg, ?_⟩
  rw [flatM_snoc, List.length_append]
  exact World.ownsRow.kept hr hg (row_apart hr ho (by decide))
/-- An object in rows of its own. -/
structure OwnR (W : World) (lo : Nat) (a1 a2 : Option Addr) (n m c1 c2 : Nat) (ss : List Sp) (ms : List Sm) : Prop where
  low : lo ≤ W.heap.size
  len : ss.length = n
  lem : ms.length = m
  secs : SR W lo (.slice a1 n c1) ss
  syms : W.ownsRow lo 82 4 (.slice a2 m c2) m (flatM ms)
section
variable {W W' : World} {lo : Nat} {a1 a2 : Option Addr} {n m c1 c2 : Nat} {ss : List Sp} {ms : List Sm}
theorem OwnR.below (h : OwnR W lo a1 a2 n m c1 c2 ss ms) (hb : Below W.heap.size W W') : OwnR W' lo a1 a2 n m c1 c2 ss ms :=
  ⟨Nat.le_trans h.low hb.size, h.len, h.lem, h.secs.kept (grown_only hb), h.syms.kept (grown_only hb) (Classical.em _)⟩
theorem OwnR.under (h : OwnR W lo a1 a2 n m c1 c2 ss ms) {g : Nat} (hg : g < lo) (hw : W.grownBy W' (some g)) : OwnR W' lo a1 a2 n m c1 c2 ss ms :=
  ⟨Nat.le_trans h.low hw.size, h.len, h.lem, h.secs.low hg hw, h.syms.kept hw (row_high h.syms hg)⟩
theorem OwnR.sects (h : OwnR W lo a1 a2 n m c1 c2 ss ms) : Sects W W.heap.size a1 ss := by have := h.secs; rw [← h.len] at this; exact this.sects
theorem OwnR.syms' (h : OwnR W lo a1 a2 n m c1 c2 ss ms) : Syms W W.heap.size a2 ms := by have := h.syms; rw [← h.lem] at this; exact syms_of_own this
end

end Go.Proofs.Ytiocchmlmcoieaa

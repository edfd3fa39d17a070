/-
  Around the making of an object with its first symbol twice: what holds, whatever operations are done.
-/
import Derived.Test.YtdbedkjnoppkmaaRegionG
import Derived.Test.YtdbedkjnoppkmaaDrawO
namespace Go.Proofs.Ytdbedkjnoppkmaa
open Go.RowKit

/-- What holds when these operations are done, and gave these values. -/
structure JTw (W0 : World) (o g nm : Nat) (S1 VM : Value) (L x : List Value) (D : Nat → Prop) (Z : World) (vals : Nat → Value) : Prop where
  below : Below W0.heap.size W0 Z
  p0 : D 0 → vals 0 = .pointer (some ⟨o, 0, none⟩)
  s1 : D 1 → vals 1 = S1
  p3 : D 3 → vals 3 = .pointer (some ⟨o, 1, none⟩)
  v4 : D 4 → vals 4 = VM
  p6 : D 6 → vals 6 = .pointer (some ⟨o, 1, none⟩)
  v7 : D 7 → vals 7 = VM
  p8 : D 8 → vals 8 = .pointer (some ⟨g, 0, none⟩)
  x9 : D 9 → vals 9 = .agg x.toArray
  a12 : D 12 → vals 12 = .agg #[S1, vals 11]
  e : D 2 → ¬ D 5 → ∃ h, vals 2 = .slice (some ⟨h, 0, none⟩) 0 0 ∧ W0.heap.size ≤ h ∧ Has Z h 24 #[]
  r : D 5 → ¬ D 11 → Z.ownsRow W0.heap.size 24 4 (vals 5) nm L
  u : D 10 → ¬ D 11 → ∃ h, vals 10 = .slice (some ⟨h, 0, none⟩) 1 1 ∧ W0.heap.size ≤ h ∧ Has Z h 24 x.toArray
  s : D 11 → Z.ownsRow W0.heap.size 24 4 (vals 11) (nm + 1) (L ++ x)
  b : D 13 → ¬ D 14 → ∃ p, vals 13 = .pointer (some ⟨p, 0, none⟩) ∧ W0.heap.size ≤ p ∧ Has Z p 33 #[.slice none 0 0, .slice none 0 0]
  f : D 14 → ∃ p, vals 13 = .pointer (some ⟨p, 0, none⟩) ∧ W0.heap.size ≤ p ∧ Has Z p 33 #[S1, vals 11]
section
variable {W0 Z Z' : World} {o g nm : Nat} {S1 VM : Value} {L x : List Value} {D : Nat → Prop} {vals : Nat → Value}
theorem JTw.alloc (h : JTw W0 o g nm S1 VM L x D Z vals) (ob : Obj) : JTw W0 o g nm S1 VM L x D (Z.alloc ob) vals :=
  ⟨h.below.alloc h.below.size _, h.p0, h.s1, h.p3, h.v4, h.p6, h.v7, h.p8, h.x9, h.a12,
   fun h1 h2 => (h.e h1 h2).imp fun _ q => ⟨q.1, q.2.1, q.2.2.alloc _⟩, fun h1 h2 => (h.r h1 h2).alloc _, fun h1 h2 => (h.u h1 h2).imp fun _ q => ⟨q.1, q.2.1, q.2.2.alloc _⟩, fun h1 => (h.s h1).alloc _,
   fun h1 h2 => (h.b h1 h2).imp fun _ q => ⟨q.1, q.2.1, q.2.2.alloc _⟩, fun h1 => (h.f h1).imp fun _ q => ⟨q.1, q.2.1, q.2.2.alloc _⟩⟩
theorem JTw.o0 (h : JTw W0 o g nm S1 VM L x D Z vals) {v : Value} (hv : v = Value.pointer (some ⟨o, 0, none⟩)) : JTw W0 o g nm S1 VM L x (fun u => u = 0 ∨ D u) Z (upd vals 0 v) :=
  ⟨h.below, fun _ => by simpa [upd] using hv, by simpa [upd] using h.s1, by simpa [upd] using h.p3, by simpa [upd] using h.v4, by simpa [upd] using h.p6, by simpa [upd] using h.v7, by simpa [upd] using h.p8, by simpa [upd] using h.x9, by simpa [upd] using h.a12, by simpa [upd] using h.e, by simpa [upd] using h.r, by simpa [upd] using h.u, by simpa [upd] using h.s, by simpa [upd] using h.b, by simpa [upd] using h.f⟩
theorem JTw.o1 (h : JTw W0 o g nm S1 VM L x D Z vals) {v : Value} (hv : v = S1) : JTw W0 o g nm S1 VM L x (fun u => u = 1 ∨ D u) Z (upd vals 1 v) :=
  ⟨h.below, by simpa [upd] using h.p0, fun _ => by simpa [upd] using hv, by simpa [upd] using h.p3, by simpa [upd] using h.v4, by simpa [upd] using h.p6, by simpa [upd] using h.v7, by simpa [upd] using h.p8, by simpa [upd] using h.x9, by simpa [upd] using h.a12, by simpa [upd] using h.e, by simpa [upd] using h.r, by simpa [upd] using h.u, by simpa [upd] using h.s, by simpa [upd] using h.b, by simpa [upd] using h.f⟩
theorem JTw.o3 (h : JTw W0 o g nm S1 VM L x D Z vals) {v : Value} (hv : v = Value.pointer (some ⟨o, 1, none⟩)) : JTw W0 o g nm S1 VM L x (fun u => u = 3 ∨ D u) Z (upd vals 3 v) :=
  ⟨h.below, by simpa [upd] using h.p0, by simpa [upd] using h.s1, fun _ => by simpa [upd] using hv, by simpa [upd] using h.v4, by simpa [upd] using h.p6, by simpa [upd] using h.v7, by simpa [upd] using h.p8, by simpa [upd] using h.x9, by simpa [upd] using h.a12, by simpa [upd] using h.e, by simpa [upd] using h.r, by simpa [upd] using h.u, by simpa [upd] using h.s, by simpa [upd] using h.b, by simpa [upd] using h.f⟩
theorem JTw.o4 (h : JTw W0 o g nm S1 VM L x D Z vals) {v : Value} (hv : v = VM) : JTw W0 o g nm S1 VM L x (fun u => u = 4 ∨ D u) Z (upd vals 4 v) :=
  ⟨h.below, by simpa [upd] using h.p0, by simpa [upd] using h.s1, by simpa [upd] using h.p3, fun _ => by simpa [upd] using hv, by simpa [upd] using h.p6, by simpa [upd] using h.v7, by simpa [upd] using h.p8, by simpa [upd] using h.x9, by simpa [upd] using h.a12, by simpa [upd] using h.e, by simpa [upd] using h.r, by simpa [upd] using h.u, by simpa [upd] using h.s, by simpa [upd] using h.b, by simpa [upd] using h.f⟩
theorem JTw.o6 (h : JTw W0 o g nm S1 VM L x D Z vals) {v : Value} (hv : v = Value.pointer (some ⟨o, 1, none⟩)) : JTw W0 o g nm S1 VM L x (fun u => u = 6 ∨ D u) Z (upd vals 6 v) :=
  ⟨h.below, by simpa [upd] using h.p0, by simpa [upd] using h.s1, by simpa [upd] using h.p3, by simpa [upd] using h.v4, fun _ => by simpa [upd] using hv, by simpa [upd] using h.v7, by simpa [upd] using h.p8, by simpa [upd] using h.x9, by simpa [upd] using h.a12, by simpa [upd] using h.e, by simpa [upd] using h.r, by simpa [upd] using h.u, by simpa [upd] using h.s, by simpa [upd] using h.b, by simpa [upd] using h.f⟩
theorem JTw.o7 (h : JTw W0 o g nm S1 VM L x D Z vals) {v : Value} (hv : v = VM) : JTw W0 o g nm S1 VM L x (fun u => u = 7 ∨ D u) Z (upd vals 7 v) :=
  ⟨h.below, by simpa [upd] using h.p0, by simpa [upd] using h.s1, by simpa [upd] using h.p3, by simpa [upd] using h.v4, by simpa [upd] using h.p6, fun _ => by simpa [upd] using hv, by simpa [upd] using h.p8, by simpa [upd] using h.x9, by simpa [upd] using h.a12, by simpa [upd] using h.e, by simpa [upd] using h.r, by simpa [upd] using h.u, by simpa [upd] using h.s, by simpa [upd] using h.b, by simpa [upd] using h.f⟩
theorem JTw.o8 (h : JTw W0 o g nm S1 VM L x D Z vals) {v : Value} (hv : v = Value.pointer (some ⟨g, 0, none⟩)) : JTw W0 o g nm S1 VM L x (fun u => u = 8 ∨ D u) Z (upd vals 8 v) :=
  ⟨h.below, by simpa [upd] using h.p0, by simpa [upd] using h.s1, by simpa [upd] using h.p3, by simpa [upd] using h.v4, by simpa [upd] using h.p6, by simpa [upd] using h.v7, fun _ => by simpa [upd] using hv, by simpa [upd] using h.x9, by simpa [upd] using h.a12, by simpa [upd] using h.e, by simpa [upd] using h.r, by simpa [upd] using h.u, by simpa [upd] using h.s, by simpa [upd] using h.b, by simpa [upd] using h.f⟩
theorem JTw.o9 (h : JTw W0 o g nm S1 VM L x D Z vals) {v : Value} (hv : v = Value.agg x.toArray) : JTw W0 o g nm S1 VM L x (fun u => u = 9 ∨ D u) Z (upd vals 9 v) :=
  ⟨h.below, by simpa [upd] using h.p0, by simpa [upd] using h.s1, by simpa [upd] using h.p3, by simpa [upd] using h.v4, by simpa [upd] using h.p6, by simpa [upd] using h.v7, by simpa [upd] using h.p8, fun _ => by simpa [upd] using hv, by simpa [upd] using h.a12, by simpa [upd] using h.e, by simpa [upd] using h.r, by simpa [upd] using h.u, by simpa [upd] using h.s, by simpa [upd] using h.b, by simpa [upd] using h.f⟩
theorem JTw.o12 (h : JTw W0 o g nm S1 VM L x D Z vals) {v : Value} (hv : v = .agg #[S1, vals 11]) : JTw W0 o g nm S1 VM L x (fun u => u = 12 ∨ D u) Z (upd vals 12 v) :=
  ⟨h.below, by simpa [upd] using h.p0, by simpa [upd] using h.s1, by simpa [upd] using h.p3, by simpa [upd] using h.v4, by simpa [upd] using h.p6, by simpa [upd] using h.v7, by simpa [upd] using h.p8, by simpa [upd] using h.x9, fun _ => by simpa [upd] using hv, by simpa [upd] using h.e, by simpa [upd] using h.r, by simpa [upd] using h.u, by simpa [upd] using h.s, by simpa [upd] using h.b, by simpa [upd] using h.f⟩
theorem JTw.o2 (h : JTw W0 o g nm S1 VM L x D Z vals) {v : Value} (_ : ¬ D 5) (hv : ∃ h, v = .slice (some ⟨h, 0, none⟩) 0 0 ∧ W0.heap.size ≤ h ∧ Has Z h 24 #[]) : JTw W0 o g nm S1 VM L x (fun u => u = 2 ∨ D u) Z (upd vals 2 v) :=
  ⟨h.below, by simpa [upd] using h.p0, by simpa [upd] using h.s1, by simpa [upd] using h.p3, by simpa [upd] using h.v4, by simpa [upd] using h.p6, by simpa [upd] using h.v7, by simpa [upd] using h.p8, by simpa [upd] using h.x9, by simpa [upd] using h.a12, fun _ _ => by simpa [upd] using hv, by simpa [upd] using h.r, by simpa [upd] using h.u, by simpa [upd] using h.s, by simpa [upd] using h.b, by simpa [upd] using h.f⟩
theorem JTw.o10 (h : JTw W0 o g nm S1 VM L x D Z vals) {v : Value} (hv : ∃ h, v = .slice (some ⟨h, 0, none⟩) 1 1 ∧ W0.heap.size ≤ h ∧ Has Z h 24 x.toArray) : JTw W0 o g nm S1 VM L x (fun u => u = 10 ∨ D u) Z (upd vals 10 v) :=
  ⟨h.below, by simpa [upd] using h.p0, by simpa [upd] using h.s1, by simpa [upd] using h.p3, by simpa [upd] using h.v4, by simpa [upd] using h.p6, by simpa [upd] using h.v7, by simpa [upd] using h.p8, by simpa [upd] using h.x9, by simpa [upd] using h.a12, by simpa [upd] using h.e, by simpa [upd] using h.r, fun _ _ => by simpa [upd] using hv, by simpa [upd] using h.s, by simpa [upd] using h.b, by simpa [upd] using h.f⟩
theorem JTw.o13 (h : JTw W0 o g nm S1 VM L x D Z vals) {v : Value} (g14 : ¬ D 14) (hv : ∃ p, v = .pointer (some ⟨p, 0, none⟩) ∧ W0.heap.size ≤ p ∧ Has Z p 33 #[.slice none 0 0, .slice none 0 0]) : JTw W0 o g nm S1 VM L x (fun u => u = 13 ∨ D u) Z (upd vals 13 v) :=
  ⟨h.below, by simpa [upd] using h.p0, by simpa [upd] using h.s1, by simpa [upd] using h.p3, by simpa [upd] using h.v4, by simpa [upd] using h.p6, by simpa [upd] using h.v7, by simpa [upd] using h.p8, by simpa [upd] using h.x9, by simpa [upd] using h.a12, by simpa [upd] using h.e, by simpa [upd] using h.r, by simpa [upd] using h.u, by simpa [upd] using h.s, fun _ _ => by simpa [upd] using hv, fun q => absurd (q.resolve_left (by decide)) g14⟩
theorem JTw.o5 (h : JTw W0 o g nm S1 VM L x D Z vals) {v : Value} {k : Nat} (g11 : ¬ D 11) (g12 : ¬ D 12) (g14 : ¬ D 14) (hk : W0.heap.size ≤ k) (hz : Has Z k 24 #[]) (hx : x ≠ []) (hr : Z'.ownsRow W0.heap.size 24 4 v nm L) (hg : Z.grownBy Z' (some k)) : JTw W0 o g nm S1 VM L x (fun u => u = 5 ∨ D u) Z' (upd vals 5 v) :=
  ⟨h.below.grown hg h.below.size (by intro q hq; injection hq with hq; omega), by simpa [upd] using h.p0, by simpa [upd] using h.s1, by simpa [upd] using h.p3, by simpa [upd] using h.v4, by simpa [upd] using h.p6, by simpa [upd] using h.v7, by simpa [upd] using h.p8, by simpa [upd] using h.x9, fun q => absurd (q.resolve_left (by decide)) g12,
   fun _ q => absurd (.inl rfl) q, fun _ _ => by simpa [upd] using hr,
   fun q1 _ => (h.u (q1.resolve_left (by decide)) g11).imp fun b q => ⟨by simpa [upd] using q.1, q.2.1, q.2.2.grown hg (fun e => by
     injection e with e
     subst e
     have := (q.2.2.cell 0).symm.trans (hz.cell 0)
     cases x with
     | nil => exact hx rfl
     | cons y r => simp at this)⟩,
   fun q => absurd (q.resolve_left (by decide)) g11,
   fun q1 _ => (h.b (q1.resolve_left (by decide)) g14).imp fun b q => ⟨by simpa [upd] using q.1, q.2.1, q.2.2.grown hg (fun e => by
     injection e with e
     subst e
     have h2 : some _ = some _ := q.2.2.symm.trans hz
     injection h2 with h2
     injection h2 with _ h3 _
     exact absurd h3 (by decide))⟩,
   fun q => absurd (q.resolve_left (by decide)) g14⟩
theorem JTw.o11 (h : JTw W0 o g nm S1 VM L x D Z vals) {v : Value} (d5 : D 5) (g11 : ¬ D 11) (g12 : ¬ D 12) (g14 : ¬ D 14) (hr : Z'.ownsRow W0.heap.size 24 4 v (nm + 1) (L ++ x)) (hg : Z.grownBy Z' (vals 5).ownBlock) : JTw W0 o g nm S1 VM L x (fun u => u = 11 ∨ D u) Z' (upd vals 11 v) :=
  ⟨h.below.grown hg h.below.size (fun q hq => ((h.r d5 g11).lt q hq).1), by simpa [upd] using h.p0, by simpa [upd] using h.s1, by simpa [upd] using h.p3, by simpa [upd] using h.v4, by simpa [upd] using h.p6, by simpa [upd] using h.v7, by simpa [upd] using h.p8, by simpa [upd] using h.x9, fun q => absurd (q.resolve_left (by decide)) g12,
   fun _ q => absurd (.inr d5) q, fun _ q => absurd (.inl rfl) q, fun _ q => absurd (.inl rfl) q,
   fun _ => by simpa [upd] using hr,
   fun q1 _ => (h.b (q1.resolve_left (by decide)) g14).imp fun b q => ⟨by simpa [upd] using q.1, q.2.1, q.2.2.grown hg (fun e => by
     rcases row_apart (h.r d5 g11) q.2.2 (by decide) with e2 | e2
     · rw [e2] at e; cases e
     · exact e2 e.symm)⟩,
   fun q => absurd (q.resolve_left (by decide)) g14⟩
theorem JTw.o14 (h : JTw W0 o g nm S1 VM L x D Z vals) {v : Value} {p : Nat} (_ : D 2) (d5 : D 5) (d11 : D 11) (d13 : D 13) (g14 : ¬ D 14) (hp : vals 13 = .pointer (some ⟨p, 0, none⟩)) (hf : Has Z' p 33 #[S1, vals 11]) (hg : Z.grownBy Z' (some p)) : JTw W0 o g nm S1 VM L x (fun u => u = 14 ∨ D u) Z' (upd vals 14 v) := by
  obtain ⟨p', e, hpp, hb⟩ := h.b d13 g14
  rw [hp] at e
  injection e with e
  injection e with e
  injection e with e
  subst e
  exact ⟨h.below.grown hg h.below.size (by intro q hq; injection hq with hq; omega), by simpa [upd] using h.p0, by simpa [upd] using h.s1, by simpa [upd] using h.p3, by simpa [upd] using h.v4, by simpa [upd] using h.p6, by simpa [upd] using h.v7, by simpa [upd] using h.p8, by simpa [upd] using h.x9, by simpa [upd] using h.a12,
   fun _ q => absurd (.inr d5) q, fun _ q => absurd (.inr d11) q, fun _ q => absurd (.inr d11) q,
   fun _ => by
     have := (h.s d11).kept hg (row_apart (h.s d11) hb (by decide))
     simpa [upd] using this,
   fun _ q => absurd (.inl rfl) q, fun _ => ⟨p, by simpa [upd] using hp, hpp, by simpa [upd] using hf⟩⟩
end

end Go.Proofs.Ytdbedkjnoppkmaa

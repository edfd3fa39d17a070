/-
  Sections that were drawn, one behind the other.
-/
import Derived.Test.YtjafekjcncmjjaaDrawX
import Derived.Test.YtjafekjcncmjjaaDrawY
import Derived.Test.YtjafekjcncmjjaaRowsX
namespace Go.Proofs.Ytjafekjcncmjjaa
open Go.RowKit

structure SL (W : World) (base : Nat) (v : Value) (l : List Sp) : Prop where
  row : W.ownsRow base 46 6 v l.length (flatS l)
  small : ∀ y ∈ l, y.s.small
  own1 : ∀ y ∈ l, W.ownsRow base 5 1 (.slice y.a1 y.s.bytes.length y.c1) y.s.bytes.length (y.s.bytes.map (Value.int .u8))
  own2 : ∀ y ∈ l, W.ownsRow base 88 4 (.slice y.a2 y.s.fixs.length y.c2) y.s.fixs.length (flatF y.s.fixs)
section
variable {W W' : World} {base : Nat} {v : Value} {l : List Sp}
theorem SL.low (h : SL W base v l) {g : Nat} (hg : g < base) (hw : W.grownBy W' (some g)) : SL W' base v l :=
  ⟨h.row.kept hw (row_high h.row hg), h.small, fun y hy => (h.own1 y hy).kept hw (row_high (h.own1 y hy) hg), fun y hy => (h.own2 y hy).kept hw (row_high (h.own2 y hy) hg)⟩
theorem SL.kept (h : SL W base v l) (hw : W.grownBy W' none) : SL W' base v l :=
  ⟨h.row.kept hw (Classical.em _), h.small, fun y hy => (h.own1 y hy).kept hw (Classical.em _), fun y hy => (h.own2 y hy).kept hw (Classical.em _)⟩
theorem SL.alloc (h : SL W base v l) (o : Obj) : SL (W.alloc o) base v l :=
  ⟨h.row.alloc o, h.small, fun y hy => (h.own1 y hy).alloc o, fun y hy => (h.own2 y hy).alloc o⟩
/-- A block of another type is written. -/
theorem SL.other (h : SL W base v l) {b : Nat} {T : TypeId} {cs : Array Value} (hb : Has W b T cs) (h1 : 46 ≠ T) (h2 : 5 ≠ T) (h3 : 88 ≠ T) (hw : W.grownBy W' (some b)) : SL W' base v l :=
  ⟨h.row.kept hw (row_apart h.row hb h1), h.small, fun y hy => (h.own1 y hy).kept hw (row_apart (h.own1 y hy) hb h2), fun y hy => (h.own2 y hy).kept hw (row_apart (h.own2 y hy) hb h3)⟩
/-- A row of another type is appended to. -/
theorem SL.row' (h : SL W base v l) {base' : Nat} {T : TypeId} {size : Nat} {u : Value} {n : Nat} {xs : List Value} (hu : W.ownsRow base' T size u n xs) (h1 : 46 ≠ T) (h2 : 5 ≠ T) (h3 : 88 ≠ T) (hw : W.grownBy W' u.ownBlock) : SL W' base v l :=
  ⟨h.row.kept hw (rows_apart h.row hu h1), h.small, fun y hy => (h.own1 y hy).kept hw (rows_apart (h.own1 y hy) hu h2), fun y hy => (h.own2 y hy).kept hw (rows_apart (h.own2 y hy) hu h3)⟩
/-- A section is put behind the others. -/
theorem SL.app (h : SL W base v l) {y : Sp} (hs : y.s.small) (h1 : W.ownsRow base 5 1 (.slice y.a1 y.s.bytes.length y.c1) y.s.bytes.length (y.s.bytes.map (Value.int .u8)))
    (h2 : W.ownsRow base 88 4 (.slice y.a2 y.s.fixs.length y.c2) y.s.fixs.length (flatF y.s.fixs)) {v' : Value}
    (hr : W'.ownsRow base 46 6 v' (l.length + 1) (flatS l ++ [.string y.s.name, .int .i64 y.s.kind, .int .i64 y.s.align, .slice y.a1 y.s.bytes.length y.c1, .int .i64 y.s.size, .slice y.a2 y.s.fixs.length y.c2])) (hw : W.grownBy W' v.ownBlock) : SL W' base v' (l ++ [y]) := by
  have k1 : ∀ z ∈ l ++ [y], W.ownsRow base 5 1 (.slice z.a1 z.s.bytes.length z.c1) z.s.bytes.length (z.s.bytes.map (Value.int .u8)) := fun z hz => by
    rcases List.mem_append.1 hz with h' | h'
    · exact h.own1 z h'
    · simp only [List.mem_singleton] at h'; rw [h']; exact h1
  have k2 : ∀ z ∈ l ++ [y], W.ownsRow base 88 4 (.slice z.a2 z.s.fixs.length z.c2) z.s.fixs.length (flatF z.s.fixs) := fun z hz => by
    rcases List.mem_append.1 hz with h' | h'
    · exact h.own2 z h'
    · simp only [List.mem_singleton] at h'; rw [h']; exact h2
  refine ⟨?_, fun z hz => ?_, fun z hz => (k1 z hz).kept hw (rows_apart (k1 z hz) h.row (by decide)), fun z hz => (k2 z hz).kept hw (rows_apart (k2 z hz) h.row (by decide))⟩
  · rw [flatS_snoc, List.length_append]; exact hr
  · rcases List.mem_append.1 hz with h' | h'
    · exact h.small z h'
    · simp only [List.mem_singleton] at h'; rw [h']; exact hs
theorem SL.cells {a : Option Addr} {c : Nat} (h : SL W base (.slice a l.length c) l) : 0 < l.length → ∃ b, a = some ⟨b, 0, none⟩ ∧ base ≤ b ∧ b < W.heap.size ∧ ∀ i y, l[i]? = some y → SecAt W b (i * 6) y := fun hn => by
  rcases h.row.2 with ⟨_, h0⟩ | ⟨g, cap, cur, hv, hgb, hh, _, _, _, ht⟩
  · omega
  have hh' : Has W g 46 cur := hh
  injection hv with hv _
  refine ⟨g, hv, hgb, hh'.lt, fun i y hi => ?_⟩
  have hil : i < l.length := (List.getElem?_eq_some_iff.1 hi).1
  obtain ⟨e0, e1, e2, e3, e4, e5⟩ := flatS_at l i y hi
  have key : ∀ j (u : Value), j < l.length * 6 → (flatS l)[j]? = some u → W.cell? ⟨g, j, none⟩ = some u := fun j u hj hu => by
    rw [hh'.cell j, ← Array.getElem?_toList]
    rw [← ht, List.getElem?_take, if_pos hj] at hu
    exact hu
  exact ⟨key _ _ (by omega) e0, key _ _ (by omega) e1, key _ _ (by omega) e2, key _ _ (by omega) e3, key _ _ (by omega) e4, key _ _ (by omega) e5⟩
theorem SL.rowX {a : Option Addr} {c g : Nat} (h : SL W base (.slice a l.length c) l) (hg : g < base) : RowX W g a l := fun hn => by
  obtain ⟨b, ha, hb, hl, hc⟩ := h.cells hn
  exact ⟨b, 0, ha, hl, by omega, fun i y hi => by rw [Nat.zero_add]; exact hc i y hi⟩
theorem SL.sects {a : Option Addr} {c : Nat} (h : SL W base (.slice a l.length c) l) : Sects W W.heap.size a l :=
  ⟨fun hn => by
    obtain ⟨b, ha, hb, hl, hc⟩ := h.cells hn
    exact ⟨b, 0, ha, hl, fun i y hi => by rw [Nat.zero_add]; exact hc i y hi⟩,
   fun y hy => by
    obtain ⟨b1, d1, e1, hd1, hi1⟩ := ints_of_own' (h.own1 y hy) (h.small y hy).wf
    cases e1
    exact hi1,
   fun y hy => fixs_of_own (h.own2 y hy)⟩
theorem SL.val {v : Value} (h : SL W base v l) : ∃ a c, v = .slice a l.length c := by
  rcases h.row.2 with ⟨e, h0⟩ | ⟨g, cap, cur, e, _⟩
  · exact ⟨_, _, by rw [e, h0]⟩
  · exact ⟨_, _, e⟩
theorem Sx.small.long {s : Sx} (h : s.small) : 0 ≤ s.long ∨ s.long = -1 := by
  unfold Sx.long
  have := h.size0
  split <;> omega
end

end Go.Proofs.Ytjafekjcncmjjaa

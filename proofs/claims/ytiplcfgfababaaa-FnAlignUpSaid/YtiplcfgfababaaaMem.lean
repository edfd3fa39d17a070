/-
  Words of my own for memory: a block known whole, a slice of integers that reads as a list; how each is carried over draws, new blocks and stores.
-/
import Derived.Below
import Derived.Laws.OwnMore
import Derived.Deep.Draws
import Derived.Laws.Rows
import Derived.WalkKit
import Derived.Handy
namespace Go.Proofs.Ytiplcfgfababaaa
open Go.RowKit

/-- Block 'g' is exactly these cells, of element type 't', none of them frozen. -/
def Has (w : World) (g : Nat) (t : TypeId) (cs : Array Value) : Prop := w.heap[g]? = some (.cells cs t (0, 0))
section
variable {w w' : World} {g : Nat} {t : TypeId} {cs : Array Value}
theorem Has.lt (h : Has w g t cs) : g < w.heap.size := by
  rcases Nat.lt_or_ge g w.heap.size with a | a
  · exact a
  · unfold Has at h; rw [Array.getElem?_eq_none a] at h; cases h
theorem Has.cell (h : Has w g t cs) (i : Nat) : w.cell? ⟨g, i, none⟩ = cs[i]? := cell_of_row w g i cs t (0, 0) h
theorem Has.free (h : Has w g t cs) (i : Nat) : w.frozen? ⟨g, i, none⟩ = false := by
  unfold Has at h; simp [World.frozen?, h]
theorem Has.new (w : World) (t : TypeId) (cs : Array Value) : Has (w.alloc (.cells cs t)) w.heap.size t cs := heap_alloc_new w _
theorem Has.drew (h : Has w g t cs) : Has w.drew g t cs := h
theorem Has.drewN (h : Has w g t cs) (n : Nat) : Has (w.drewN n) g t cs := h
theorem Has.alloc (h : Has w g t cs) (o : Obj) : Has (w.alloc o) g t cs := (Below.heap_alloc w o g h.lt).trans h
theorem Has.put (h : Has w g t cs) (i : Nat) (u : Value) : Has (w.setCell ⟨g, i, none⟩ u) g t (cs.setIfInBounds i u) := by
  unfold Has at h ⊢
  simp [World.setCell, Array.getElem?_modify, h]
theorem Has.away (h : Has w g t cs) {p : Addr} (hp : g ≠ p.block) (u : Value) : Has (w.setCell p u) g t cs := (Below.heap_setCell w p u g hp).trans h
theorem Has.below {B : Nat} (h : Has w g t cs) (hb : Below B w w') (hg : g < B) : Has w' g t cs := (hb.block g hg).trans h
theorem Has.grown {row : Option Nat} (h : Has w g t cs) (hb : w.grownBy w' row) (hg : some g ≠ row) : Has w' g t cs := (hb.block g h.lt hg).trans h
theorem Has.differ {g' : Nat} {t' : TypeId} {cs' : Array Value} (h : Has w g t cs) (h' : Has w g' t' cs') (hne : t ≠ t') : g ≠ g' := by
  rintro rfl
  unfold Has at h h'
  rw [h] at h'
  injection h' with h'
  injection h' with _ ht
  exact hne ht
end

/-- The slice at address 'a' holds the numbers 'l' of kind 'k', in a block below 'B' (where it holds any). -/
def Ints (w : World) (k : IntKind) (B : Nat) (a : Option Addr) (l : List Int) : Prop :=
  (∀ x ∈ l, (Lit.int k x).wf = true) ∧ (0 < l.length → ∃ b off, a = some ⟨b, off, none⟩ ∧ b < B ∧ ∀ i, i < l.length → w.cell? ⟨b, off + i, none⟩ = some (.int k (l.getD i 0)))
section
variable {w w' : World} {k : IntKind} {B B' : Nat} {a : Option Addr} {l : List Int}
theorem Ints.at_ (h : Ints w k B a l) {i : Nat} (hi : i < l.length) : ∃ b off, a = some ⟨b, off, none⟩ ∧ b < B ∧ w.cell? ⟨b, off + i, none⟩ = some (.int k (l.getD i 0)) := by
  obtain ⟨b, off, ha, hb, hc⟩ := h.2 (by omega)
  exact ⟨b, off, ha, hb, hc i hi⟩
theorem Ints.wfAt (h : Ints w k B a l) {i : Nat} (hi : i < l.length) : (Lit.int k (l.getD i 0)).wf = true := by
  apply h.1
  simp [List.getD, List.getElem?_eq_getElem hi]
theorem Ints.keep (h : Ints w k B a l) (hk : ∀ p : Addr, p.block < B → w'.cell? p = w.cell? p) : Ints w' k B a l :=
  ⟨h.1, fun hn => by
    obtain ⟨b, off, ha, hb, hc⟩ := h.2 hn
    exact ⟨b, off, ha, hb, fun i hi => (hk _ hb).trans (hc i hi)⟩⟩
theorem Ints.more (h : Ints w k B a l) (hB : B ≤ B') : Ints w k B' a l :=
  ⟨h.1, fun hn => by
    obtain ⟨b, off, ha, hb, hc⟩ := h.2 hn
    exact ⟨b, off, ha, by omega, hc⟩⟩
theorem Ints.below (h : Ints w k B a l) (hb : Below B w w') : Ints w' k B a l := h.keep fun _ hp => hb.cell hp
theorem Ints.drewN (h : Ints w k B a l) (n : Nat) : Ints (w.drewN n) k B a l := h
theorem Ints.alloc (h : Ints w k B a l) (hB : B ≤ w.heap.size) (o : Obj) : Ints (w.alloc o) k B a l := h.keep fun p hp => World.cell?_alloc_lt w o p (by omega)
theorem Ints.take (h : Ints w k B a l) (n : Nat) : Ints w k B a (l.take n) :=
  ⟨fun x hx => h.1 x (List.mem_of_mem_take hx), fun hn => by
    rw [List.length_take] at hn
    obtain ⟨b, off, ha, hb, hc⟩ := h.2 (by omega)
    refine ⟨b, off, ha, hb, fun i hi => ?_⟩
    rw [List.length_take] at hi
    rw [hc i (by omega)]
    simp [List.getD, List.getElem?_take, show i < n by omega]⟩
theorem Ints.ofHas {g : Nat} {t : TypeId} {cs : Array Value} (h : Has w g t cs) (hcs : cs = (l.map (Value.int k)).toArray) (hwf : ∀ x ∈ l, (Lit.int k x).wf = true) (hB : g < B) :
    Ints w k B (some ⟨g, 0, none⟩) l :=
  ⟨hwf, fun _ => ⟨g, 0, rfl, hB, fun i hi => by
    rw [h.cell, hcs]
    simp [List.getD, List.getElem?_eq_getElem hi]⟩⟩
end
theorem hidden {p : Prop} (h : p) : Hid p := h
theorem wf_u8 {x : Int} : (Lit.int .u8 x).wf = true ↔ 0 ≤ x ∧ x < 256 := by
  simp [Lit.wf, IntKind.min, IntKind.max, IntKind.signed, IntKind.bits]; omega
/-- Draws, new blocks: what a walk that writes nothing old leaves. -/
theorem below_drewN {B : Nat} {a w : World} (h : Below B a w) (n : Nat) : Below B a (w.drewN n) := ⟨h.os, h.tape, h.output, h.size, h.block⟩
theorem lt_of_cell {w : World} {p : Addr} {v : Value} (h : w.cell? p = some v) : p.block < w.heap.size := by
  rcases Nat.lt_or_ge p.block w.heap.size with a | a
  · exact a
  · simp [World.cell?, Array.getElem?_eq_none a] at h
/-- What the row's step tells of a slice of integers that came in, as 'Ints'. -/
theorem Ints.ofRow {w : World} {k : IntKind} {a : Option Addr} {len cap : Nat} {zs : List Int}
    (h : (a = none ∧ len = 0 ∧ cap = 0 ∧ zs = []) ∨
      ∃ x, a = some x ∧ len ≤ cap ∧ cap ≤ maxLen ∧ zs.length = cap ∧ (∀ i, i < zs.length → w.cell? (x.add i) = some (.int k (zs.getD i 0))) ∧ ∀ n ∈ zs, (Lit.int k n).wf = true) :
    ∃ l, Ints w k w.heap.size a l ∧ l.length = len ∧ len ≤ 9223372036854775807 := by
  refine ⟨zs.take len, ?_, ?_, ?_⟩
  · rcases h with ⟨rfl, rfl, rfl, rfl⟩ | ⟨x, rfl, h1, h2, h3, h4, h5⟩
    · exact ⟨by simp, by simp⟩
    · refine Ints.take (l := zs) ⟨h5, fun hn => ?_⟩ len
      obtain ⟨b, off, spot⟩ := x
      have h0 := h4 0 hn
      have hspot : spot = none := by simpa [Addr.add] using World.cell?_spot h0
      subst hspot
      have hlt := lt_of_cell h0
      refine ⟨b, off, rfl, by simpa [Addr.add] using hlt, fun i hi => ?_⟩
      have := h4 i hi
      unfold Addr.add at this
      split at this
      · rename_i e; subst e; simpa using this
      · simpa using this
  · rcases h with ⟨rfl, rfl, rfl, rfl⟩ | ⟨x, rfl, h1, h2, h3, h4, h5⟩
    · rfl
    · rw [List.length_take]; omega
  · rcases h with ⟨rfl, rfl, rfl, rfl⟩ | ⟨x, rfl, h1, h2, h3, h4, h5⟩
    · omega
    · unfold maxLen at h2; omega
theorem Ints.ofRow' {w : World} {k : IntKind} {a : Option Addr} {len cap : Nat} {zs : List Int}
    (h : (a = none ∧ len = 0 ∧ cap = 0 ∧ zs = []) ∨
      ∃ x, a = some x ∧ len ≤ cap ∧ cap ≤ maxLen ∧ zs.length = cap ∧ (∀ i, i < zs.length → w.cell? (x.add i) = some (.int k (zs.getD i 0))) ∧ ∀ n ∈ zs, (Lit.int k n).wf = true) :
    ∃ l, Ints w k w.heap.size a l ∧ l.length = len ∧ len ≤ cap ∧ cap ≤ 9223372036854775807 := by
  obtain ⟨l, h1, h2, _⟩ := Ints.ofRow h
  refine ⟨l, h1, h2, ?_⟩
  rcases h with ⟨rfl, rfl, rfl, rfl⟩ | ⟨x, rfl, h1, h2, _⟩
  · omega
  · unfold maxLen at h2; omega
end Go.Proofs.Ytiplcfgfababaaa

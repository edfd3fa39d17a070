/-
  Words of my own for memory: a block known whole, a slice of integers that reads as a list; how each is carried over draws, new blocks and stores.
-/
import Derived.Below
import Derived.Laws.OwnMore
import Derived.Deep.Draws
import Derived.Laws.Rows
import Derived.WalkKit
import Derived.Handy
namespace Go.Proofs.Ytdbedkjnoppkmaa
open Go.RowKit

/-- Block 'g' is exactly these cells, of element type 't', none of them frozen. -/
def Has (w : World) (g : Nat) (t : TypeId) (cs : Array Value) : Prop := w.heap[g]? = some (.cells cs t (0, 0))
section
variable {w w' : World} {g : Nat} {t : TypeId} {cs : Array Value}
theorem Has.lt (h : Has w g t cs) : g < w.heap.size := by
  rcases Nat.lt_or_ge g w.heap.size with a | a
  · exact a
  · unfold Has at h; rw [Array.getElem?_eq_none a] at h; cases h
theorem Has.cell (h : Has w g t cs) (i : Nat) : w.cell? ⟨g, i, none⟩ = cs[i]? := cell_of_row w g i cs t (0, 0) h
theorem Has.free (h : Has w g t cs) (i : Nat) : w.frozen? ⟨g, i, none⟩ = false := by
  unfold Has at h; simp [World.frozen?, h]
theorem Has.new (w : World) (t : TypeId) (cs : Array Value) : Has (w.alloc (.cells cs t)) w.heap.size t cs := heap_alloc_new w _
theorem Has.drew (h : Has w g t cs) : Has w.drew g t cs := h
theorem Has.drewN (h : Has w g t cs) (n : Nat) : Has (w.drewN n) g t cs := h
theorem Has.alloc (h : Has w g t cs) (o : Obj) : Has (w.alloc o) g t cs := (Below.heap_alloc w o g h.lt).trans h
theorem Has.put (h : Has w g t cs) (i : Nat) (u : Value) : Has (w.setCell ⟨g, i, none⟩ u) g t (cs.setIfInBounds i u) := by
  unfold Has at h ⊢
  simp [World.setCell, Array.getElem?_modify, h]
theorem Has.away (h : Has w g t cs) {p : Addr} (hp : g ≠ p.block) (u : Value) : Has (w.setCell p u) g t cs := (Below.heap_setCell w p u g hp).trans h
theorem Has.below {B : Nat} (h : Has w g t cs) (hb : Below B w w') (hg : g < B) : Has w' g t cs := (hb.block g hg).trans h
theorem Has.grown {row : Option Nat} (h : Has w g t cs) (hb : w.grownBy w' row) (hg : some g ≠ row) : Has w' g t cs := (hb.block g h.lt hg).trans h
theorem Has.differ {g' : Nat} {t' : TypeId} {cs' : Array Value} (h : Has w g t cs) (h' : Has w g' t' cs') (hne : t ≠ t') : g ≠ g' := by
  rintro rfl
  unfold Has at h h'
  rw [h] at h'
  injection h' with h'
  injection h' with _ ht
  exact hne ht
end

/-- The slice at address 'a' holds the numbers 'l' of kind 'k', in a block below 'B' (where it holds any). -/
def Ints (w : World) (k : IntKind) (B : Nat) (a : Option Addr) (l : List Int) : Prop :=
  (∀ x ∈ l, (Lit.int k x).wf = true) ∧ (0 < l.length → ∃ b off, a = some ⟨b, off, none⟩ ∧ b < B ∧ ∀ i, i < l.length → w.cell? ⟨b, off + i, none⟩ = some (.int k (l.getD i 0)))
section
variable {w w' : World} {k : IntKind} {B B' : Nat} {a : Option Addr} {l : List Int}
theorem Ints.at_ (h : Ints w k B a l) {i : Nat} (hi : i < l.length) : ∃ b off, a = some ⟨b, off, none⟩ ∧ b < B ∧ w.cell? ⟨b, off + i, none⟩ = some (.int k (l.getD i 0)) := by
  obtain ⟨b, off, ha, hb, hc⟩ := h.2 (by omega)
  exact ⟨b, off, ha, hb, hc i hi⟩
theorem Ints.wfAt (h : Ints w k B a l) {i : Nat} (hi : i < l.length) : (Lit.int k (l.getD i 0)).wf = true := by
  apply h.1
  simp [List.getD, List.getElem?_eq_getElem hi]
theorem Ints.keep (h : Ints w k B a l) (hk : ∀ p : Addr, p.block < B → w'.cell? p = w.cell? p) : Ints w' k B a l :=
  ⟨h.1, fun hn => by
    obtain ⟨b, off, ha, hb, hc⟩ := h.2 hn
    exact ⟨b, off, ha, hb, fun i hi => (hk _ hb).trans (hc i hi)⟩⟩
theorem Ints.more (h : Ints w k B a l) (hB : B ≤ B') : Ints w k B' a l :=
  ⟨h.1, fun hn => by
    obtain ⟨b, off, ha, hb, hc⟩ := h.2 hn
    exact ⟨b, off, ha, by omega, hc⟩⟩
theorem Ints.below (h : Ints w k B a l) (hb : Below B w w') : Ints w' k B a l := h.keep fun _ hp => hb.cell hp
theorem Ints.drewN (h : Ints w k B a l) (n : Nat) : Ints (w.drewN n) k B a l := h
theorem Ints.alloc (h : Ints w k B a l) (hB : B ≤ w.heap.size) (o : Obj) : Ints (w.alloc o) k B a l := h.keep fun p hp => World.cell?_alloc_lt w o p (by omega)
theorem Ints.take (h : Ints w k B a l) (n : Nat) : Ints w k B a (l.take n) :=
  ⟨fun x hx => h.1 x (List.mem_of_mem_take hx), fun hn => by
    rw [List.length_take] at hn
    obtain ⟨b, off, ha, hb, hc⟩ := h.2 (by omega)
    refine ⟨b, off, ha, hb, fun i hi => ?_⟩
    rw [List.length_take] at hi
    rw [hc i (by omega)]
    simp [List.getD, show i < n by omega]⟩
theorem Ints.ofHas {g : Nat} {t : TypeId} {cs : Array Value} (h : Has w g t cs) (hcs : cs = (l.map (Value.int k)).toArray) (hwf : ∀ x ∈ l, (Lit.int k x).wf = true) (hB : g < B) :
    Ints w k B (some ⟨g, 0, none⟩) l :=
  ⟨hwf, fun _ => ⟨g, 0, rfl, hB, fun i hi => by
    rw [h.cell, hcs]
    simp [List.getD, List.getElem?_eq_getElem hi]⟩⟩
end
theorem hidden {p : Prop} (h : p) : Hid p := h
theorem wf_u8 {x : Int} : (Lit.int .u8 x).wf = true ↔ 0 ≤ x ∧ x < 256 := by
  simp [Lit.wf, IntKind.min, IntKind.max, IntKind.signed, IntKind.bits]; omega
/-- Draws, new blocks: what a walk that writes nothing old leaves. -/
theorem below_drewN {B : Nat} {a w : World} (h : Below B a w) (n : Nat) : Below B a (w.drewN n) := ⟨h.os, h.tape, h.output, h.size, h.block⟩
theorem lt_of_cell {w : World} {p : Addr} {v : Value} (h : w.cell? p = some v) : p.block < w.heap.size := by
  rcases Nat.lt_or_ge p.block w.heap.size with a | a
  · exact a
  · simp [World.cell?, Array.getElem?_eq_none a] at h
/-- What the row's step tells of a slice of integers that came in, as 'Ints'. -/
theorem Ints.ofRow {w : World} {k : IntKind} {a : Option Addr} {len cap : Nat} {zs : List Int}
    (h : (a = none ∧ len = 0 ∧ cap = 0 ∧ zs = []) ∨
      ∃ x, a = some x ∧ len ≤ cap ∧ cap ≤ maxLen ∧ zs.length = cap ∧ (∀ i, i < zs.length → w.cell? (x.add i) = some (.int k (zs.getD i 0))) ∧ ∀ n ∈ zs, (Lit.int k n).wf = true) :
    ∃ l, Ints w k w.heap.size a l ∧ l.length = len ∧ len ≤ 9223372036854775807 := by
  refine ⟨zs.take len, ?_, ?_, ?_⟩
  · rcases h with ⟨rfl, rfl, rfl, rfl⟩ | ⟨x, rfl, h1, h2, h3, h4, h5⟩
    · exact ⟨by simp, by simp⟩
    · refine Ints.take (l := zs) ⟨h5, fun hn => ?_⟩ len
      obtain ⟨b, off, spot⟩ := x
      have h0 := h4 0 hn
      have hspot : spot = none := by simpa [Addr.add] using World.cell?_spot h0
      subst hspot
      have hlt := lt_of_cell h0
      refine ⟨b, off, rfl, by simpa [Addr.add] using hlt, fun i hi => ?_⟩
      have := h4 i hi
      unfold Addr.add at this
      split at this
      · rename_i e; subst e; simpa using this
      · simpa using this
  · rcases h with ⟨rfl, rfl, rfl, rfl⟩ | ⟨x, rfl, h1, h2, h3, h4, h5⟩
    · rfl
    · rw [List.length_take]; omega
  · rcases h with ⟨rfl, rfl, rfl, rfl⟩ | ⟨x, rfl, h1, h2, h3, h4, h5⟩
    · omega
    · unfold maxLen at h2; omega
theorem Ints.ofRow' {w : World} {k : IntKind} {a : Option Addr} {len cap : Nat} {zs : List Int}
    (h : (a = none ∧ len = 0 ∧ cap = 0 ∧ zs = []) ∨
      ∃ x, a = some x ∧ len ≤ cap ∧ cap ≤ maxLen ∧ zs.length = cap ∧ (∀ i, i < zs.length → w.cell? (x.add i) = some (.int k (zs.getD i 0))) ∧ ∀ n ∈ zs, (Lit.int k n).wf = true) :
    ∃ l, Ints w k w.heap.size a l ∧ l.length = len ∧ len ≤ cap ∧ cap ≤ 9223372036854775807 := by
  obtain ⟨l, h1, h2, _⟩ := Ints.ofRow h
  refine ⟨l, h1, h2, ?_⟩
  rcases h with ⟨rfl, rfl, rfl, rfl⟩ | ⟨x, rfl, h1, h2, _⟩
  · omega
  · unfold maxLen at h2; omega
theorem ints_of_own {w : World} {base : Nat} {v : Value} {k : IntKind} {t : TypeId} {l : List Int} {n : Nat} (hn : n = l.length) (h : w.ownsRow base t 1 v n (l.map (Value.int k))) (hwf : ∀ x ∈ l, (Lit.int k x).wf = true) :
    ∃ a c, v = .slice a l.length c ∧ Ints w k w.heap.size a l := by
  subst hn
  rcases h.2 with ⟨rfl, h0⟩ | ⟨g, cap, cur, rfl, _, hh, _, _, _, hx⟩
  · have : l = [] := List.eq_nil_of_length_eq_zero h0
    subst this
    exact ⟨none, 0, rfl, by simp, by simp⟩
  · refine ⟨_, _, rfl, hwf, fun _ => ⟨g, 0, rfl, Has.lt (t := t) (cs := cur) hh, fun i hi => ?_⟩⟩
    rw [Nat.zero_add, Has.cell (t := t) (cs := cur) hh i, ← Array.getElem?_toList]
    have e : (cur.toList.take (l.length * 1))[i]? = cur.toList[i]? := by rw [List.getElem?_take, if_pos (by omega)]
    rw [← e, hx]
    simp [List.getD, List.getElem?_eq_getElem hi]
theorem only_trans {a b c : World} {row : Option Nat} (h : a.grownBy b row) (k : b.grownBy c row) : a.grownBy c row :=
  ⟨k.os.trans h.os, k.tape.trans h.tape, k.output.trans h.output, Nat.le_trans h.size k.size, fun i hi hn => (k.block i (Nat.lt_of_lt_of_le hi h.size) hn).trans (h.block i hi hn)⟩
theorem only_put' {w : World} {g : Nat} (i : Nat) (u : Value) : w.grownBy (w.setCell ⟨g, i, none⟩ u) (some g) :=
  ⟨rfl, rfl, rfl, by simp [World.setCell], fun k hk hne => Below.heap_setCell w ⟨g, i, none⟩ u k (fun e => hne (by rw [e]))⟩
theorem only_own {a b c : World} {g : Nat} {row : Option Nat} (h : a.grownBy b (some g)) (k : b.grownBy c row) (hr : ∀ q, row = some q → a.heap.size ≤ q) : a.grownBy c (some g) :=
  ⟨k.os.trans h.os, k.tape.trans h.tape, k.output.trans h.output, Nat.le_trans h.size k.size, fun i hi hn => (k.block i (Nat.lt_of_lt_of_le hi h.size) (fun e => by have := hr i e.symm; omega)).trans (h.block i hi hn)⟩
theorem only_alloc {a b : World} {row : Option Nat} (h : a.grownBy b row) (o : Obj) : a.grownBy (b.alloc o) row :=
  ⟨h.os, h.tape, h.output, Nat.le_trans h.size (by simp), fun i hi hn => (Below.heap_alloc b o i (Nat.lt_of_lt_of_le hi h.size)).trans (h.block i hi hn)⟩
theorem Below.only {a b : World} {g : Nat} {B : Nat} (h : a.grownBy b (some g)) (hB : B ≤ a.heap.size) (hg : B ≤ g) : Below B a b :=
  (Below.refl B a).grown h hB (fun k e => by injection e with e; omega)
theorem ints_of_own' {w : World} {base : Nat} {v : Value} {k : IntKind} {t : TypeId} {l : List Int} (h : w.ownsRow base t 1 v l.length (l.map (Value.int k))) (hwf : ∀ x ∈ l, (Lit.int k x).wf = true) :
    ∃ a c, v = .slice a l.length c ∧ l.length ≤ c ∧ Ints w k w.heap.size a l := by
  obtain ⟨a, c, hv, hi⟩ := ints_of_own rfl h hwf
  refine ⟨a, c, hv, ?_, hi⟩
  rcases h.2 with ⟨hv', h0⟩ | ⟨g, cap, cur, hv', _, _, hc, _⟩
  · omega
  · rw [hv] at hv'; injection hv' with _ _ e; omega
theorem ints_of_own3 {w : World} {base : Nat} {v : Value} {k : IntKind} {t : TypeId} {l : List Int} (h : w.ownsRow base t 1 v l.length (l.map (Value.int k))) (hwf : ∀ x ∈ l, (Lit.int k x).wf = true) :
    ∃ a c, v = .slice a l.length c ∧ l.length ≤ c ∧ c ≤ maxLen ∧ Ints w k w.heap.size a l := by
  obtain ⟨a, c, hv, hc, hi⟩ := ints_of_own' h hwf
  refine ⟨a, c, hv, hc, ?_, hi⟩
  rcases h.2 with ⟨e, _⟩ | ⟨g, cap, cur, e, _, _, _, hm, _⟩
  · rw [hv] at e; injection e with _ _ e; rw [e]; unfold maxLen; omega
  · rw [hv] at e; injection e with _ _ e; rw [e]; exact hm
theorem only_drewN {a w : World} {row : Option Nat} (h : a.grownBy w row) (n : Nat) : a.grownBy (w.drewN n) row := ⟨h.os, h.tape, h.output, h.size, h.block⟩
theorem only_put {w : World} {g : Nat} (i : Nat) (u : Value) : w.grownBy (w.setCell ⟨g, i, none⟩ u) (some g) :=
  ⟨rfl, rfl, rfl, by simp [World.setCell], fun k hk hne => Below.heap_setCell w ⟨g, i, none⟩ u k (fun e => hne (by rw [e]))⟩
end Go.Proofs.Ytdbedkjnoppkmaa

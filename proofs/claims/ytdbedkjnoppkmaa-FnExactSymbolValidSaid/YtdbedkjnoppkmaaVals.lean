/-
  Words for slices whose elements are one cell each, whatever they are; strings among them.
-/
import Derived.Test.YtdbedkjnoppkmaaMem
import Derived.Test.YtdbedkjnoppkmaaDraw
namespace Go.Proofs.Ytdbedkjnoppkmaa
open Go.RowKit

/-- The slice at address 'a' holds these cells, in a block below 'B' (where it holds any). -/
def Vals (w : World) (B : Nat) (a : Option Addr) (vs : List Value) : Prop :=
  0 < vs.length → ∃ b off, a = some ⟨b, off, none⟩ ∧ b < B ∧ ∀ i u, vs[i]? = some u → w.cell? ⟨b, off + i, none⟩ = some u
section
variable {w w' : World} {B B' : Nat} {a : Option Addr} {vs : List Value}
theorem Vals.at_ (h : Vals w B a vs) {i : Nat} (hi : i < vs.length) : ∃ b off, a = some ⟨b, off, none⟩ ∧ b < B ∧ w.cell? ⟨b, off + i, none⟩ = some vs[i] := by
  obtain ⟨b, off, ha, hb, hc⟩ := h (by omega)
  exact ⟨b, off, ha, hb, hc i _ (List.getElem?_eq_getElem hi)⟩
theorem Vals.keep (h : Vals w B a vs) (hk : ∀ p : Addr, p.block < B → w'.cell? p = w.cell? p) : Vals w' B a vs := fun hn => by
  obtain ⟨b, off, ha, hb, hc⟩ := h hn
  exact ⟨b, off, ha, hb, fun i u hi => (hk _ hb).trans (hc i u hi)⟩
theorem Vals.more (h : Vals w B a vs) (hB : B ≤ B') : Vals w B' a vs := fun hn => by
  obtain ⟨b, off, ha, hb, hc⟩ := h hn
  exact ⟨b, off, ha, by omega, hc⟩
theorem Vals.below (h : Vals w B a vs) (hb : Below B w w') : Vals w' B a vs := h.keep fun _ hp => hb.cell hp
theorem Vals.drewN (h : Vals w B a vs) (n : Nat) : Vals (w.drewN n) B a vs := h
theorem Vals.alloc (h : Vals w B a vs) (hB : B ≤ w.heap.size) (o : Obj) : Vals (w.alloc o) B a vs := h.keep fun p hp => World.cell?_alloc_lt w o p (by omega)
end
theorem vals_of_own {w : World} {base : Nat} {v : Value} {t : TypeId} {vs : List Value} (h : w.ownsRow base t 1 v vs.length vs) :
    ∃ a c, v = .slice a vs.length c ∧ vs.length ≤ c ∧ Vals w w.heap.size a vs := by
  rcases h.2 with ⟨rfl, h0⟩ | ⟨g, cap, cur, rfl, _, hh, hc, _, _, hx⟩
  · exact ⟨none, 0, by rw [h0], by omega, fun hn => by omega⟩
  · refine ⟨_, _, rfl, hc, fun _ => ⟨g, 0, rfl, Has.lt (t := t) (cs := cur) hh, fun i u hi => ?_⟩⟩
    rw [Nat.zero_add, Has.cell (t := t) (cs := cur) hh i, ← Array.getElem?_toList]
    have hl : i < vs.length := by
      rcases Nat.lt_or_ge i vs.length with h1 | h1
      · exact h1
      · rw [List.getElem?_eq_none h1] at hi; cases hi
    have e : (cur.toList.take (vs.length * 1))[i]? = cur.toList[i]? := by rw [List.getElem?_take, if_pos (by omega)]
    rw [← e, hx, hi]
theorem str_read {t : TypeId} {w : World} {b : Nat} {cs : Array Value} (ss : List ByteArray) (m : Nat) (h : Has w b t cs) (hcs : cs = (ss.map Value.string).toArray) (hz : ∀ s ∈ ss, s.size ≤ m) (i : Nat) (hi : i < ss.length) :
    ∃ s, w.cell? ⟨b, i, none⟩ = some (.string s) ∧ s.size ≤ m :=
  ⟨ss[i], by rw [h.cell, hcs]; simp [List.getElem?_eq_getElem hi], hz _ (List.getElem_mem hi)⟩

end Go.Proofs.Ytdbedkjnoppkmaa

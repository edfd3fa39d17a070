import Derived.Deep.Cut
import Derived.WalkSpells
import Derived.WalkLawsBesides
import Derived.Handy
import Derived.Deep.QuietTactic
import Derived.BigQuiet
import Derived.Deep.OwnRows
import Derived.Test.YtpfombelhajmlaaGreatDoorMarkS
import Derived.Test.YtpfombelhajmlaaGreatDoorRegionV
import Derived.Test.YtpfombelhajmlaaGreatDoorWant4
import Derived.Test.YtpfombelhajmlaaGreatDoorBase
import Derived.Test.YtpfombelhajmlaaGreatDoorRegion
import Derived.Test.YtpfombelhajmlaaGreatDoorDrawN
namespace Go.Proofs.YtpfombelhajmlaaGreatDoor
open Go.RowKit
def digitsOf (x : Nat) (s : ByteArray) : ByteArray := if _ : x = 0 then s else digitsOf (x / 10) (strOfNums [48 + ((x % 10 : Nat) : Int)] ++ s)
termination_by x
decreasing_by omega
def markOf (k : Int) : ByteArray := if k < 1 then ⟨#[109, 48]⟩ else ⟨#[109]⟩ ++ digitsOf k.toNat ⟨#[]⟩
def TextsL (cs : Array Value) (n : Nat) : Prop := n ≤ cs.size ∧ ∀ j, j < n → ∃ s : ByteArray, cs[j]? = some (.string s)
theorem TextsL.put {cs : Array Value} {n : Nat} (h : TextsL cs n) (k : Nat) (s : ByteArray) : TextsL (cs.setIfInBounds k (.string s)) n := by
  refine ⟨by simp [h.1], fun j hj => ?_⟩
  rw [Array.getElem?_setIfInBounds]
  by_cases e : k = j
  · rw [if_pos e, if_pos (by have := h.1; omega)]; exact ⟨s, rfl⟩
  · rw [if_neg e]; exact h.2 j hj
def MarkedTo (cs : Array Value) (k : Int) (n j : Nat) : Prop := TextsL cs n ∧ ∀ i, i < j → cs[i]? = some (.string (markOf (k + i)))
theorem MarkedTo.next {cs : Array Value} {k : Int} {n j : Nat} (h : MarkedTo cs k n j) (hj : j < n) : MarkedTo (cs.setIfInBounds j (.string (markOf (k + j)))) k n (j + 1) := by
  refine ⟨h.1.put j _, fun i hi => ?_⟩
  rw [Array.getElem?_setIfInBounds]
  by_cases e : j = i
  · subst e; rw [if_pos rfl, if_pos (by have := h.1.1; omega)]
  · rw [if_neg e]; exact h.2 i (by omega)
end Go.Proofs.YtpfombelhajmlaaGreatDoor
namespace Go.Proofs.YtpfombelhajmlaaGreatDoor
open Go.RowKit
structure Mk (lo hi : Nat) (w w' : World) : Prop where
  os : w'.os = w.os
  tape : w'.tape = w.tape
  output : w'.output = w.output
  size : w.heap.size ≤ w'.heap.size
  block : ∀ b, b < w.heap.size → (b < lo ∨ hi ≤ b) → w'.heap[b]? = w.heap[b]?
  shape : ∀ b t cs, Has w b t cs → ∃ cs', Has w' b t cs' ∧ cs'.size = cs.size
section
variable {lo hi : Nat} {w w' w'' : World}
theorem Mk.refl (w : World) : Mk lo hi w w := ⟨rfl, rfl, rfl, Nat.le_refl _, fun _ _ _ => rfl, fun _ _ cs h => ⟨cs, h, rfl⟩⟩
theorem Mk.trans (h : Mk lo hi w w') (h' : Mk lo hi w' w'') : Mk lo hi w w'' :=
  ⟨h'.os.trans h.os, h'.tape.trans h.tape, h'.output.trans h.output, Nat.le_trans h.size h'.size, fun b hb ho => (h'.block b (Nat.lt_of_lt_of_le hb h.size) ho).trans (h.block b hb ho), fun b t cs hh => by
    obtain ⟨c1, h1, e1⟩ := h.shape b t cs hh
    obtain ⟨c2, h2, e2⟩ := h'.shape b t c1 h1
    exact ⟨c2, h2, e2.trans e1⟩⟩
theorem Mk.cell (h : Mk lo hi w w') {p : Addr} (hb : p.block < w.heap.size) (ho : p.block < lo ∨ hi ≤ p.block) : w'.cell? p = w.cell? p := World.cell?_of_block (h.block p.block hb ho)
end
def KeptX (c : Array Value) (n : Nat) (l : List Sp) : Prop := c.size = n * 6 ∧ ∀ i y, l[i]? = some y → c[i * 6 + 3]? = some (.slice y.a1 y.s.bytes.length y.c1) ∧ c[i * 6 + 5]? = some (.slice y.a2 y.s.fixs.length y.c2)
theorem KeptX.put {c : Array Value} {n : Nat} {l : List Sp} (h : KeptX c n l) (k r : Nat) (hr : r < 6) (h3 : r ≠ 3) (h5 : r ≠ 5) (u : Value) : KeptX (c.setIfInBounds (k * 6 + r) u) n l := by
  refine ⟨by rw [Array.size_setIfInBounds]; exact h.1, fun i y hi => ?_⟩
  obtain ⟨q3, q5⟩ := h.2 i y hi
  exact ⟨by rw [Array.getElem?_setIfInBounds, if_neg (by omega)]; exact q3, by rw [Array.getElem?_setIfInBounds, if_neg (by omega)]; exact q5⟩
end Go.Proofs.YtpfombelhajmlaaGreatDoor
namespace Go.Proofs.YtpfombelhajmlaaGreatDoor
open Go.RowKit
end Go.Proofs.YtpfombelhajmlaaGreatDoor
namespace Go.Proofs.YtpfombelhajmlaaGreatDoor
open Go.RowKit
def RowS (W : World) (lo : Nat) (a : Option Addr) (S : List ByteArray) : Prop :=
  0 < S.length → ∃ (g : Nat) (cs : Array Value), a = some ⟨g, 0, none⟩ ∧ lo ≤ g ∧ Has W g 9 cs ∧ S.length ≤ cs.size ∧ ∀ (i : Nat) (s : ByteArray), S[i]? = some s → cs[i]? = some (Value.string s)
theorem RowS.below {W W' : World} {lo : Nat} {a : Option Addr} {S : List ByteArray} (h : RowS W lo a S) (hb : Below W.heap.size W W') : RowS W' lo a S := fun hn => by
  obtain ⟨g, cs, h1, h2, h3, h4, h5⟩ := h hn
  exact ⟨g, cs, h1, h2, h3.below hb h3.lt, h4, h5⟩
theorem RowS.mk {W W' : World} {lo l h' : Nat} {a : Option Addr} {S : List ByteArray} (h : RowS W lo a S) (hm : Mk l h' W W') (hl : h' ≤ lo) : RowS W' lo a S := fun hn => by
  obtain ⟨g, cs, h1, h2, h3, h4, h5⟩ := h hn
  exact ⟨g, cs, h1, h2, (hm.block g h3.lt (.inr (by omega))).trans h3, h4, h5⟩
theorem RowS.drewN {W : World} {lo : Nat} {a : Option Addr} {S : List ByteArray} (h : RowS W lo a S) (n : Nat) : RowS (W.drewN n) lo a S := h
theorem RowS.vals {W : World} {lo : Nat} {a : Option Addr} {S : List ByteArray} (h : RowS W lo a S) : Vals W W.heap.size a (S.map Value.string) := fun hn => by
  obtain ⟨g, cs, h1, h2, h3, h4, h5⟩ := h (by simpa using hn)
  refine ⟨g, 0, h1, h3.lt, fun i v hv => ?_⟩
  rw [List.getElem?_map] at hv
  rcases hs : S[i]? with _ | s
  · rw [hs] at hv; cases hv
  · rw [hs] at hv
    injection hv with hv
    rw [Nat.zero_add, h3.cell i, h5 i s hs, hv]
def RowM (W : World) (lo : Nat) (a : Option Addr) (n : Nat) : Prop :=
  0 < n → ∃ g, a = some ⟨g, 0, none⟩ ∧ lo ≤ g ∧ g < W.heap.size ∧ ∀ i, i < n → W.cell? ⟨g, i, none⟩ = some (.string (markOf (1 + i)))
theorem RowM.below {W W' : World} {lo : Nat} {a : Option Addr} {n : Nat} (h : RowM W lo a n) (hb : Below W.heap.size W W') : RowM W' lo a n := fun hn => by
  obtain ⟨g, h1, h2, h3, h4⟩ := h hn
  exact ⟨g, h1, h2, Nat.lt_of_lt_of_le h3 hb.size, fun i hi => (hb.cell (by show g < _; exact h3)).trans (h4 i hi)⟩
theorem RowM.drewN {W : World} {lo : Nat} {a : Option Addr} {n : Nat} (h : RowM W lo a n) (q : Nat) : RowM (W.drewN q) lo a n := h
end Go.Proofs.YtpfombelhajmlaaGreatDoor

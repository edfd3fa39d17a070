/-
  A set of names on the heap.
-/
import Derived.Test.YtdbedkjnoppkmaaRows
import Derived.Test.YtdbedkjnoppkmaaMem
import Derived.StringKeys
import Derived.Maps.OwnSet
import Derived.Maps.AppendAt
import Derived.Carry
namespace Go.Proofs.Ytdbedkjnoppkmaa
open Go.RowKit Go.Maps Go.WideMaps

/-- The key of a name. -/
def klS (s : ByteArray) : Lit := .string s.data.toList
theorem klS_ne {s t : ByteArray} (h : s ≠ t) : klS s ≠ klS t := by
  intro e
  apply h
  unfold klS at e
  injection e with e
  exact ByteArray.ext (Array.toList_inj.1 e)
theorem klS_key (s : ByteArray) : WideAt.IsKeyLit (klS s) := trivial
theorem klS_of {s : ByteArray} (hs : s.size ≤ maxLen) : keyOf Try.prog 9 (.string s) = some (klS s) := keyOf_string_mk Try.underlying9 hs
theorem Try.law_str : Keyed Try.prog 9 := string_keyed Try.underlying9
/-- Is the name one of these? -/
def memS (S : List ByteArray) (s : ByteArray) : Bool := S.any fun t => decide (t = s)
theorem memS_iff {S : List ByteArray} {s : ByteArray} : memS S s = true ↔ s ∈ S := by
  unfold memS
  rw [List.any_eq_true]
  constructor
  · rintro ⟨t, ht, e⟩; have := of_decide_eq_true e; rwa [← this]
  · intro h; exact ⟨s, h, by simp⟩
theorem memS_not {S : List ByteArray} {s : ByteArray} (h : s ∉ S) : memS S s = false := by
  cases e : memS S s with
  | false => rfl
  | true => exact absurd (memS_iff.1 e) h
/-- A map that holds these names, and no others. -/
def NamSet (w : World) (b cnt : Nat) (S : List ByteArray) : Prop := ∃ D : DataW Unit, w.ownsMap Try.prog 9 (plainElem Try.prog 4) b cnt D ∧ (∀ s, Maps.has D (klS s) = memS S s) ∧ ∀ s, s ∈ S → ∀ z, D.atKey (klS s) z = .lit (.bool true)
theorem NamSet.lt {w : World} {b cnt : Nat} {S : List ByteArray} (h : NamSet w b cnt S) : b < w.heap.size := by
  obtain ⟨D, h1, _⟩ := h
  exact h1.lt
theorem NamSet.new (w : World) (n : Nat) : NamSet (w.alloc (.map #[] 0)) w.heap.size n [] :=
  ⟨.map [], (World.ownsMap_made w Try.prog 9 _).mono (Nat.zero_le _), fun s => by simp [Maps.has, memS], fun s hs => absurd hs (by simp)⟩
theorem NamSet.kept {w w' : World} {b cnt : Nat} {S : List ByteArray} {row : Option Nat} (h : NamSet w b cnt S) (hg : w.grownBy w' row) (hne : some b ≠ row) : NamSet w' b cnt S := by
  obtain ⟨D, h1, h2, h3⟩ := h
  exact ⟨D, h1.kept hg hne, h2, h3⟩
theorem NamSet.more {w : World} {b cnt c : Nat} {S : List ByteArray} (h : NamSet w b cnt S) (hc : cnt ≤ c) : NamSet w b c S := by
  obtain ⟨D, h1, h2⟩ := h
  exact ⟨D, h1.mono hc, h2⟩































end Go.Proofs.Ytdbedkjnoppkmaa

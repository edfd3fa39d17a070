/-
  What is wanted of the program's functions of chapter 4; each is proved of the code elsewhere.
-/
import Derived.Test.YtiocchmlmcoieaaWant3
import Derived.Test.YtiocchmlmcoieaaObjV
import Derived.Test.YtiocchmlmcoieaaObj
import Derived.Test.YtiocchmlmcoieaaWantS
namespace Go.Proofs.Ytiocchmlmcoieaa
open Go.RowKit

/-- A symbol whose numbers are the machine's. -/
structure Sm.fits (s : Sm) : Prop where
  name : s.name.size ≤ maxLen
  bind : I64 s.bind
  loc : I64 s.loc
  value : I64 s.value
theorem Sx.fits.lens {s : Sx} (h : s.fits) : s.lens := ⟨h.name, h.bytes, h.count⟩
theorem fits_same {l l' : List Sp} (h : l'.map Sp.s = l.map Sp.s) (hf : ∀ y ∈ l, y.s.fits) : ∀ y ∈ l', y.s.fits := fun y hy => by
  have hm : y.s ∈ l.map Sp.s := by rw [← h]; exact List.mem_map_of_mem hy
  obtain ⟨z, hz, e⟩ := List.mem_map.1 hm
  rw [← e]; exact hf z hz
theorem length_same {l l' : List Sp} (h : l'.map Sp.s = l.map Sp.s) : l'.length = l.length := by
  have := congrArg List.length h
  simpa using this
def WantSymbolValid : Prop := ∀ (w : World) (B : Nat) (m : Sm) (a : Option Addr) (c : Nat) (l : List Sp), Sects w B a l → B ≤ w.heap.size → l.length ≤ 9223372036854775807 → m.fits → (∀ y ∈ l, y.s.fits) →
  Calls Try.prog 84 #[m.agg, .slice a l.length c] w fun e w' => e = .returned (.bool (symOk m (l.map Sp.s))) ∧ Below w.heap.size w w'
def WantObjectValid : Prop := ∀ (w : World) (B : Nat) (a1 a2 : Option Addr) (c1 c2 : Nat) (l : List Sp) (ms : List Sm), Sects w B a1 l → Syms w B a2 ms → B ≤ w.heap.size → l.length ≤ 9223372036854775807 → ms.length ≤ 9223372036854775807 → (∀ y ∈ l, y.s.fits) → (∀ x ∈ ms, x.fits) →
  Calls Try.prog 29 #[.agg #[.slice a1 l.length c1, .slice a2 ms.length c2]] w fun e w' => e = .returned (.bool (objOk (l.map Sp.s) ms)) ∧ Below w.heap.size w w'
/-- What the names' functions are to answer: the names, in a row of its own. -/
def FreshS (w : World) (S : List ByteArray) (e : Ending) (w' : World) : Prop :=
  ∃ (a : Option Addr) (c : Nat), e = .returned (.slice a S.length c) ∧ (0 < S.length → ∃ (g : Nat) (cs : Array Value), a = some ⟨g, 0, none⟩ ∧ w.heap.size ≤ g ∧ Has w' g 9 cs ∧ S.length ≤ cs.size ∧ ∀ (i : Nat) (s : ByteArray), S[i]? = some s → cs[i]? = some (Value.string s)) ∧ Below w.heap.size w w'
def WantNames (f : FuncId) (p : Sm → Bool) : Prop := ∀ (w : World) (B : Nat) (a1 a2 : Option Addr) (c1 c2 : Nat) (l : List Sp) (ms : List Sm), Sects w B a1 l → Syms w B a2 ms → B ≤ w.heap.size → l.length ≤ 9223372036854775807 → ms.length ≤ 9223372036854775807 → (∀ y ∈ l, y.s.fits) → (∀ x ∈ ms, x.fits) →
  Calls Try.prog f #[.agg #[.slice a1 l.length c1, .slice a2 ms.length c2]] w (FreshS w (namesIf p (l.map Sp.s) ms))



end Go.Proofs.Ytiocchmlmcoieaa

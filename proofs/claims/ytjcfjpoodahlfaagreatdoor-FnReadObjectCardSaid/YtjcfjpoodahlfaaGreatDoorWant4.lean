import Derived.Test.YtjcfjpoodahlfaaGreatDoorWant3
import Derived.Test.YtjcfjpoodahlfaaGreatDoorObj
import Derived.Test.YtjcfjpoodahlfaaGreatDoorWantS
namespace Go.Proofs.YtjcfjpoodahlfaaGreatDoor
open Go.RowKit
structure Sm.fits (s : Sm) : Prop where
  name : s.name.size ≤ maxLen
  bind : I64 s.bind
  loc : I64 s.loc
  value : I64 s.value
theorem Sx.fits.lens {s : Sx} (h : s.fits) : s.lens := ⟨h.name, h.bytes, h.count⟩
def WantSymbolValid : Prop := ∀ (w : World) (B : Nat) (m : Sm) (a : Option Addr) (c : Nat) (l : List Sp), Sects w B a l → B ≤ w.heap.size → l.length ≤ 9223372036854775807 → m.fits → (∀ y ∈ l, y.s.fits) →
  Calls Tryz.prog 106 #[m.agg, .slice a l.length c] w fun e w' => e = .returned (.bool (symOk m (l.map Sp.s))) ∧ Below w.heap.size w w'
def WantObjectValid : Prop := ∀ (w : World) (B : Nat) (a1 a2 : Option Addr) (c1 c2 : Nat) (l : List Sp) (ms : List Sm), Sects w B a1 l → Syms w B a2 ms → B ≤ w.heap.size → l.length ≤ 9223372036854775807 → ms.length ≤ 9223372036854775807 → (∀ y ∈ l, y.s.fits) → (∀ x ∈ ms, x.fits) →
  Calls Tryz.prog 17 #[.agg #[.slice a1 l.length c1, .slice a2 ms.length c2]] w fun e w' => e = .returned (.bool (objOk (l.map Sp.s) ms)) ∧ Below w.heap.size w w'

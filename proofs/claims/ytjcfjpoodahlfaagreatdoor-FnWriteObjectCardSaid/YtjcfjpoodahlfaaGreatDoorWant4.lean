import Derived.Test.YtjcfjpoodahlfaaGreatDoorWant3
import Derived.Test.YtjcfjpoodahlfaaGreatDoorObj
import Derived.Test.YtjcfjpoodahlfaaGreatDoorWantS
namespace Go.Proofs.YtjcfjpoodahlfaaGreatDoor
open Go.RowKit
structure Sm.fits (s : Sm) : Prop where
  name : s.name.size ≤ maxLen
  bind : I64 s.bind
  loc : I64 s.loc
  value : I64 s.value
theorem Sx.fits.lens {s : Sx} (h : s.fits) : s.lens := ⟨h.name, h.bytes, h.count⟩
theorem fits_same {l l' : List Sp} (h : l'.map Sp.s = l.map Sp.s) (hf : ∀ y ∈ l, y.s.fits) : ∀ y ∈ l', y.s.fits := fun y hy => by
  have hm : y.s ∈ l.map Sp.s := by rw [← h]; exact List.mem_map_of_mem hy
  obtain ⟨z, hz, e⟩ := List.mem_map.1 hm
  rw [← e]; exact hf z hz
def WantSymbolValid : Prop := ∀ (w : World) (B : Nat) (m : Sm) (a : Option Addr) (c : Nat) (l : List Sp), Sects w B a l → B ≤ w.heap.size → l.length ≤ 9223372036854775807 → m.fits → (∀ y ∈ l, y.s.fits) →
  Calls Tryz.prog 106 #[m.agg, .slice a l.length c] w fun e w' => e = .returned (.bool (symOk m (l.map Sp.s))) ∧ Below w.heap.size w w'

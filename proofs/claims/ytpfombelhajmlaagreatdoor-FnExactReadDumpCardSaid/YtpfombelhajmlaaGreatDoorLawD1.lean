import Derived.Deep.RegionWith
import Derived.Test.YtpfombelhajmlaaGreatDoorDumpH
import Derived.Test.YtpfombelhajmlaaGreatDoorMarks
import Derived.Test.YtpfombelhajmlaaGreatDoorBase
import Derived.Test.YtpfombelhajmlaaGreatDoorDrA
import Derived.Test.YtpfombelhajmlaaGreatDoorDrawN
import Derived.Test.YtpfombelhajmlaaGreatDoorSamE
namespace Go.Proofs.YtpfombelhajmlaaGreatDoor
open Go.RowKit
def WantReadHex : Prop := ∀ (w : World) (s : ByteArray), s.size ≤ 1200000 → Calls Tryz.prog 86 #[.string s] w (HexS w (numsOf s))
theorem rhx_wf (t : List Int) : ∀ x ∈ (rhx t).1, (Lit.int .u8 x).wf = true := fun x hx => by
  unfold rhx at hx
  split at hx
  · rename_i l hl
    exact wf_u8.mpr ((rdHexL_some t l hl).2 x hx)
  · cases hx
theorem HexS.parts {w : World} {t : List Int} {e : Ending} {w' : World} (h : HexS w t e w') :
    ∃ (a : Option Addr) (c g : Nat), e = .returned (.tuple #[.slice a (rhx t).1.length c, .bool (rhx t).2]) ∧ (rhx t).1.length ≤ c ∧ c ≤ maxLen ∧ Ints w' .u8 w'.heap.size a (rhx t).1 ∧ w.heap.size ≤ g ∧ (0 < (rhx t).1.length → a = some ⟨g, 0, none⟩ ∧ ∃ cs, Has w' g 5 cs ∧ (rhx t).1.length ≤ cs.size) ∧ Below w.heap.size w w' := by
  obtain ⟨v, rfl, hrow, hb⟩ := h
  have hR : RowB w (rhx t).1 (.returned v) w' := ⟨v, rfl, hrow, hb⟩
  obtain ⟨a, c, g, he, h1, h2, h3, h4, h5, h6⟩ := hR.parts (rhx_wf t)
  injection he with he
  subst he
  exact ⟨a, c, g, rfl, h1, h2, h3, h4, h5, h6⟩
theorem rhx_length (t : List Int) : 2 * (rhx t).1.length ≤ t.length := by
  unfold rhx
  split
  · rename_i l hl
    have h1 := (rdHexL_some t l hl).1
    rw [← h1, hexL_length]; exact Nat.le_refl _
  · simp
end Go.Proofs.YtpfombelhajmlaaGreatDoor
namespace Go.Proofs.YtpfombelhajmlaaGreatDoor
open Go.RowKit
end Go.Proofs.YtpfombelhajmlaaGreatDoor

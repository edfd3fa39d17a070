/-
  Contract of the laws' own comparison of bytes: equal bytes are found equal. laws.sameSection and laws.sameObject: equal ones are found equal. The walk of FnSymbolValid, over what is wanted of the program.
-/
import Derived.WalkSpells
import Derived.WalkLawsBesides
import Derived.Handy
import Derived.Deep.QuietTactic
import Derived.BigQuiet
import Derived.Deep.OwnRows
import Derived.Deep.CutBlock
import Derived.Test.YtdmdjlnpbmiadaaBase
import Derived.Test.YtdmdjlnpbmiadaaSecs
import Derived.Test.YtdmdjlnpbmiadaaRegionV
import Derived.Test.YtdmdjlnpbmiadaaDrC
import Derived.Test.YtdmdjlnpbmiadaaWant4
import Derived.Test.YtdmdjlnpbmiadaaMem
/- Contract of the laws' own comparison of bytes: equal bytes are found equal. -/
namespace Go.Proofs.Ytdmdjlnpbmiadaa
open Go.RowKit

set_option maxHeartbeats 1000000 in
theorem sameBytes_yes (w : World) (B1 B2 : Nat) (a1 a2 : Option Addr) (c1 c2 : Nat) (l : List Int) (h1 : Ints w .u8 B1 a1 l) (h2 : Ints w .u8 B2 a2 l) (hlen : l.length ≤ 9223372036854775807) :
    Calls Try.prog 11 #[.slice a1 l.length c1, .slice a2 l.length c2] w fun e w' => e = .returned (.bool true) ∧ ∃ n, w' = w.drewN n := by
  obtain ⟨len, hL⟩ : ∃ n, n = l.length := ⟨_, rfl⟩
  rw [← hL] at hlen ⊢
  have HL : Hid (len = l.length) := hL
  clear hL
  go_enter Try.func11, Try.ntmps11
  go_wp2
  go_loopw [5] (fun i wr => ∃ k : Nat, k ≤ len ∧ i = .int .i64 k ∧ ∃ n, wr = w.drewN n) (fun i _ => len - (intOf i).toNat)
  case atStart => exact ⟨0, Nat.zero_le _, rfl, 0, rfl⟩
  case round =>
    obtain ⟨k, hk, rfl, n, rfl⟩ := hrel
    by_cases hlt : k < len
    · have hll : k < l.length := by rw [← HL.out]; exact hlt
      obtain ⟨b1, o1, rfl, _, e1⟩ := h1.at_ hll
      obtain ⟨b2, o2, rfl, _, e2⟩ := h2.at_ hll
      obtain ⟨x, hx⟩ : ∃ x, l.getD k 0 = x := ⟨_, rfl⟩
      rw [hx] at e1 e2
      clear hx h1 h2 hll
      have hi : (k : Int) < (len : Int) := by omega
      go_wp2
      go_quiet (fail)
      go_wp2
      go_roundw
      case rel => exact ⟨k + 1, by omega, by go_num, _, rfl⟩
      case measure => simp [intOf]; omega
    · go_wp2
      go_ret
      exact ⟨rfl, _, rfl⟩

end Go.Proofs.Ytdmdjlnpbmiadaa
/- laws.sameSection and laws.sameObject: equal ones are found equal. -/
namespace Go.Proofs.Ytdmdjlnpbmiadaa
open Go.RowKit
























































































































































































































































end Go.Proofs.Ytdmdjlnpbmiadaa
/- The walk of FnSymbolValid, over what is wanted of the program. -/
namespace Go.Proofs.Ytdmdjlnpbmiadaa
open Go.RowKit

theorem Sx.small.fits' {s : Sx} (h : s.small) : s.fits :=
  have := h.kind0; have := h.kind1; have := h.align0; have := h.align1; have := h.size0; have := h.size1; have := h.bytes; have := h.count; have := h.name
  ⟨by unfold maxLen; omega, ⟨by omega, by omega⟩, ⟨by omega, by omega⟩, ⟨by omega, by omega⟩, by omega, by omega, fun f hf => by
    obtain ⟨k1, k2, k3, k4, k5, k6, k7, k8⟩ := h.fixs f hf
    exact ⟨⟨by omega, by omega⟩, ⟨by omega, by omega⟩, ⟨by omega, by omega⟩, ⟨by omega, by omega⟩⟩⟩
theorem Sm.small.fits {m : Sm} (h : m.small) : m.fits :=
  have := h.name; have := h.bind0; have := h.bind1; have := h.loc0; have := h.loc1; have := h.value0; have := h.value1
  ⟨by unfold maxLen; omega, ⟨by omega, by omega⟩, ⟨by omega, by omega⟩, ⟨by omega, by omega⟩⟩
theorem symOk_behind (m : Sm) (l : List Sx) : symOk { m with loc := (l.length : Int) } l = false := by
  unfold symOk
  have h1 : ¬ (l.length : Int) = -1 := by omega
  have h2 : ¬ (l.length : Int) = -2 := by omega
  simp only [h1, h2, if_false]
  simp














































































end Go.Proofs.Ytdmdjlnpbmiadaa

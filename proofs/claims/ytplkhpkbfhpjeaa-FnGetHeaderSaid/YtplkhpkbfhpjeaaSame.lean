/-
  Contract of the laws' own comparison of bytes: equal bytes are found equal.
-/
import Derived.Test.YtplkhpkbfhpjeaaBase
import Derived.WalkSpells
import Derived.WalkLawsBesides
import Derived.Handy
import Derived.Deep.QuietTactic
import Derived.BigQuiet
import Derived.Deep.OwnRows
namespace Go.Proofs.Ytplkhpkbfhpjeaa
open Go.RowKit

set_option maxHeartbeats 1000000 in
theorem sameBytes_yes (w : World) (B1 B2 : Nat) (a1 a2 : Option Addr) (c1 c2 : Nat) (l : List Int) (h1 : Ints w .u8 B1 a1 l) (h2 : Ints w .u8 B2 a2 l) (hlen : l.length ≤ 9223372036854775807) :
    Calls Try.prog 10 #[.slice a1 l.length c1, .slice a2 l.length c2] w fun e w' => e = .returned (.bool true) ∧ ∃ n, w' = w.drewN n := by
  obtain ⟨len, hL⟩ : ∃ n, n = l.length := ⟨_, rfl⟩
  rw [← hL] at hlen ⊢
  have HL : Hid (len = l.length) := hL
  clear hL
  go_enter Try.func10, Try.ntmps10
  go_wp2
  go_loopw [5] (fun i wr => ∃ k : Nat, k ≤ len ∧ i = .int .i64 k ∧ ∃ n, wr = w.drewN n) (fun i _ => len - (intOf i).toNat)
  case atStart => exact ⟨0, Nat.zero_le _, rfl, 0, rfl⟩
  case round =>
    obtain ⟨k, hk, rfl, n, rfl⟩ := hrel
    by_cases hlt : k < len
    · have hll : k < l.length := by rw [← HL.out]; exact hlt
      obtain ⟨b1, o1, rfl, _, e1⟩ := h1.at_ hll
      obtain ⟨b2, o2, rfl, _, e2⟩ := h2.at_ hll
      obtain ⟨x, hx⟩ : ∃ x, l.getD k 0 = x := ⟨_, rfl⟩
      rw [hx] at e1 e2
      clear hx h1 h2 hll
      have hi : (k : Int) < (len : Int) := by omega
      go_wp2
      go_quiet (fail)
      go_wp2
      go_roundw
      case rel => exact ⟨k + 1, by omega, by go_num, _, rfl⟩
      case measure => simp [intOf]; omega
    · go_wp2
      go_ret
      exact ⟨rfl, _, rfl⟩

end Go.Proofs.Ytplkhpkbfhpjeaa

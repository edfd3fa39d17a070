import Derived.WalkSpells
import Derived.WalkLawsBesides
import Derived.Handy
import Derived.Test.YtpfombelhajmlaaGreatDoorBase
import Derived.Test.YtpfombelhajmlaaGreatDoorMem
namespace Go.Proofs.YtpfombelhajmlaaGreatDoor
open Go.RowKit
def marks (k : Int) (n : Nat) : List Int := (List.range n).map fun j => (k + (j : Nat)) % 256
theorem markByteS_nil (w : World) (a : Option Addr) (cap : Nat) (k : Int) :
    Calls Tryz.prog 70 #[.slice a 0 cap, .int .i64 k] w fun e w' => e = .returned (.int .i64 k) ∧ w = w' := by
  go_enter Tryz.func70, Tryz.ntmps70
  go_wp2
  go_rounds 1
  go_ret
  exact ⟨rfl, rfl⟩
theorem heldByteS_nil (w : World) (a : Option Addr) (cap : Nat) (k : Int) :
    Calls Tryz.prog 72 #[.slice a 0 cap, .int .i64 k] w fun e w' => e = .returned (.int .i64 k) ∧ w = w' := by
  go_enter Tryz.func72, Tryz.ntmps72
  go_wp2
  go_rounds 1
  go_ret
  exact ⟨rfl, rfl⟩
end Go.Proofs.YtpfombelhajmlaaGreatDoor
namespace Go.Proofs.YtpfombelhajmlaaGreatDoor
open Go.RowKit
def FilledW (k : Int) (len : Nat) (c : Array Value) (n : Nat) : Prop := len ≤ c.size ∧ ∀ j, j < n → c[j]? = some (.int .u8 ((k + (j : Nat)) % 256))
theorem FilledW.next {k : Int} {len : Nat} {c : Array Value} {n : Nat} (h : FilledW k len c n) (hn : n < c.size) : FilledW k len (c.setIfInBounds n (.int .u8 ((k + (n : Nat)) % 256))) (n + 1) := by
  refine ⟨by simp [h.1], fun j hj => ?_⟩
  rw [Array.getElem?_setIfInBounds]
  by_cases e : n = j
  · subst e; simp [hn]
  · rw [if_neg e]; exact h.2 j (by omega)
set_option maxHeartbeats 1000000 in
theorem markByteS_wide (w : World) (g len cap : Nat) (cs : Array Value) (k : Int) (h : Has w g 5 cs) (hs : len ≤ cs.size) (hk : 0 ≤ k) (hb : k + len ≤ 4611686018427387904) :
    Calls Tryz.prog 70 #[.slice (some ⟨g, 0, none⟩) len cap, .int .i64 k] w fun e w' => e = .returned (.int .i64 (k + len)) ∧ (∃ c, Has w' g 5 c ∧ ∀ j, j < len → c[j]? = some (.int .u8 ((k + (j : Nat)) % 256))) ∧ w.grownBy w' (some g) := by
  have HS : Hid (FilledW k len cs 0) := ⟨hs, fun j hj => by omega⟩
  clear hs
  go_enter Tryz.func70, Tryz.ntmps70
  go_wp2
  go_loopw [1, 5] (fun m i wr => ∃ (j : Nat) (c : Array Value) (x : Int), j ≤ len ∧ i = .int .i64 j ∧ m = .int .i64 x ∧ Hid (x = k + j) ∧ 0 ≤ x ∧ x ≤ 4611686018427387904 ∧ Hid (FilledW k len c j) ∧ Has wr g 5 c ∧ w.grownBy wr (some g))
    (fun _ i _ => len - (intOf i).toNat)
  case atStart => exact ⟨0, cs, k, by omega, rfl, rfl, hidden (by simp), hk, by omega, HS, h, World.grownBy.refl w _⟩
  case round =>
    obtain ⟨j, c, x, hj, rfl, rfl, hx, hx0, hx1, hf, hh, hg⟩ := hrel
    clear HS h
    by_cases hlt : j < len
    · have hcs : j < c.size := by have := hf.out.1; omega
      have hfn := hidden (hf.out.next hcs)
      obtain ⟨v, hv⟩ : ∃ v, c[j]? = some v := ⟨_, Array.getElem?_eq_getElem hcs⟩
      have eo := hh.cell j
      rw [hv] at eo
      have ef := hh.free j
      have hxm : (k + (j : Nat)) % 256 = x % 256 := by rw [← hx.out]
      have hput := hh.put j (.int .u8 (x % 256))
      have hgp := only_trans hg (only_put' (g := g) j (.int .u8 (x % 256)))
      rw [hxm] at hfn
      have HX : Hid (x + 1 = k + ((j + 1 : Nat) : Int)) := by have := hx.out; show _ = _; omega
      have hx2 : x + 1 ≤ 4611686018427387904 := by have := hx.out; omega
      clear hf hv hcs hx hxm hh hg
      have hi : (j : Int) < (len : Int) := by omega
      go_wp2
      go_roundw
      case rel => exact ⟨j + 1, _, _, by omega, by go_num, rfl, HX, by omega, by omega, hfn, hput, hgp⟩
      case measure => simp [intOf]; omega
    · have hjl : j = len := by omega
      have hall := hf
      rw [hjl] at hall
      have HE : Hid (x = k + len) := by have := hx.out; show _ = _; omega
      have hlt' : ¬ (j : Int) < (len : Int) := by omega
      clear hf hx hjl
      go_wp2
      go_ret
      exact ⟨ret_int HE.out, ⟨c, hh, hall.out.2⟩, hg⟩
set_option maxHeartbeats 1000000 in
theorem heldByteS_wide (w : World) (g len cap : Nat) (k : Int) (h : ∀ j, j < len → w.cell? ⟨g, j, none⟩ = some (.int .u8 ((k + (j : Nat)) % 256))) (hk : 0 ≤ k) (hb : k + len ≤ 4611686018427387904) :
    Calls Tryz.prog 72 #[.slice (some ⟨g, 0, none⟩) len cap, .int .i64 k] w fun e w' => e = .returned (.int .i64 (k + len)) ∧ w = w' := by
  have hc : Hid (∀ j, j < len → w.cell? ⟨g, 0 + j, none⟩ = some (.int .u8 ((k + (j : Nat)) % 256))) := fun j hj => by
    rw [Nat.zero_add]; exact h j hj
  clear h
  go_enter Tryz.func72, Tryz.ntmps72
  go_wp2
  go_loop [1, 5] (fun m i => ∃ (j : Nat) (x : Int), j ≤ len ∧ i = .int .i64 j ∧ m = .int .i64 x ∧ Hid (x = k + j) ∧ 0 ≤ x ∧ x ≤ 4611686018427387904) (fun _ i => len - (intOf i).toNat)
  case atStart => exact ⟨0, k, by omega, rfl, rfl, hidden (by simp), hk, by omega⟩
  case round =>
    obtain ⟨j, x, hj, rfl, rfl, hx, hx0, hx1⟩ := hrel
    by_cases hlt : j < len
    · have e := hc.out j hlt
      rw [← hx.out, Nat.zero_add] at e
      have HX : Hid (x + 1 = k + ((j + 1 : Nat) : Int)) := by have := hx.out; show _ = _; omega
      have hx2 : x + 1 ≤ 4611686018427387904 := by have := hx.out; omega
      have hi : (j : Int) < (len : Int) := by omega
      clear hx
      go_wp2
      go_round
      case rel => exact ⟨j + 1, _, by omega, by go_num, rfl, HX, by omega, by omega⟩
      case measure => simp [intOf]; omega
    · have hxe := hidden (show x = k + len by have := hx.out; omega)
      have hlt' : ¬ (j : Int) < (len : Int) := by omega
      clear hx
      go_wp2
      go_ret
      exact ⟨ret_int hxe.out, rfl⟩
end Go.Proofs.YtpfombelhajmlaaGreatDoor

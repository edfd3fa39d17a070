/-
  The laws' own copy, comparisons and marks of numbers.
-/
import Derived.Test.YtiocchmlmcoieaaMarks
import Derived.Test.YtiocchmlmcoieaaCopO
namespace Go.Proofs.Ytiocchmlmcoieaa
open Go.RowKit

















































set_option maxHeartbeats 1000000 in
theorem eqIntS_yes (w : World) (B1 B2 : Nat) (a1 a2 : Option Addr) (c1 c2 : Nat) (l : List Int) (h1 : Ints w .i64 B1 a1 l) (h2 : Ints w .i64 B2 a2 l) (hlen : l.length ≤ 9223372036854775807) :
    Calls Try.prog 41 #[.slice a1 l.length c1, .slice a2 l.length c2] w fun e w' => e = .returned (.bool true) ∧ ∃ n, w' = w.drewN n := by
  obtain ⟨len, hL⟩ : ∃ n, n = l.length := ⟨_, rfl⟩
  rw [← hL] at hlen ⊢
  have HL : Hid (len = l.length) := hL
  clear hL
  go_enter Try.func41, Try.ntmps41
  go_wp2
  go_loopw [5] (fun i wr => ∃ k : Nat, k ≤ len ∧ i = .int .i64 k ∧ ∃ n, wr = w.drewN n) (fun i _ => len - (intOf i).toNat)
  case atStart => exact ⟨0, Nat.zero_le _, rfl, 0, rfl⟩
  case round =>
    obtain ⟨k, hk, rfl, n, rfl⟩ := hrel
    by_cases hlt : k < len
    · have hll : k < l.length := by rw [← HL.out]; exact hlt
      obtain ⟨b1, o1, rfl, _, e1⟩ := h1.at_ hll
      obtain ⟨b2, o2, rfl, _, e2⟩ := h2.at_ hll
      obtain ⟨x, hx⟩ : ∃ x, l.getD k 0 = x := ⟨_, rfl⟩
      rw [hx] at e1 e2
      clear hx h1 h2 hll
      have hi : (k : Int) < (len : Int) := by omega
      go_wp2
      go_quiet (fail)
      go_wp2
      go_roundw
      case rel => exact ⟨k + 1, by omega, by go_num, _, rfl⟩
      case measure => simp [intOf]; omega
    · go_wp2
      go_ret
      exact ⟨rfl, _, rfl⟩

set_option maxHeartbeats 1000000 in
theorem sameInts_yes (w : World) (B1 B2 : Nat) (a1 a2 : Option Addr) (c1 c2 : Nat) (l : List Int) (h1 : Ints w .i64 B1 a1 l) (h2 : Ints w .i64 B2 a2 l) (hlen : l.length ≤ 9223372036854775807) :
    Calls Try.prog 15 #[.slice a1 l.length c1, .slice a2 l.length c2] w fun e w' => e = .returned (.bool true) ∧ ∃ n, w' = w.drewN n := by
  obtain ⟨len, hL⟩ : ∃ n, n = l.length := ⟨_, rfl⟩
  rw [← hL] at hlen ⊢
  have HL : Hid (len = l.length) := hL
  clear hL
  go_enter Try.func15, Try.ntmps15
  go_wp2
  go_loopw [5] (fun i wr => ∃ k : Nat, k ≤ len ∧ i = .int .i64 k ∧ ∃ n, wr = w.drewN n) (fun i _ => len - (intOf i).toNat)
  case atStart => exact ⟨0, Nat.zero_le _, rfl, 0, rfl⟩
  case round =>
    obtain ⟨k, hk, rfl, n, rfl⟩ := hrel
    by_cases hlt : k < len
    · have hll : k < l.length := by rw [← HL.out]; exact hlt
      obtain ⟨b1, o1, rfl, _, e1⟩ := h1.at_ hll
      obtain ⟨b2, o2, rfl, _, e2⟩ := h2.at_ hll
      obtain ⟨x, hx⟩ : ∃ x, l.getD k 0 = x := ⟨_, rfl⟩
      rw [hx] at e1 e2
      clear hx h1 h2 hll
      have hi : (k : Int) < (len : Int) := by omega
      go_wp2
      go_quiet (fail)
      go_wp2
      go_roundw
      case rel => exact ⟨k + 1, by omega, by go_num, _, rfl⟩
      case measure => simp [intOf]; omega
    · go_wp2
      go_ret
      exact ⟨rfl, _, rfl⟩

theorem markIntS_nil (w : World) (a : Option Addr) (cap : Nat) (k : Int) :
    Calls Try.prog 45 #[.slice a 0 cap, .int .i64 k] w fun e w' => e = .returned (.int .i64 k) ∧ w = w' := by
  go_enter Try.func45, Try.ntmps45
  go_wp2
  go_rounds 1
  go_ret
  exact ⟨rfl, rfl⟩

theorem heldIntS_nil (w : World) (a : Option Addr) (cap : Nat) (k : Int) :
    Calls Try.prog 46 #[.slice a 0 cap, .int .i64 k] w fun e w' => e = .returned (.int .i64 k) ∧ w = w' := by
  go_enter Try.func46, Try.ntmps46
  go_wp2
  go_rounds 1
  go_ret
  exact ⟨rfl, rfl⟩

/-- The first n bytes of a block of numbers are marked. -/
def FilledI (k : Int) (len : Nat) (c : Array Value) (n : Nat) : Prop := len ≤ c.size ∧ ∀ j, j < n → c[j]? = some (.int .i64 (k + (j : Nat)))
theorem FilledI.next {k : Int} {len : Nat} {c : Array Value} {n : Nat} (h : FilledI k len c n) (hn : n < c.size) : FilledI k len (c.setIfInBounds n (.int .i64 (k + (n : Nat)))) (n + 1) := by
  refine ⟨by simp [h.1], fun j hj => ?_⟩
  rw [Array.getElem?_setIfInBounds]
  by_cases e : n = j
  · subst e; simp [hn]
  · rw [if_neg e]; exact h.2 j (by omega)
set_option maxHeartbeats 1000000 in
theorem markIntS_wide (w : World) (g len cap : Nat) (cs : Array Value) (k : Int) (h : Has w g 3 cs) (hs : len ≤ cs.size) (hk : 0 ≤ k) (hb : k + len ≤ 4611686018427387904) :
    Calls Try.prog 45 #[.slice (some ⟨g, 0, none⟩) len cap, .int .i64 k] w fun e w' => e = .returned (.int .i64 (k + len)) ∧ (∃ c, Has w' g 3 c ∧ ∀ j, j < len → c[j]? = some (.int .i64 (k + (j : Nat)))) ∧ w.grownBy w' (some g) := by
  have HS : Hid (FilledI k len cs 0) := ⟨hs, fun j hj => by omega⟩
  clear hs
  go_enter Try.func45, Try.ntmps45
  go_wp2
  go_loopw [1, 5] (fun m i wr => ∃ (j : Nat) (c : Array Value) (x : Int), j ≤ len ∧ i = .int .i64 j ∧ m = .int .i64 x ∧ Hid (x = k + j) ∧ 0 ≤ x ∧ x ≤ 4611686018427387904 ∧ Hid (FilledI k len c j) ∧ Has wr g 3 c ∧ w.grownBy wr (some g))
    (fun _ i _ => len - (intOf i).toNat)
  case atStart => exact ⟨0, cs, k, by omega, rfl, rfl, hidden (by simp), hk, by omega, HS, h, World.grownBy.refl w _⟩
  case round =>
    obtain ⟨j, c, x, hj, rfl, rfl, hx, hx0, hx1, hf, hh, hg⟩ := hrel
    clear HS h
    by_cases hlt : j < len
    · have hcs : j < c.size := by have := hf.out.1; omega
      have hfn := hidden (hf.out.next hcs)
      obtain ⟨v, hv⟩ : ∃ v, c[j]? = some v := ⟨_, Array.getElem?_eq_getElem hcs⟩
      have eo := hh.cell j
      rw [hv] at eo
      have ef := hh.free j
      have hxm : (k + (j : Nat)) = x := by rw [← hx.out]
      have hput := hh.put j (.int .i64 x)
      have hgp := only_trans hg (only_put' (g := g) j (.int .i64 x))
      rw [hxm] at hfn
      have HX : Hid (x + 1 = k + ((j + 1 : Nat) : Int)) := by have := hx.out; show _ = _; omega
      have hx2 : x + 1 ≤ 4611686018427387904 := by have := hx.out; omega
      clear hf hv hcs hx hxm hh hg
      have hi : (j : Int) < (len : Int) := by omega
      go_wp2
      go_roundw
      case rel => exact ⟨j + 1, _, _, by omega, by go_num, rfl, HX, by omega, by omega, hfn, hput, hgp⟩
      case measure => simp [intOf]; omega
    · have hjl : j = len := by omega
      have hall := hf
      rw [hjl] at hall
      have HE : Hid (x = k + len) := by have := hx.out; show _ = _; omega
      have hlt' : ¬ (j : Int) < (len : Int) := by omega
      clear hf hx hjl
      go_wp2
      go_ret
      exact ⟨ret_int HE.out, ⟨c, hh, hall.out.2⟩, hg⟩
set_option maxHeartbeats 1000000 in
theorem heldIntS_wide (w : World) (g len cap : Nat) (k : Int) (h : ∀ j, j < len → w.cell? ⟨g, j, none⟩ = some (.int .i64 (k + (j : Nat)))) (hk : 0 ≤ k) (hb : k + len ≤ 4611686018427387904) :
    Calls Try.prog 46 #[.slice (some ⟨g, 0, none⟩) len cap, .int .i64 k] w fun e w' => e = .returned (.int .i64 (k + len)) ∧ w = w' := by
  have hc : Hid (∀ j, j < len → w.cell? ⟨g, 0 + j, none⟩ = some (.int .i64 (k + (j : Nat)))) := fun j hj => by
    rw [Nat.zero_add]; exact h j hj
  clear h
  go_enter Try.func46, Try.ntmps46
  go_wp2
  go_loop [1, 5] (fun m i => ∃ (j : Nat) (x : Int), j ≤ len ∧ i = .int .i64 j ∧ m = .int .i64 x ∧ Hid (x = k + j) ∧ 0 ≤ x ∧ x ≤ 4611686018427387904) (fun _ i => len - (intOf i).toNat)
  case atStart => exact ⟨0, k, by omega, rfl, rfl, hidden (by simp), hk, by omega⟩
  case round =>
    obtain ⟨j, x, hj, rfl, rfl, hx, hx0, hx1⟩ := hrel
    by_cases hlt : j < len
    · have e := hc.out j hlt
      rw [← hx.out, Nat.zero_add] at e
      have HX : Hid (x + 1 = k + ((j + 1 : Nat) : Int)) := by have := hx.out; show _ = _; omega
      have hx2 : x + 1 ≤ 4611686018427387904 := by have := hx.out; omega
      have hi : (j : Int) < (len : Int) := by omega
      clear hx
      go_wp2
      go_round
      case rel => exact ⟨j + 1, _, by omega, by go_num, rfl, HX, by omega, by omega⟩
      case measure => simp [intOf]; omega
    · have hxe := hidden (show x = k + len by have := hx.out; omega)
      have hlt' : ¬ (j : Int) < (len : Int) := by omega
      clear hx
      go_wp2
      go_ret
      exact ⟨ret_int hxe.out, rfl⟩
theorem markI_wide (w : World) (g L cap : Nat) (a : Option Addr) (k : Int) (h : 0 < L → a = some ⟨g, 0, none⟩ ∧ ∃ cs, Has w g 3 cs ∧ L ≤ cs.size) (hk : 0 ≤ k) (hb : k + L ≤ 4611686018427387904) :
    Calls Try.prog 45 #[.slice a L cap, .int .i64 k] w fun e w' => e = .returned (.int .i64 (k + L)) ∧ (0 < L → ∃ c, Has w' g 3 c ∧ ∀ j, j < L → c[j]? = some (.int .i64 (k + (j : Nat)))) ∧ w.grownBy w' (some g) := by
  rcases Nat.eq_zero_or_pos L with rfl | hL
  · refine (markIntS_nil w a cap k).mono fun e w' ⟨he, hw⟩ => ?_
    subst hw
    exact ⟨by rw [he]; simp, fun h => by omega, World.grownBy.refl w _⟩
  · obtain ⟨rfl, cs, hh, hs⟩ := h hL
    exact (markIntS_wide w g L cap cs k hh hs hk hb).mono fun e w' ⟨he, hc, hg⟩ => ⟨he, fun _ => hc, hg⟩
theorem heldI_wide (w : World) (g L cap : Nat) (a : Option Addr) (k : Int) (h : 0 < L → a = some ⟨g, 0, none⟩ ∧ ∀ j, j < L → w.cell? ⟨g, j, none⟩ = some (.int .i64 (k + (j : Nat)))) (hk : 0 ≤ k) (hb : k + L ≤ 4611686018427387904) :
    Calls Try.prog 46 #[.slice a L cap, .int .i64 k] w fun e w' => e = .returned (.int .i64 (k + L)) ∧ w = w' := by
  rcases Nat.eq_zero_or_pos L with rfl | hL
  · exact (heldIntS_nil w a cap k).mono fun e w' ⟨he, hw⟩ => ⟨by rw [he]; simp, hw⟩
  · obtain ⟨rfl, hh⟩ := h hL
    exact heldIntS_wide w g L cap k hh hk hb

end Go.Proofs.Ytiocchmlmcoieaa

/-
  Contracts of the laws' own marks: bytes of the call's own are overwritten one by one, and found again. Marks on the bytes of a slice whose block may be longer: laws.markByteS, laws.heldByteS.
-/
import Derived.WalkSpells
import Derived.WalkLawsBesides
import Derived.Handy
import Derived.Test.YtiocchmlmcoieaaBase
import Derived.Test.YtiocchmlmcoieaaMem
/- Contracts of the laws' own marks: bytes of the call's own are overwritten one by one, and found again. -/
namespace Go.Proofs.Ytiocchmlmcoieaa
open Go.RowKit

/-- The marks: k, k + 1, .. as bytes. -/
def marks (k : Int) (n : Nat) : List Int := (List.range n).map fun j => (k + (j : Nat)) % 256
theorem marks_length (k : Int) (n : Nat) : (marks k n).length = n := by simp [marks]
theorem marks_at (k : Int) (n j : Nat) (h : j < n) : (marks k n).getD j 0 = (k + (j : Nat)) % 256 := by simp [marks, List.getD, h]
theorem marks_wf (k : Int) (n : Nat) : ∀ x ∈ marks k n, (Lit.int .u8 x).wf = true := by
  intro x hx
  simp only [marks, List.mem_map] at hx
  obtain ⟨j, _, rfl⟩ := hx
  exact wf_u8.mpr ⟨Int.emod_nonneg _ (by decide), Int.emod_lt_of_pos _ (by decide)⟩
set_option maxHeartbeats 1000000 in
theorem markByteS_own (w : World) (g len cap : Nat) (cs : Array Value) (k : Int) (h : Has w g 5 cs) (hs : cs.size = len) (hk : 0 ≤ k) (hb : k + len ≤ 4611686018427387904) :
    Calls Try.prog 66 #[.slice (some ⟨g, 0, none⟩) len cap, .int .i64 k] w fun e w' => e = .returned (.int .i64 (k + len)) ∧ Has w' g 5 ((marks k len).map (Value.int .u8)).toArray ∧ w.grownBy w' (some g) := by
  have HS : Hid (Filled .u8 cs (marks k len) 0) := ⟨by rw [marks_length]; exact hs, fun j hj => by omega⟩
  clear hs
  go_enter Try.func66, Try.ntmps66
  go_wp2
  go_loopw [1, 5] (fun m i wr => ∃ (j : Nat) (c : Array Value) (x : Int), j ≤ len ∧ i = .int .i64 j ∧ m = .int .i64 x ∧ Hid (x = k + j) ∧ 0 ≤ x ∧ x ≤ 4611686018427387904 ∧ Hid (Filled .u8 c (marks k len) j) ∧ Has wr g 5 c ∧ w.grownBy wr (some g))
    (fun _ i _ => len - (intOf i).toNat)
  case atStart => exact ⟨0, cs, k, by omega, rfl, rfl, hidden (by simp), hk, by omega, HS, h, World.grownBy.refl w _⟩
  case round =>
    obtain ⟨j, c, x, hj, rfl, rfl, hx, hx0, hx1, hf, hh, hg⟩ := hrel
    clear HS h
    by_cases hlt : j < len
    · have hll : j < (marks k len).length := by rw [marks_length]; exact hlt
      have hfn := hidden (hf.out.next hll)
      have hcs : j < c.size := by rw [hf.out.1]; exact hll
      obtain ⟨v, hv⟩ : ∃ v, c[j]? = some v := ⟨_, Array.getElem?_eq_getElem hcs⟩
      have eo := hh.cell j
      rw [hv] at eo
      have ef := hh.free j
      have hxm : (marks k len).getD j 0 = x % 256 := by rw [marks_at k len j hlt, ← hx.out]
      have hput := hh.put j (.int .u8 (x % 256))
      have hgp := only_trans hg (only_put' (g := g) j (.int .u8 (x % 256)))
      rw [hxm] at hfn
      have HX : Hid (x + 1 = k + ((j + 1 : Nat) : Int)) := by have := hx.out; show _ = _; omega
      have hx2 : x + 1 ≤ 4611686018427387904 := by have := hx.out; omega
      clear hf hv hcs hx hxm hh hg hll
      have hi : (j : Int) < (len : Int) := by omega
      go_wp2
      go_roundw
      case rel => exact ⟨j + 1, _, _, by omega, by go_num, rfl, HX, by omega, by omega, hfn, hput, hgp⟩
      case measure => simp [intOf]; omega
    · have hkl : j = (marks k len).length := by rw [marks_length]; omega
      have hall := hidden (hf.out.all hkl)
      have hxe : x = k + len := by have := hx.out; rw [marks_length] at hkl; omega
      have HE := hidden hxe
      have hlt' : ¬ (j : Int) < (len : Int) := by omega
      clear hf hkl hx hxe
      go_wp2
      go_ret
      exact ⟨ret_int HE.out, by rw [← hall.out]; exact hh, hg⟩
theorem markByteS_nil (w : World) (a : Option Addr) (cap : Nat) (k : Int) :
    Calls Try.prog 66 #[.slice a 0 cap, .int .i64 k] w fun e w' => e = .returned (.int .i64 k) ∧ w = w' := by
  go_enter Try.func66, Try.ntmps66
  go_wp2
  go_rounds 1
  go_ret
  exact ⟨rfl, rfl⟩








































theorem mark_any (w : World) (g L cap : Nat) (a : Option Addr) (k : Int) (h : 0 < L → a = some ⟨g, 0, none⟩ ∧ ∃ cs, Has w g 5 cs ∧ cs.size = L) (hk : 0 ≤ k) (hb : k + L ≤ 4611686018427387904) :
    Calls Try.prog 66 #[.slice a L cap, .int .i64 k] w fun e w' => e = .returned (.int .i64 (k + L)) ∧ (0 < L → Has w' g 5 ((marks k L).map (Value.int .u8)).toArray) ∧ w.grownBy w' (some g) := by
  rcases Nat.eq_zero_or_pos L with rfl | hL
  · refine (markByteS_nil w a cap k).mono fun e w' ⟨he, hw⟩ => ?_
    subst hw
    exact ⟨by rw [he]; simp, fun h => absurd h (by omega), World.grownBy.refl w _⟩
  · obtain ⟨rfl, cs, hh, hs⟩ := h hL
    exact (markByteS_own w g L cap cs k hh hs hk hb).mono fun e w' ⟨he, h1, h2⟩ => ⟨he, fun _ => h1, h2⟩







end Go.Proofs.Ytiocchmlmcoieaa
/- Marks on the bytes of a slice whose block may be longer: laws.markByteS, laws.heldByteS. -/
namespace Go.Proofs.Ytiocchmlmcoieaa
open Go.RowKit

/-- The first n bytes of a block are marked. -/
def FilledW (k : Int) (len : Nat) (c : Array Value) (n : Nat) : Prop := len ≤ c.size ∧ ∀ j, j < n → c[j]? = some (.int .u8 ((k + (j : Nat)) % 256))
theorem FilledW.next {k : Int} {len : Nat} {c : Array Value} {n : Nat} (h : FilledW k len c n) (hn : n < c.size) : FilledW k len (c.setIfInBounds n (.int .u8 ((k + (n : Nat)) % 256))) (n + 1) := by
  refine ⟨by simp [h.1], fun j hj => ?_⟩
  rw [Array.getElem?_setIfInBounds]
  by_cases e : n = j
  · subst e; simp [hn]
  · rw [if_neg e]; exact h.2 j (by omega)
set_option maxHeartbeats 1000000 in
theorem markByteS_wide (w : World) (g len cap : Nat) (cs : Array Value) (k : Int) (h : Has w g 5 cs) (hs : len ≤ cs.size) (hk : 0 ≤ k) (hb : k + len ≤ 4611686018427387904) :
    Calls Try.prog 66 #[.slice (some ⟨g, 0, none⟩) len cap, .int .i64 k] w fun e w' => e = .returned (.int .i64 (k + len)) ∧ (∃ c, Has w' g 5 c ∧ ∀ j, j < len → c[j]? = some (.int .u8 ((k + (j : Nat)) % 256))) ∧ w.grownBy w' (some g) := by
  have HS : Hid (FilledW k len cs 0) := ⟨hs, fun j hj => by omega⟩
  clear hs
  go_enter Try.func66, Try.ntmps66
  go_wp2
  go_loopw [1, 5] (fun m i wr => ∃ (j : Nat) (c : Array Value) (x : Int), j ≤ len ∧ i = .int .i64 j ∧ m = .int .i64 x ∧ Hid (x = k + j) ∧ 0 ≤ x ∧ x ≤ 4611686018427387904 ∧ Hid (FilledW k len c j) ∧ Has wr g 5 c ∧ w.grownBy wr (some g))
    (fun _ i _ => len - (intOf i).toNat)
  case atStart => exact ⟨0, cs, k, by omega, rfl, rfl, hidden (by simp), hk, by omega, HS, h, World.grownBy.refl w _⟩
  case round =>
    obtain ⟨j, c, x, hj, rfl, rfl, hx, hx0, hx1, hf, hh, hg⟩ := hrel
    clear HS h
    by_cases hlt : j < len
    · have hcs : j < c.size := by have := hf.out.1; omega
      have hfn := hidden (hf.out.next hcs)
      obtain ⟨v, hv⟩ : ∃ v, c[j]? = some v := ⟨_, Array.getElem?_eq_getElem hcs⟩
      have eo := hh.cell j
      rw [hv] at eo
      have ef := hh.free j
      have hxm : (k + (j : Nat)) % 256 = x % 256 := by rw [← hx.out]
      have hput := hh.put j (.int .u8 (x % 256))
      have hgp := only_trans hg (only_put' (g := g) j (.int .u8 (x % 256)))
      rw [hxm] at hfn
      have HX : Hid (x + 1 = k + ((j + 1 : Nat) : Int)) := by have := hx.out; show _ = _; omega
      have hx2 : x + 1 ≤ 4611686018427387904 := by have := hx.out; omega
      clear hf hv hcs hx hxm hh hg
      have hi : (j : Int) < (len : Int) := by omega
      go_wp2
      go_roundw
      case rel => exact ⟨j + 1, _, _, by omega, by go_num, rfl, HX, by omega, by omega, hfn, hput, hgp⟩
      case measure => simp [intOf]; omega
    · have hjl : j = len := by omega
      have hall := hf
      rw [hjl] at hall
      have HE : Hid (x = k + len) := by have := hx.out; show _ = _; omega
      have hlt' : ¬ (j : Int) < (len : Int) := by omega
      clear hf hx hjl
      go_wp2
      go_ret
      exact ⟨ret_int HE.out, ⟨c, hh, hall.out.2⟩, hg⟩





























theorem mark_wide (w : World) (g L cap : Nat) (a : Option Addr) (k : Int) (h : 0 < L → a = some ⟨g, 0, none⟩ ∧ ∃ cs, Has w g 5 cs ∧ L ≤ cs.size) (hk : 0 ≤ k) (hb : k + L ≤ 4611686018427387904) :
    Calls Try.prog 66 #[.slice a L cap, .int .i64 k] w fun e w' => e = .returned (.int .i64 (k + L)) ∧ (0 < L → ∃ c, Has w' g 5 c ∧ ∀ j, j < L → c[j]? = some (.int .u8 ((k + (j : Nat)) % 256))) ∧ w.grownBy w' (some g) := by
  rcases Nat.eq_zero_or_pos L with rfl | hL
  · refine (markByteS_nil w a cap k).mono fun e w' ⟨he, hw⟩ => ?_
    subst hw
    exact ⟨by rw [he]; simp, fun h => by omega, World.grownBy.refl w _⟩
  · obtain ⟨rfl, cs, hh, hs⟩ := h hL
    exact (markByteS_wide w g L cap cs k hh hs hk hb).mono fun e w' ⟨he, hc, hg⟩ => ⟨he, fun _ => hc, hg⟩







end Go.Proofs.Ytiocchmlmcoieaa

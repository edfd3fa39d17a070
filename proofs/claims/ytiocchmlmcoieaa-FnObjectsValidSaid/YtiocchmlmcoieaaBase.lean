/-
  What the seat's own types are in memory; a block that is filled one by one. Contract of the laws' own copy of bytes: it holds the same bytes. Contract of the laws' own comparison of bytes: equal bytes are found equal. Bytes that were answered, in a row of their own.
-/
import Derived.Deep.OwnRows
import Derived.WalkSpells
import Derived.WalkLawsBesides
import Derived.Handy
import Derived.Deep.QuietTactic
import Derived.BigQuiet
import Derived.Test.YtiocchmlmcoieaaMem
import Derived.Test.YtiocchmlmcoieaaRows
/- What the seat's own types are in memory; a block that is filled one by one. Contract of the laws' own copy of bytes: it holds the same bytes. Contract of the laws' own comparison of bytes: equal bytes are found equal. -/
/- What the seat's own types are in memory; a block that is filled one by one. -/
namespace Go.Proofs.Ytiocchmlmcoieaa
open Go.RowKit

theorem Try.info_u8 : (Try.prog.info? 5).map (fun i => (i.zero, i.size, i.bytes)) = some (some (.int .u8 0), 1, 1) := by kernel_rfl
/-- The cells of a block that has been filled up to k. -/
def Filled (k : IntKind) (cs : Array Value) (l : List Int) (n : Nat) : Prop := cs.size = l.length ∧ ∀ j, j < n → cs[j]? = some (.int k (l.getD j 0))
theorem Filled.start (k : IntKind) (l : List Int) (z : Value) : Filled k (madeCells #[z] l.length) l 0 := ⟨size_madeCells _ _, fun j hj => by omega⟩
theorem Filled.next {k : IntKind} {cs : Array Value} {l : List Int} {n : Nat} (h : Filled k cs l n) (hn : n < l.length) : Filled k (cs.setIfInBounds n (.int k (l.getD n 0))) l (n + 1) := by
  refine ⟨by simp [h.1], fun j hj => ?_⟩
  rw [Array.getElem?_setIfInBounds]
  by_cases e : n = j
  · subst e; simp [h.1, hn]
  · rw [if_neg e]; exact h.2 j (by omega)
theorem Filled.all {k : IntKind} {cs : Array Value} {l : List Int} {n : Nat} (h : Filled k cs l n) (hn : n = l.length) : cs = (l.map (Value.int k)).toArray := by
  apply Array.ext_getElem?
  intro i
  by_cases hi : i < l.length
  · rw [h.2 i (by omega)]
    simp [List.getD, List.getElem?_eq_getElem hi]
  · rw [Array.getElem?_eq_none (by rw [h.1]; omega)]
    rw [Array.getElem?_eq_none (by simp; omega)]

end Go.Proofs.Ytiocchmlmcoieaa
/- Contract of the laws' own copy of bytes: it holds the same bytes. -/
namespace Go.Proofs.Ytiocchmlmcoieaa
open Go.RowKit

set_option maxHeartbeats 1000000 in
theorem toByteS_any (w : World) (B : Nat) (a : Option Addr) (c : Nat) (l : List Int) (h : Ints w .u8 B a l) (hB : B ≤ w.heap.size) (hlen : l.length ≤ 281474976710656) :
    Calls Try.prog 88 #[.slice a l.length c] w fun e w' => e = .returned (.slice (some ⟨w.heap.size, 0, none⟩) l.length l.length) ∧
      Has w' w.heap.size 5 (l.map (Value.int .u8)).toArray ∧ Below w.heap.size w w' := by
  obtain ⟨len, hL⟩ : ∃ n, n = l.length := ⟨_, rfl⟩
  have hst := Filled.start .u8 l (.int .u8 0)
  rw [← hL] at hlen hst ⊢
  have HL : Hid (len = l.length) := hL
  clear hL
  obtain ⟨g, hg⟩ : ∃ g, g = w.heap.size := ⟨_, rfl⟩
  have hmk := fun W => run_make_row' (P := Try.prog) 22 5 (.int .u8 0) 1 Try.underlying22 Try.info_u8 rfl .i64 .i64 len (by omega) (by omega) W
  have HF : Hid (Filled .u8 (madeCells #[.int .u8 0] len) l 0) := hst
  clear hst
  go_enter Try.func88, Try.ntmps88
  go_wp2
  go_loopw [4] (fun i wr => ∃ (k : Nat) (cs : Array Value), k ≤ len ∧ i = .int .i64 k ∧ Hid (Filled .u8 cs l k) ∧ Has wr w.heap.size 5 cs ∧ Below w.heap.size w wr) (fun i _ => len - (intOf i).toNat)
  case atStart => exact ⟨0, _, Nat.zero_le _, rfl, HF, Has.new _ _ _, (Below.refl _ _).alloc (Nat.le_refl _) _⟩
  case round =>
    obtain ⟨k, cs, hk, rfl, hf, hh, hb⟩ := hrel
    clear hmk HF
    by_cases hlt : k < len
    · have hll : k < l.length := by rw [← HL.out]; exact hlt
      obtain ⟨b1, o1, rfl, hbB, e1⟩ := (h.below (hb.mono hB)).at_ hll
      have hfn := hf.out.next hll
      have hcs : k < cs.size := by rw [hf.out.1]; exact hll
      obtain ⟨v, hv⟩ : ∃ v, cs[k]? = some v := ⟨_, Array.getElem?_eq_getElem hcs⟩
      have eo := hh.cell k
      rw [hv] at eo
      have ef := hh.free k
      have hput := hh.put k (.int .u8 (l.getD k 0))
      have hbp := hb.setCell (p := ⟨w.heap.size, k, none⟩) (Nat.le_refl _) (.int .u8 (l.getD k 0))
      have HN : Hid (Filled .u8 (cs.setIfInBounds k (.int .u8 (l.getD k 0))) l (k + 1)) := hfn
      obtain ⟨x, hx⟩ : ∃ x, l.getD k 0 = x := ⟨_, rfl⟩
      rw [hx] at e1 hput hbp HN
      clear hx h hf hfn hll hh hb hv hcs
      have hi : (k : Int) < (len : Int) := by omega
      go_wp2
      go_roundw
      case rel => exact ⟨k + 1, _, by omega, by go_num, HN, hput, hbp⟩
      case measure => simp [intOf]; omega
    · have hkl : k = l.length := by rw [← HL.out]; omega
      have hall := hf.out.all hkl
      have HA : Hid (cs = (l.map (Value.int .u8)).toArray) := hall
      clear hall hkl hf
      go_wp2
      go_ret
      exact ⟨rfl, by rw [← HA.out]; exact hh, hb⟩

end Go.Proofs.Ytiocchmlmcoieaa
/- Contract of the laws' own comparison of bytes: equal bytes are found equal. -/
namespace Go.Proofs.Ytiocchmlmcoieaa
open Go.RowKit

set_option maxHeartbeats 1000000 in
theorem eqByteS_yes (w : World) (B1 B2 : Nat) (a1 a2 : Option Addr) (c1 c2 : Nat) (l : List Int) (h1 : Ints w .u8 B1 a1 l) (h2 : Ints w .u8 B2 a2 l) (hlen : l.length ≤ 9223372036854775807) :
    Calls Try.prog 90 #[.slice a1 l.length c1, .slice a2 l.length c2] w fun e w' => e = .returned (.bool true) ∧ ∃ n, w' = w.drewN n := by
  obtain ⟨len, hL⟩ : ∃ n, n = l.length := ⟨_, rfl⟩
  rw [← hL] at hlen ⊢
  have HL : Hid (len = l.length) := hL
  clear hL
  go_enter Try.func90, Try.ntmps90
  go_wp2
  go_loopw [5] (fun i wr => ∃ k : Nat, k ≤ len ∧ i = .int .i64 k ∧ ∃ n, wr = w.drewN n) (fun i _ => len - (intOf i).toNat)
  case atStart => exact ⟨0, Nat.zero_le _, rfl, 0, rfl⟩
  case round =>
    obtain ⟨k, hk, rfl, n, rfl⟩ := hrel
    by_cases hlt : k < len
    · have hll : k < l.length := by rw [← HL.out]; exact hlt
      obtain ⟨b1, o1, rfl, _, e1⟩ := h1.at_ hll
      obtain ⟨b2, o2, rfl, _, e2⟩ := h2.at_ hll
      obtain ⟨x, hx⟩ : ∃ x, l.getD k 0 = x := ⟨_, rfl⟩
      rw [hx] at e1 e2
      clear hx h1 h2 hll
      have hi : (k : Int) < (len : Int) := by omega
      go_wp2
      go_quiet (fail)
      go_wp2
      go_roundw
      case rel => exact ⟨k + 1, by omega, by go_num, _, rfl⟩
      case measure => simp [intOf]; omega
    · go_wp2
      go_ret
      exact ⟨rfl, _, rfl⟩

end Go.Proofs.Ytiocchmlmcoieaa
/- Bytes that were answered, in a row of their own. -/
namespace Go.Proofs.Ytiocchmlmcoieaa
open Go.RowKit

/-- Bytes that were answered, in a row of their own. -/
def RowB (w : World) (l : List Int) (e : Ending) (w' : World) : Prop :=
  ∃ v, e = .returned v ∧ w'.ownsRow w.heap.size 5 1 v l.length (l.map (Value.int .u8)) ∧ Below w.heap.size w w'
theorem RowB.parts {w : World} {l : List Int} {e : Ending} {w' : World} (h : RowB w l e w') (hwf : ∀ x ∈ l, (Lit.int .u8 x).wf = true) :
    ∃ (a : Option Addr) (c g : Nat), e = .returned (.slice a l.length c) ∧ l.length ≤ c ∧ c ≤ maxLen ∧ Ints w' .u8 w'.heap.size a l ∧ w.heap.size ≤ g ∧ (0 < l.length → a = some ⟨g, 0, none⟩ ∧ ∃ cs, Has w' g 5 cs ∧ l.length ≤ cs.size) ∧ Below w.heap.size w w' := by
  obtain ⟨v, rfl, hown, hb⟩ := h
  obtain ⟨a, c, rfl, hc, hm, hi⟩ := ints_of_own3 hown hwf
  rcases hown.2 with ⟨hv, h0⟩ | ⟨g, cap, cur, hv, hbase, hh, hn, _, hs, _⟩
  · exact ⟨a, c, w.heap.size, rfl, hc, hm, hi, Nat.le_refl _, fun h => by omega, hb⟩
  · injection hv with e1 e2 e3
    exact ⟨a, c, g, rfl, hc, hm, hi, hbase, fun _ => ⟨e1, cur, hh, by omega⟩, hb⟩

end Go.Proofs.Ytiocchmlmcoieaa

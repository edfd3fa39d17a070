/-
  Contract of the laws' own copy of a list of texts.
-/
import Derived.Test.YtdjpihbhnncahaaBase
import Derived.Test.YtdjpihbhnncahaaRegion
import Derived.Test.YtdjpihbhnncahaaDrawN
import Derived.WalkSpells
import Derived.WalkLawsBesides
import Derived.Handy
import Derived.Deep.QuietTactic
import Derived.BigQuiet
import Derived.Deep.OwnRows
namespace Go.Proofs.Ytdjpihbhnncahaa
open Go.RowKit

def FilledTx (cs : Array Value) (ss : List ByteArray) (n : Nat) : Prop := cs.size = ss.length ∧ ∀ j, j < n → cs[j]? = (ss.map Value.string)[j]?
theorem FilledTx.next {cs : Array Value} {ss : List ByteArray} {n : Nat} {u : Value} (h : FilledTx cs ss n) (hn : (ss.map Value.string)[n]? = some u) : FilledTx (cs.setIfInBounds n u) ss (n + 1) := by
  have hl : n < ss.length := by
    rcases Nat.lt_or_ge n ss.length with h1 | h1
    · exact h1
    · rw [List.getElem?_eq_none (by simpa using h1)] at hn; cases hn
  refine ⟨by simp [h.1], fun j hj => ?_⟩
  rw [Array.getElem?_setIfInBounds]
  by_cases e : n = j
  · subst e; rw [if_pos rfl, if_pos (by rw [h.1]; exact hl), hn]
  · rw [if_neg e]; exact h.2 j (by omega)
theorem FilledTx.all {cs : Array Value} {ss : List ByteArray} {n : Nat} (h : FilledTx cs ss n) (hn : n = ss.length) : cs = (ss.map Value.string).toArray := by
  apply Array.ext_getElem?
  intro i
  by_cases hi : i < ss.length
  · rw [h.2 i (by omega)]; simp
  · rw [Array.getElem?_eq_none (by rw [h.1]; omega), Array.getElem?_eq_none (by simp; omega)]
set_option maxHeartbeats 1000000 in
theorem toStringS_any (w : World) (B : Nat) (a : Option Addr) (c n : Nat) (ss : List ByteArray) (hn : n = ss.length) (h : Vals w B a (ss.map Value.string)) (hB : B ≤ w.heap.size) (hlen : n ≤ 1048576) :
    Calls Try.prog 22 #[.slice a n c] w fun e w' => e = .returned (.slice (some ⟨w.heap.size, 0, none⟩) n n) ∧ Has w' w.heap.size 9 (ss.map Value.string).toArray ∧ Below w.heap.size w w' := by
  have HL := hidden hn
  have hst : FilledTx (madeCells #[.string ⟨#[]⟩] n) ss 0 := ⟨by rw [size_madeCells, hn], fun j hj => by omega⟩
  have HF := hidden hst
  have hmk := fun W => run_make_row' (P := Try.prog) 27 9 (.string ⟨#[]⟩) 16 Try.underlying27 Try.info_str rfl .i64 .i64 n (by omega) (by omega) W
  clear hn hst
  go_enter Try.func22, Try.ntmps22
  go_wp2
  go_loopw [4] (fun i wr => ∃ (k : Nat) (cs : Array Value), k ≤ n ∧ i = .int .i64 k ∧ Hid (FilledTx cs ss k) ∧ Has wr w.heap.size 9 cs ∧ Below w.heap.size w wr) (fun i _ => n - (intOf i).toNat)
  case atStart => exact ⟨0, _, Nat.zero_le _, rfl, HF, Has.new _ _ _, (Below.refl _ _).alloc (Nat.le_refl _) _⟩
  case round =>
    obtain ⟨k, cs, hk, rfl, hf, hh, hb⟩ := hrel
    clear hmk HF
    by_cases hlt : k < n
    · have hll : k < (ss.map Value.string).length := by rw [List.length_map, ← HL.out]; exact hlt
      obtain ⟨b1, o1, rfl, hbB, e1⟩ := (h.below (hb.mono hB)).at_ hll
      obtain ⟨x, hx⟩ : ∃ x, (ss.map Value.string)[k] = .string x := ⟨_, List.getElem_map ..⟩
      have HN := hidden (hf.out.next (by rw [List.getElem?_eq_getElem hll, hx]))
      have hcs : k < cs.size := by rw [hf.out.1, ← HL.out]; exact hlt
      obtain ⟨v, hv⟩ : ∃ v, cs[k]? = some v := ⟨_, Array.getElem?_eq_getElem hcs⟩
      have eo := hh.cell k
      rw [hv] at eo
      have ef := hh.free k
      have hput := hh.put k (.string x)
      have hbp := hb.setCell (p := ⟨w.heap.size, k, none⟩) (Nat.le_refl _) (.string x)
      rw [hx] at e1
      clear hx h hf hll hh hb hv hcs
      have hi : (k : Int) < (n : Int) := by omega
      go_wp2
      go_roundw
      case rel => exact ⟨k + 1, _, by omega, by go_num, HN, hput, hbp⟩
      case measure => simp [intOf]; omega
    · have hkl : k = ss.length := by rw [← HL.out]; omega
      have HA := hidden (hf.out.all hkl)
      have hi : ¬ (k : Int) < (n : Int) := by omega
      clear hkl hf
      go_wp2
      go_ret
      exact ⟨rfl, by rw [← HA.out]; exact hh, hb⟩

end Go.Proofs.Ytdjpihbhnncahaa

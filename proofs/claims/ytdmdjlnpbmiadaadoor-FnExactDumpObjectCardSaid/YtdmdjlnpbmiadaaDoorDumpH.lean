/-
  spec.ReadHex.
-/
import Derived.Test.YtdmdjlnpbmiadaaDoorDumpN
import Derived.Test.YtdmdjlnpbmiadaaDoorRowI
import Derived.Test.YtdmdjlnpbmiadaaDoorRegion
import Derived.IntWalk
import Derived.Deep.CutBlock
namespace Go.Proofs.YtdmdjlnpbmiadaaDoor
open Go.RowKit

theorem hexL_valid {l : List Int} (h : ∀ x ∈ l, 0 ≤ x ∧ x < 256) : ∀ c ∈ hexL l, 0 ≤ hexV c := fun c hc => by
  unfold hexL at hc
  obtain ⟨b, hb, hc⟩ := List.mem_flatMap.1 hc
  have := h b hb
  simp only [List.mem_cons, List.not_mem_nil, or_false] at hc
  rcases hc with rfl | rfl
  · rw [hexV_D (by omega) (by omega)]; omega
  · rw [hexV_D (by omega) (by omega)]; omega
/-- What a text of hexadecimal digits is read as. -/
def rhx (t : List Int) : List Int × Bool := match rdHexL t with | some l => (l, true) | none => ([], false)
theorem rhx_bad {t : List Int} {c : Int} (hc : c ∈ t) (h : hexV c < 0) : rhx t = ([], false) := by
  unfold rhx
  split
  · rename_i l hl
    obtain ⟨h1, h2⟩ := rdHexL_some t l hl
    have := hexL_valid h2 c (by rw [h1]; exact hc)
    omega
  · rfl
theorem rhx_odd {t : List Int} {k : Nat} (h : t.length = 2 * k + 1) : rhx t = ([], false) := by
  unfold rhx
  split
  · rename_i l hl
    obtain ⟨h1, _⟩ := rdHexL_some t l hl
    have := hexL_length l
    rw [h1] at this
    omega
  · rfl
theorem rhx_yes {l : List Int} (h : ∀ x ∈ l, 0 ≤ x ∧ x < 256) : rhx (hexL l) = (l, true) := by
  unfold rhx
  rw [rdHexL_hex l h]
set_option maxRecDepth 100000 in
theorem run_hexAt (W : World) (j : Nat) (h : j < 16) : (Instr.index 9 (.string ⟨#[48, 49, 50, 51, 52, 53, 54, 55, 56, 57, 97, 98, 99, 100, 101, 102]⟩) (.int .i64 (j : Int))).run Tryd.prog W = .ok (.int .u8 (hexD j)) W := by
  have hc : j = 0 ∨ j = 1 ∨ j = 2 ∨ j = 3 ∨ j = 4 ∨ j = 5 ∨ j = 6 ∨ j = 7 ∨ j = 8 ∨ j = 9 ∨ j = 10 ∨ j = 11 ∨ j = 12 ∨ j = 13 ∨ j = 14 ∨ j = 15 := by omega
  rcases hc with rfl | rfl | rfl | rfl | rfl | rfl | rfl | rfl | rfl | rfl | rfl | rfl | rfl | rfl | rfl | rfl <;> (clear h; show _ = _; kernel_rfl)
/-- The digit that has been found ahead of a place. -/
def digTo (c : Int) (j : Nat) : Int := if hexV c < (j : Int) then hexV c else -1
theorem digTo_16 (c : Int) : digTo c 16 = hexV c := by
  unfold digTo
  rw [if_pos]
  unfold hexV
  split
  · omega
  · split <;> omega
theorem digTo_0 (c : Int) : digTo c 0 = -1 := by
  unfold digTo
  split
  · rename_i h
    unfold hexV at h ⊢
    split at h
    · omega
    · rename_i h1
      rw [if_neg h1]
      split at h
      · omega
      · rename_i h2; rw [if_neg h2]
  · rfl
theorem digTo_hit {c : Int} {j : Nat} (hj : j < 16) (h : hexD j = c) : digTo c (j + 1) = j := by
  have : hexV c = j := by rw [← h, hexV_D (by omega) (by omega)]
  unfold digTo
  rw [this, if_pos (by omega)]
theorem digTo_miss {c : Int} {j : Nat} (h : hexD j ≠ c) : digTo c (j + 1) = digTo c j := by
  have hne : hexV c ≠ j := fun e => by
    have := (hexD_V (c := c) (by omega)).1
    rw [e] at this
    exact h this
  unfold digTo
  by_cases h1 : hexV c < (j : Int)
  · rw [if_pos h1, if_pos (by omega)]
  · rw [if_neg h1, if_neg (by omega)]
/-- Where one is: so many digits have been read. -/
structure HexTo (t L : List Int) (k : Nat) (n : Int) : Prop where
  wf : ∀ x ∈ L, 0 ≤ x ∧ x < 256
  even : k % 2 = 0 → n = 0 ∧ k = 2 * L.length ∧ t.take k = hexL L
  odd : k % 2 = 1 → 0 ≤ n ∧ n < 16 ∧ k = 2 * L.length + 1 ∧ t.take k = hexL L ++ [hexD n]
theorem HexTo.start (t : List Int) : HexTo t [] 0 0 := ⟨by simp, fun _ => ⟨rfl, rfl, rfl⟩, fun h => by simp at h⟩
theorem HexTo.toOdd {t L : List Int} {k : Nat} {n c : Int} (h : HexTo t L k n) (hk : k % 2 = 0) (hc : t[k]? = some c) (hv : 0 ≤ hexV c) : n = 0 ∧ HexTo t L (k + 1) (hexV c) := by
  obtain ⟨h1, h2, h3⟩ := h.even hk
  obtain ⟨v1, v2⟩ := hexD_V hv
  refine ⟨h1, h.wf, fun e => by omega, fun _ => ⟨hv, v2, by omega, ?_⟩⟩
  rw [List.take_add_one, hc, h3, v1]; rfl
theorem HexTo.toEven {t L : List Int} {k : Nat} {n c : Int} (h : HexTo t L k n) (hk : k % 2 = 1) (hc : t[k]? = some c) (hv : 0 ≤ hexV c) : 0 ≤ 16 * n + hexV c ∧ 16 * n + hexV c < 256 ∧ HexTo t (L ++ [16 * n + hexV c]) (k + 1) 0 := by
  obtain ⟨h0, h1, h2, h3⟩ := h.odd hk
  obtain ⟨v1, v2⟩ := hexD_V hv
  refine ⟨by omega, by omega, fun x hx => ?_, fun _ => ⟨rfl, by rw [List.length_append, List.length_singleton]; omega, ?_⟩, fun e => by omega⟩
  · rcases List.mem_append.1 hx with hx | hx
    · exact h.wf x hx
    · rw [List.mem_singleton.1 hx]; omega
  · rw [List.take_add_one, hc, h3]
    unfold hexL
    rw [List.flatMap_append, List.flatMap_singleton, show (16 * n + hexV c) / 16 = n by omega, show (16 * n + hexV c) % 16 = hexV c by omega, v1]
    simp
/-- What spec.ReadHex answers. -/
def HexS (w : World) (t : List Int) (e : Ending) (w' : World) : Prop := ∃ v, e = .returned (.tuple #[v, .bool (rhx t).2]) ∧ RowI w' w.heap.size v (rhx t).1.length (rhx t).1 ∧ Below w.heap.size w w'
theorem numsOf_at {s : ByteArray} {k : Nat} (h : k < s.size) : (numsOf s)[k]? = some ((s[k].toNat : Nat) : Int) := by
  have hl : k < s.data.toList.length := by simpa using h
  unfold numsOf
  rw [List.getElem?_map, List.getElem?_eq_getElem hl]
  rfl



















































































































































end Go.Proofs.YtdmdjlnpbmiadaaDoor

/-
  Words of a line put behind each other; the library's decimal numerals are the same as ours.
-/
import Derived.Test.YtdmdjlnpbmiadaaDoorDumpN
import Derived.Lib.ItoaNum
namespace Go.Proofs.YtdmdjlnpbmiadaaDoor
open Go.RowKit

theorem decDigits_dec (u : Nat) : (⟨(Lib.decDigits u).toArray⟩ : ByteArray) = strOfNums (decL u) := by
  refine ByteArray.ext (Array.ext' ?_)
  rw [strOfNums_data]
  show Lib.decDigits u = _
  induction u using Nat.strongRecOn with
  | _ u ih =>
    unfold Lib.decDigits
    split
    · rename_i h
      rw [decL_low h]
      show _ = [UInt8.ofNat (48 + (u : Int)).toNat]
      rw [show (48 + (u : Int)).toNat = 48 + u by omega]
    · rename_i h
      rw [decL_high h, List.map_append, ih (u / 10) (by omega)]
      show _ ++ _ = _ ++ [UInt8.ofNat (48 + ((u % 10 : Nat) : Int)).toNat]
      rw [show (48 + ((u % 10 : Nat) : Int)).toNat = 48 + u % 10 by omega]
/-- A number's text. -/
def numT (n : Int) : ByteArray := strOfNums (numL n)
theorem itoa_num (n : Int) : (⟨(Lib.itoa n).toArray⟩ : ByteArray) = numT n := by
  unfold Lib.itoa numT numL
  split
  · rw [show n.natAbs = (-n).toNat by omega]
    have := decDigits_dec (-n).toNat
    refine ByteArray.ext (Array.ext' ?_)
    have h2 := congrArg (fun s : ByteArray => s.data.toList) this
    rw [strOfNums_data] at h2 ⊢
    show 45 :: Lib.decDigits _ = _
    rw [List.map_cons, ← h2]
    rfl
  · exact decDigits_dec _
/-- A word behind those of a line. -/
def addW (L : List Int) (s : ByteArray) : List Int := (if L = [] then L else L ++ [32]) ++ numsOf s
def joinW (L : List Int) (S : List ByteArray) : List Int := S.foldl addW L
def lenW : List ByteArray → Nat
  | [] => 0
  | s :: r => s.size + 1 + lenW r
theorem lenW_append : ∀ (a b : List ByteArray), lenW (a ++ b) = lenW a + lenW b
  | [], b => by simp [lenW]
  | s :: r, b => by rw [List.cons_append, lenW, lenW, lenW_append r b]; omega
theorem addW_length (L : List Int) (s : ByteArray) : (addW L s).length ≤ L.length + s.size + 1 := by
  unfold addW
  rw [List.length_append, numsOf_length]
  split
  · omega
  · rw [List.length_append, List.length_singleton]; omega
theorem joinW_length : ∀ (S : List ByteArray) (L : List Int), (joinW L S).length ≤ L.length + lenW S
  | [], L => by simp [joinW, lenW]
  | s :: r, L => by
    have h1 := joinW_length r (addW L s)
    have h2 := addW_length L s
    show (joinW (addW L s) r).length ≤ _
    rw [lenW]; omega
theorem joinW_snoc {S : List ByteArray} {k : Nat} {s : ByteArray} (h : S[k]? = some s) (L : List Int) : joinW L (S.take (k + 1)) = addW (joinW L (S.take k)) s := by
  unfold joinW
  rw [List.take_add_one, h, List.foldl_append]
  rfl
theorem lenW_snoc {S : List ByteArray} {k : Nat} {s : ByteArray} (h : S[k]? = some s) : lenW (S.take k) + s.size + 1 ≤ lenW S := by
  have e : S = S.take (k + 1) ++ S.drop (k + 1) := (List.take_append_drop _ _).symm
  have : lenW S = lenW (S.take (k + 1)) + lenW (S.drop (k + 1)) := by rw [← lenW_append, ← e]
  rw [List.take_add_one, h, lenW_append] at this
  simp only [Option.toList_some, lenW] at this
  omega
theorem addW_first (s : ByteArray) : addW [] s = numsOf s := by unfold addW; simp
theorem addW_next {L : List Int} (h : L ≠ []) (s : ByteArray) : addW L s = L ++ 32 :: numsOf s := by unfold addW; rw [if_neg h]; simp
theorem addW_ne {L : List Int} (h : L ≠ []) (s : ByteArray) : addW L s ≠ [] := by rw [addW_next h]; simp [h]
theorem numL_wf (n : Int) : ∀ c ∈ numL n, 0 ≤ c ∧ c < 256 := fun c hc => by have := numL_chars n c hc; omega
theorem numsOf_numT (n : Int) : numsOf (numT n) = numL n := numsOf_strOfNums (numL_wf n)
theorem numL_size {n : Int} (h : I64 n) : (numL n).length ≤ 21 := by
  obtain ⟨h0, h1⟩ := h
  unfold numL
  split
  · have := decL_length 19 (-n).toNat (by omega); rw [List.length_cons]; omega
  · have := decL_length 19 n.toNat (by omega); omega
theorem numT_size' {n : Int} (h : I64 n) : (numT n).size ≤ 21 := by unfold numT; rw [strOfNums_size]; exact numL_size h
end Go.Proofs.YtdmdjlnpbmiadaaDoor

/-
  Contracts of the laws' own marks on lists of texts. Contract of the laws' own marks over a whole list of texts.
-/
import Derived.WalkSpells
import Derived.WalkLawsBesides
import Derived.Handy
import Derived.Laws.BytesArg
import Derived.Deep.QuietTactic
import Derived.BigQuiet
import Derived.Deep.OwnRows
import Derived.Test.YtiocchmlmcoieaaBase
import Derived.Test.YtiocchmlmcoieaaRegion
import Derived.Test.YtiocchmlmcoieaaDrawN
import Derived.Test.YtiocchmlmcoieaaMem
/- Contracts of the laws' own marks on lists of texts. -/
namespace Go.Proofs.Ytiocchmlmcoieaa
open Go.RowKit

/-- What a mark's text is, is not asked: some text; nothing that was there is written. -/
def Marked (w : World) (e : Ending) (w' : World) : Prop := ∃ s : ByteArray, e = .returned (.string s) ∧ Below w.heap.size w w'
set_option maxHeartbeats 1000000 in
theorem markText_any (w : World) (k : Int) (hk0 : 0 ≤ k) (hk : k ≤ 1000000000) : Calls Try.prog 65 #[.int .i64 k] w (Marked w) := by
  by_cases hz : k < 1
  · have hfin : ∀ s, Marked w (.returned (.string s)) w := fun s => ⟨s, rfl, Below.refl _ _⟩
    have HF := hidden hfin
    clear hfin
    go_enter Try.func65, Try.ntmps65
    go_wp2
    go_ret
    exact HF.out _
  have hp : 0 < k := by omega
  go_enter Try.func65, Try.ntmps65
  go_wp2
  have hcv : ∀ (y : Int) (W : World), (convert 22 9 (.slice (some ⟨W.heap.size, 0, none⟩) 1 1)).run Try.prog (W.alloc (.cells #[.int .u8 y] 5)) = .ok (.string (strOfNums [y])) (W.alloc (.cells #[.int .u8 y] 5)) := fun y W =>
    run_convert_bytes_arg (P := Try.prog) _ 22 5 Try.underlying22 Try.underlying5 W.heap.size 0 1 1 [y] rfl (fun i hi => by
      have : i = 0 := by omega
      subst this
      rw [(Has.new W 5 #[.int .u8 y]).cell]
      rfl) 9 Try.underlying9
  have HCV := hidden hcv
  clear hcv
  go_loopw [0, 3] (fun m v wr => ∃ (x : Int) (s : ByteArray), m = .int .i64 x ∧ v = .string s ∧ 0 ≤ x ∧ (s.size : Int) + x ≤ k ∧ Below w.heap.size w wr) (fun m _ _ => (intOf m).toNat)
  case atStart => exact ⟨k, ⟨#[]⟩, rfl, rfl, hk0, by simp [ByteArray.size], Below.refl _ _⟩
  case round =>
    obtain ⟨x, s, rfl, rfl, hx0, hsx, hb⟩ := hrel
    by_cases hx : 0 < x
    · have hcv := HCV.out
      have hy : ¬ 9223372036854775807 < (strOfNums [48 + x % 10]).size + s.size := by rw [strOfNums_size]; simp; omega
      have hz : (strOfNums [48 + x % 10]).size = 1 := by rw [strOfNums_size]; rfl
      have hx1 : x ≤ 1000000000 := by omega
      have HZ := hidden hz
      clear hz
      go_wp2
      go_roundw
      case rel => exact ⟨x / 10, strOfNums [48 + x % 10] ++ s, rfl, rfl, by omega, by rw [ByteArray.size_append, HZ.out]; omega, hb.alloc hb.size _⟩
      case measure => simp [intOf]; omega
    · have hx' : ¬ 0 < x := hx
      have hs1 : s.size ≤ 1000000000 := by omega
      have hfin : ∀ t, Marked w (.returned (.string t)) wr := fun t => ⟨t, rfl, hb⟩
      have HF := hidden hfin
      clear hfin
      go_wp2
      go_ret
      exact HF.out _

end Go.Proofs.Ytiocchmlmcoieaa
/- Contract of the laws' own marks over a whole list of texts. -/
namespace Go.Proofs.Ytiocchmlmcoieaa
open Go.RowKit

/-- A list of texts, whatever texts they are. -/
def TextsS (cs : Array Value) (n : Nat) : Prop := cs.size = n ∧ ∀ j, j < n → ∃ s : ByteArray, cs[j]? = some (.string s)
theorem TextsS.put {cs : Array Value} {n : Nat} (h : TextsS cs n) (k : Nat) (s : ByteArray) : TextsS (cs.setIfInBounds k (.string s)) n := by
  refine ⟨by simp [h.1], fun j hj => ?_⟩
  rw [Array.getElem?_setIfInBounds]
  by_cases e : k = j
  · rw [if_pos e, if_pos (by rw [h.1]; omega)]; exact ⟨s, rfl⟩
  · rw [if_neg e]; exact h.2 j hj
theorem TextsS.of (ss : List ByteArray) : TextsS (ss.map Value.string).toArray ss.length := by
  refine ⟨by simp, fun j hj => ⟨ss[j], ?_⟩⟩
  simp [List.getElem?_eq_getElem hj]























































end Go.Proofs.Ytiocchmlmcoieaa

/-
  Contracts of the laws' own marks on lists of texts. Contract of the laws' own marks over a whole list of texts.
-/
import Derived.WalkSpells
import Derived.WalkLawsBesides
import Derived.Handy
import Derived.Laws.BytesArg
import Derived.Deep.QuietTactic
import Derived.BigQuiet
import Derived.Deep.OwnRows
import Derived.Test.YtjakkiidedmifaaBase
import Derived.Test.YtjakkiidedmifaaRegion
import Derived.Test.YtjakkiidedmifaaDrawN
import Derived.Test.YtjakkiidedmifaaMem
/- Contracts of the laws' own marks on lists of texts. -/
namespace Go.Proofs.Ytjakkiidedmifaa
open Go.RowKit

/-- What a mark's text is, is not asked: some text; nothing that was there is written. -/
def Marked (w : World) (e : Ending) (w' : World) : Prop := ∃ s : ByteArray, e = .returned (.string s) ∧ Below w.heap.size w w'
set_option maxHeartbeats 1000000 in
theorem markText_any (w : World) (k : Int) (hk0 : 0 ≤ k) (hk : k ≤ 1000000000) : Calls Try.prog 60 #[.int .i64 k] w (Marked w) := by
  by_cases hz : k < 1
  · have hfin : ∀ s, Marked w (.returned (.string s)) w := fun s => ⟨s, rfl, Below.refl _ _⟩
    have HF := hidden hfin
    clear hfin
    go_enter Try.func60, Try.ntmps60
    go_wp2
    go_ret
    exact HF.out _
  have hp : 0 < k := by omega
  go_enter Try.func60, Try.ntmps60
  go_wp2
  have hcv : ∀ (y : Int) (W : World), (convert 22 9 (.slice (some ⟨W.heap.size, 0, none⟩) 1 1)).run Try.prog (W.alloc (.cells #[.int .u8 y] 5)) = .ok (.string (strOfNums [y])) (W.alloc (.cells #[.int .u8 y] 5)) := fun y W =>
    run_convert_bytes_arg (P := Try.prog) _ 22 5 Try.underlying22 Try.underlying5 W.heap.size 0 1 1 [y] rfl (fun i hi => by
      have : i = 0 := by omega
      subst this
      rw [(Has.new W 5 #[.int .u8 y]).cell]
      rfl) 9 Try.underlying9
  have HCV := hidden hcv
  clear hcv
  go_loopw [0, 3] (fun m v wr => ∃ (x : Int) (s : ByteArray), m = .int .i64 x ∧ v = .string s ∧ 0 ≤ x ∧ (s.size : Int) + x ≤ k ∧ Below w.heap.size w wr) (fun m _ _ => (intOf m).toNat)
  case atStart => exact ⟨k, ⟨#[]⟩, rfl, rfl, hk0, by simp [ByteArray.size], Below.refl _ _⟩
  case round =>
    obtain ⟨x, s, rfl, rfl, hx0, hsx, hb⟩ := hrel
    by_cases hx : 0 < x
    · have hcv := HCV.out
      have hy : ¬ 9223372036854775807 < (strOfNums [48 + x % 10]).size + s.size := by rw [strOfNums_size]; simp; omega
      have hz : (strOfNums [48 + x % 10]).size = 1 := by rw [strOfNums_size]; rfl
      have hx1 : x ≤ 1000000000 := by omega
      have HZ := hidden hz
      clear hz
      go_wp2
      go_roundw
      case rel => exact ⟨x / 10, strOfNums [48 + x % 10] ++ s, rfl, rfl, by omega, by rw [ByteArray.size_append, HZ.out]; omega, hb.alloc hb.size _⟩
      case measure => simp [intOf]; omega
    · have hx' : ¬ 0 < x := hx
      have hs1 : s.size ≤ 1000000000 := by omega
      have hfin : ∀ t, Marked w (.returned (.string t)) wr := fun t => ⟨t, rfl, hb⟩
      have HF := hidden hfin
      clear hfin
      go_wp2
      go_ret
      exact HF.out _

end Go.Proofs.Ytjakkiidedmifaa
/- Contract of the laws' own marks over a whole list of texts. -/
namespace Go.Proofs.Ytjakkiidedmifaa
open Go.RowKit

/-- A list of texts, whatever texts they are. -/
def TextsS (cs : Array Value) (n : Nat) : Prop := cs.size = n ∧ ∀ j, j < n → ∃ s : ByteArray, cs[j]? = some (.string s)
theorem TextsS.put {cs : Array Value} {n : Nat} (h : TextsS cs n) (k : Nat) (s : ByteArray) : TextsS (cs.setIfInBounds k (.string s)) n := by
  refine ⟨by simp [h.1], fun j hj => ?_⟩
  rw [Array.getElem?_setIfInBounds]
  by_cases e : k = j
  · rw [if_pos e, if_pos (by rw [h.1]; omega)]; exact ⟨s, rfl⟩
  · rw [if_neg e]; exact h.2 j hj
theorem TextsS.of (ss : List ByteArray) : TextsS (ss.map Value.string).toArray ss.length := by
  refine ⟨by simp, fun j hj => ⟨ss[j], ?_⟩⟩
  simp [List.getElem?_eq_getElem hj]
set_option maxHeartbeats 1000000 in
theorem markStringS_own (w : World) (g len cap : Nat) (cs : Array Value) (k : Int) (h : Has w g 9 cs) (hs : TextsS cs len) (hk : 0 ≤ k) (hb : k + len ≤ 1000000000) :
    Calls Try.prog 37 #[.slice (some ⟨g, 0, none⟩) len cap, .int .i64 k] w fun e w' => e = .returned (.int .i64 (k + len)) ∧ w.grownBy w' (some g) := by
  have HS := hidden hs
  clear hs
  go_enter Try.func37, Try.ntmps37
  go_wp2
  go_loopw [1, 5] (fun m i wr => ∃ (j : Nat) (c : Array Value) (x : Int), j ≤ len ∧ i = .int .i64 j ∧ m = .int .i64 x ∧ Hid (x = k + j) ∧ 0 ≤ x ∧ x ≤ 1000000000 ∧ Hid (TextsS c len) ∧ Has wr g 9 c ∧ w.grownBy wr (some g))
    (fun _ i _ => len - (intOf i).toNat)
  case atStart => exact ⟨0, cs, k, by omega, rfl, rfl, hidden (by simp), hk, by omega, HS, h, World.grownBy.refl w _⟩
  case round =>
    obtain ⟨j, c, x, hj, rfl, rfl, hx, hx0, hx1, hf, hh, hg⟩ := hrel
    clear HS h
    by_cases hlt : j < len
    · have HX : Hid (x + 1 = k + ((j + 1 : Nat) : Int)) := by have := hx.out; show _ = _; omega
      have hx2 : x + 1 ≤ 1000000000 := by have := hx.out; omega
      have hi : (j : Int) < (len : Int) := by omega
      have HF := hf
      have HG := hidden hg
      have HH := hidden hh
      clear hf hg hh hx
      go_wp2_with fail
      refine (markText_any _ x hx0 hx1).mono ?_
      rintro _ w2 ⟨s, rfl, hb2⟩
      have hlt2 := Has.lt (t := 9) (cs := c) HH.out
      have hh2 : Has w2 g 9 c := Has.below HH.out hb2 hlt2
      have hg2 : w.grownBy w2 (some g) := only_trans HG.out ⟨hb2.os, hb2.tape, hb2.output, hb2.size, fun i hi _ => hb2.block i hi⟩
      have hcs : j < c.size := by rw [HF.out.1]; exact hlt
      obtain ⟨s0, hv⟩ := HF.out.2 j hlt
      have eo := hh2.cell j
      rw [hv] at eo
      have ef := hh2.free j
      have hfn := hidden (HF.out.put j s)
      have hput := hh2.put j (.string s)
      have hgp := only_trans hg2 (only_put' (g := g) j (.string s))
      clear HF HG HH hb2 hlt2 hh2 hg2 hcs hv
      go_wp2
      go_roundw
      case rel => exact ⟨j + 1, _, _, by omega, by go_num, rfl, HX, by omega, by omega, hfn, hput, hgp⟩
      case measure => simp [intOf]; omega
    · have hxe : x = k + len := by have := hx.out; omega
      have HE := hidden hxe
      have hlt' : ¬ (j : Int) < (len : Int) := by omega
      clear hf hx hxe
      go_wp2
      go_ret
      exact ⟨ret_int HE.out, hg⟩
theorem markStringS_nil (w : World) (a : Option Addr) (cap : Nat) (k : Int) :
    Calls Try.prog 37 #[.slice a 0 cap, .int .i64 k] w fun e w' => e = .returned (.int .i64 k) ∧ w = w' := by
  go_enter Try.func37, Try.ntmps37
  go_wp2
  go_rounds 1
  go_ret
  exact ⟨rfl, rfl⟩

end Go.Proofs.Ytjakkiidedmifaa

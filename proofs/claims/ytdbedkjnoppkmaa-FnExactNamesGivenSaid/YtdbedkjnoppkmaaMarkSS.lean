/-
  Contract of the laws' own marks over a whole list of texts.
-/
import Derived.Test.YtdbedkjnoppkmaaBase
import Derived.Test.YtdbedkjnoppkmaaRegion
import Derived.Test.YtdbedkjnoppkmaaDrawN
import Derived.WalkSpells
import Derived.WalkLawsBesides
import Derived.Handy
import Derived.Laws.BytesArg
import Derived.Test.YtdbedkjnoppkmaaMarkS
import Derived.Test.YtdbedkjnoppkmaaMem
import Derived.Deep.QuietTactic
import Derived.BigQuiet
import Derived.Deep.OwnRows
namespace Go.Proofs.Ytdbedkjnoppkmaa
open Go.RowKit

/-- A list of texts, whatever texts they are. -/
def TextsS (cs : Array Value) (n : Nat) : Prop := cs.size = n ∧ ∀ j, j < n → ∃ s : ByteArray, cs[j]? = some (.string s)
theorem TextsS.put {cs : Array Value} {n : Nat} (h : TextsS cs n) (k : Nat) (s : ByteArray) : TextsS (cs.setIfInBounds k (.string s)) n := by
  refine ⟨by simp [h.1], fun j hj => ?_⟩
  rw [Array.getElem?_setIfInBounds]
  by_cases e : k = j
  · rw [if_pos e, if_pos (by rw [h.1]; omega)]; exact ⟨s, rfl⟩
  · rw [if_neg e]; exact h.2 j hj
theorem TextsS.of (ss : List ByteArray) : TextsS (ss.map Value.string).toArray ss.length := by
  refine ⟨by simp, fun j hj => ⟨ss[j], ?_⟩⟩
  simp [List.getElem?_eq_getElem hj]
set_option maxHeartbeats 1000000 in
theorem markStringS_own (w : World) (g len cap : Nat) (cs : Array Value) (k : Int) (h : Has w g 9 cs) (hs : TextsS cs len) (hk : 0 ≤ k) (hb : k + len ≤ 1000000000) :
    Calls Try.prog 32 #[.slice (some ⟨g, 0, none⟩) len cap, .int .i64 k] w fun e w' => e = .returned (.int .i64 (k + len)) ∧ w.grownBy w' (some g) := by
  have HS := hidden hs
  clear hs
  go_enter Try.func32, Try.ntmps32
  go_wp2
  go_loopw [1, 5] (fun m i wr => ∃ (j : Nat) (c : Array Value) (x : Int), j ≤ len ∧ i = .int .i64 j ∧ m = .int .i64 x ∧ Hid (x = k + j) ∧ 0 ≤ x ∧ x ≤ 1000000000 ∧ Hid (TextsS c len) ∧ Has wr g 9 c ∧ w.grownBy wr (some g))
    (fun _ i _ => len - (intOf i).toNat)
  case atStart => exact ⟨0, cs, k, by omega, rfl, rfl, hidden (by simp), hk, by omega, HS, h, World.grownBy.refl w _⟩
  case round =>
    obtain ⟨j, c, x, hj, rfl, rfl, hx, hx0, hx1, hf, hh, hg⟩ := hrel
    clear HS h
    by_cases hlt : j < len
    · have HX : Hid (x + 1 = k + ((j + 1 : Nat) : Int)) := by have := hx.out; show _ = _; omega
      have hx2 : x + 1 ≤ 1000000000 := by have := hx.out; omega
      have hi : (j : Int) < (len : Int) := by omega
      have HF := hf
      have HG := hidden hg
      have HH := hidden hh
      clear hf hg hh hx
      go_wp2_with fail
      refine (markText_any _ x hx0 hx1).mono ?_
      rintro _ w2 ⟨s, rfl, hb2⟩
      have hlt2 := Has.lt (t := 9) (cs := c) HH.out
      have hh2 : Has w2 g 9 c := Has.below HH.out hb2 hlt2
      have hg2 : w.grownBy w2 (some g) := only_trans HG.out ⟨hb2.os, hb2.tape, hb2.output, hb2.size, fun i hi _ => hb2.block i hi⟩
      have hcs : j < c.size := by rw [HF.out.1]; exact hlt
      obtain ⟨s0, hv⟩ := HF.out.2 j hlt
      have eo := hh2.cell j
      rw [hv] at eo
      have ef := hh2.free j
      have hfn := hidden (HF.out.put j s)
      have hput := hh2.put j (.string s)
      have hgp := only_trans hg2 (only_put' (g := g) j (.string s))
      clear HF HG HH hb2 hlt2 hh2 hg2 hcs hv
      go_wp2
      go_roundw
      case rel => exact ⟨j + 1, _, _, by omega, by go_num, rfl, HX, by omega, by omega, hfn, hput, hgp⟩
      case measure => simp [intOf]; omega
    · have hxe : x = k + len := by have := hx.out; omega
      have HE := hidden hxe
      have hlt' : ¬ (j : Int) < (len : Int) := by omega
      clear hf hx hxe
      go_wp2
      go_ret
      exact ⟨ret_int HE.out, hg⟩
theorem markStringS_nil (w : World) (a : Option Addr) (cap : Nat) (k : Int) :
    Calls Try.prog 32 #[.slice a 0 cap, .int .i64 k] w fun e w' => e = .returned (.int .i64 k) ∧ w = w' := by
  go_enter Try.func32, Try.ntmps32
  go_wp2
  go_rounds 1
  go_ret
  exact ⟨rfl, rfl⟩

end Go.Proofs.Ytdbedkjnoppkmaa

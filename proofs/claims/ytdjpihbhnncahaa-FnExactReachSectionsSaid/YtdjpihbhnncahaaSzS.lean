/-
  Contract of the laws' own size of a list of texts.
-/
import Derived.Test.YtdjpihbhnncahaaBase
import Derived.Test.YtdjpihbhnncahaaRegion
import Derived.Test.YtdjpihbhnncahaaDrawN
import Derived.WalkSpells
import Derived.WalkLawsBesides
import Derived.Handy
import Derived.Laws.BytesArg
namespace Go.Proofs.Ytdjpihbhnncahaa
open Go.RowKit

/-- What the size of a list of texts tells: where it is not negative, the list and its texts are short. -/
def Sized (w : World) (ss : List ByteArray) (left : Int) (e : Ending) (w' : World) : Prop := ∃ r : Int, e = .returned (.int .i64 r) ∧ w = w' ∧ -1 ≤ r ∧ r ≤ left ∧ (0 ≤ r → (ss.length : Int) ≤ left ∧ ∀ s ∈ ss, (s.size : Int) ≤ left)
set_option maxHeartbeats 1000000 in
theorem szStringS_any (w : World) (B : Nat) (a : Option Addr) (c n : Nat) (ss : List ByteArray) (hn : n = ss.length) (h : Vals w B a (ss.map Value.string)) (hmax : n ≤ 9223372036854775807) (hs : ∀ s ∈ ss, s.size ≤ maxLen) (left : Int) (hl0 : 0 ≤ left) (hl1 : left ≤ 1048576) :
    Calls Try.prog 20 #[.slice a n c, .int .i64 left] w (Sized w ss left) := by
  have HL := hidden hn
  have HS := hidden hs
  clear hn hs
  by_cases hbig : left < (n : Int)
  · have hfin : Hid (Sized w ss left (.returned (.int .i64 (-1))) w) := ⟨-1, rfl, rfl, by omega, by omega, fun h => by omega⟩
    go_enter Try.func20, Try.ntmps20
    go_wp2
    go_ret
    exact hfin.out
  have hnl : (n : Int) ≤ left := by omega
  clear hbig
  go_enter Try.func20, Try.ntmps20
  go_wp2
  go_loop [1, 5] (fun m i => ∃ (k : Nat) (x : Int), k ≤ n ∧ i = .int .i64 k ∧ m = .int .i64 x ∧ 0 ≤ x ∧ x ≤ left ∧ Hid (∀ j s, j < k → ss[j]? = some s → (s.size : Int) ≤ left)) (fun _ i => n - (intOf i).toNat)
  case atStart => exact ⟨0, left - n, by omega, rfl, rfl, by omega, by omega, hidden (by intro j s hj; omega)⟩
  case round =>
    obtain ⟨k, x, hk, rfl, rfl, hx0, hx1, hall⟩ := hrel
    by_cases hlt : k < n
    · have hkL : k < ss.length := by rw [← HL.out]; exact hlt
      have hll : k < (ss.map Value.string).length := by simpa using hkL
      obtain ⟨b1, o1, rfl, _, e1⟩ := h.at_ hll
      have hm : (ss.map Value.string)[k] = .string ss[k] := List.getElem_map ..
      have hsz := HS.out _ (List.getElem_mem hkL)
      have HSK : Hid (ss[k]? = some ss[k]) := List.getElem?_eq_getElem hkL
      rw [hm] at e1
      obtain ⟨s, hs⟩ : ∃ s, ss[k] = s := ⟨_, rfl⟩
      rw [hs] at e1 hsz HSK
      have hsz' : s.size ≤ 9223372036854775807 := by unfold maxLen at hsz; omega
      clear hm hs h hll hkL hsz
      have hi : (k : Int) < (n : Int) := by omega
      by_cases hb : x < (s.size : Int)
      · have hfin : Hid (Sized w ss left (.returned (.int .i64 (-1))) w) := ⟨-1, rfl, rfl, by omega, by omega, fun h => by omega⟩
        clear hall HSK
        go_wp2
        go_ret
        exact hfin.out
      · have hb' : (s.size : Int) ≤ x := by omega
        have HN : Hid (∀ j t, j < k + 1 → ss[j]? = some t → (t.size : Int) ≤ left) := fun j t hj ht => by
          rcases Nat.lt_or_ge j k with h1 | h1
          · exact hall.out j t h1 ht
          · have : j = k := by omega
            subst this
            rw [HSK.out] at ht; injection ht with ht; subst ht; omega
        clear hall HSK hb
        go_wp2
        go_round
        case rel => exact ⟨k + 1, _, by omega, by go_num, rfl, by omega, by omega, HN⟩
        case measure => simp [intOf]; omega
    · have hfin : Hid (Sized w ss left (.returned (.int .i64 x)) w) := ⟨x, rfl, rfl, by omega, hx1, fun _ => ⟨by rw [← HL.out]; exact hnl, fun s hs => by
        obtain ⟨j, hj, he⟩ := List.getElem_of_mem hs
        exact hall.out j s (by rw [← HL.out] at hj; omega) (by rw [List.getElem?_eq_getElem hj, he])⟩⟩
      have hi : ¬ (k : Int) < (n : Int) := by omega
      clear hall
      go_wp2
      go_ret
      exact hfin.out

end Go.Proofs.Ytdjpihbhnncahaa

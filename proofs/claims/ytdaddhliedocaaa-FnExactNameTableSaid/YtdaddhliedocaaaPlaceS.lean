/-
  Contract of spec.PlaceOf.
-/
import Derived.Test.YtdaddhliedocaaaNameAtS
import Derived.Test.YtdaddhliedocaaaNames
namespace Go.Proofs.Ytdaddhliedocaaa
open Go.RowKit

theorem firstAt_hit {l : List Int} {s : ByteArray} {k n : Nat} {t : List Int} (h : textAt l k = some t) (hs : strOfNums t = s) : firstAt l s k (n + 1) = k := by
  simp [firstAt, h, hs]
theorem firstAt_miss {l : List Int} {s : ByteArray} {k n : Nat} {t : List Int} (h : textAt l k = some t) (hs : strOfNums t ≠ s) : firstAt l s k (n + 1) = firstAt l s (k + 1) n := by
  simp [firstAt, h, hs]
theorem firstAt_none {l : List Int} {s : ByteArray} {k n : Nat} (h : textAt l k = none) : firstAt l s k (n + 1) = firstAt l s (k + 1) n := by
  simp [firstAt, h]
set_option maxHeartbeats 2000000 in
theorem placeOf'_any (w : World) (B : Nat) (a : Option Addr) (cap : Nat) (l : List Int) (h : Ints w .u8 B a l) (hcap : l.length ≤ cap) (hmax : cap ≤ 9223372036854775807) (s : ByteArray) (hs : s.size ≤ maxLen) :
    Calls Try.prog 25 #[.slice a l.length cap, .string s] w fun e w' => e = .returned (.int .i64 (firstAt l s 0 l.length)) ∧ w = w' := by
  obtain ⟨len, hL⟩ : ∃ n, n = l.length := ⟨_, rfl⟩
  have hc1 : len ≤ cap := by omega
  have HL := hidden hL
  have HN := hidden (fun k : Nat => nameAt'_any w B a cap l h hcap hmax (k : Int))
  clear h hcap
  rw [← hL]
  clear hL
  go_enter Try.func25, Try.ntmps25
  go_wp2
  go_loop [5] (fun i => ∃ k : Nat, k ≤ len ∧ i = .int .i64 k ∧ Hid (firstAt l s 0 len = firstAt l s k (len - k))) (fun i => len - (intOf i).toNat)
  case atStart => exact ⟨0, Nat.zero_le _, rfl, hidden (by simp)⟩
  case round =>
    obtain ⟨k, hk, rfl, hf⟩ := hrel
    by_cases hlt : k < len
    · have hi : (k : Int) < (len : Int) := by omega
      have hn := HN.out k
      rw [← HL.out] at hn
      have hs1 : len - k = (len - (k + 1)) + 1 := by omega
      rcases ht : textAt l (k : Int) with _ | t
      · have HF : Hid (firstAt l s 0 len = firstAt l s (k + 1) (len - (k + 1))) := by show _ = _; rw [hf.out, hs1, firstAt_none ht]
        rw [ht] at hn
        have HNN := hidden hn
        clear hn ht hs1 hf
        go_wp2_with fail
        refine HNN.out.mono ?_
        clear HNN
        rintro e _ ⟨rfl, rfl⟩
        unfold textVal
        go_wp2_with fail
        go_round
        case rel => exact ⟨k + 1, by omega, by go_num, HF⟩
        case measure => simp [intOf]; omega
      · rw [ht] at hn
        have HNN := hidden hn
        clear hn
        by_cases he : strOfNums t = s
        · have HF : Hid (firstAt l s 0 len = k) := by show _ = _; rw [hf.out, hs1, firstAt_hit ht he]
          clear ht hs1 hf
          subst he
          go_wp2_with fail
          refine HNN.out.mono ?_
          clear HNN
          rintro e _ ⟨rfl, rfl⟩
          unfold textVal
          go_wp2_with fail
          go_ret
          exact ⟨ret_int HF.out.symm, rfl⟩
        · have HF : Hid (firstAt l s 0 len = firstAt l s (k + 1) (len - (k + 1))) := by show _ = _; rw [hf.out, hs1, firstAt_miss ht he]
          obtain ⟨u, hu⟩ : ∃ u, strOfNums t = u := ⟨_, rfl⟩
          have HT : Hid (textVal (some t) = .tuple #[.string u, .bool true]) := by show _ = _; rw [← hu]; rfl
          rw [hu] at he
          clear ht hs1 hf hu
          go_wp2_with fail
          refine HNN.out.mono ?_
          clear HNN
          rintro e _ ⟨rfl, rfl⟩
          rw [HT.out]
          have hne := str_ne he
          clear he HT
          go_wp2_with fail
          go_round
          case rel => exact ⟨k + 1, by omega, by go_num, HF⟩
          case measure => simp [intOf]; omega
    · have hk2 : len - k = 0 := by omega
      have HF : Hid (firstAt l s 0 len = -1) := by show _ = _; rw [hf.out, hk2]; rfl
      have hi : ¬ (k : Int) < (len : Int) := by omega
      clear hf hk2
      go_wp2
      go_ret
      exact ⟨ret_int HF.out.symm, rfl⟩

end Go.Proofs.Ytdaddhliedocaaa

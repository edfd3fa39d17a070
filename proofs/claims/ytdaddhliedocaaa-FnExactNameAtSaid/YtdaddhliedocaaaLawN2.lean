/-
  The walk of FnPlaceOf, over what is wanted of the program.
-/
import Derived.Test.YtdaddhliedocaaaLawN1
namespace Go.Proofs.Ytdaddhliedocaaa
open Go.RowKit

set_option maxHeartbeats 2000000 in
theorem law_PlaceOf (hI : WantNameAt) (hP : WantPlaceOf) (w : World) (a0 : Option Addr) (len cap : Nat) (h : Came w a0 len cap) :
    Calls Try.prog 6 #[.slice a0 len cap] w fun e w' => e = .returned (.bool true) ∧ Below w.heap.size w w' := by
  obtain ⟨l0, h, rfl, hcap, hmax⟩ := h
  by_cases hbig : 1048576 < l0.length
  · have hd : (1048576 : Int) < (l0.length : Int) := by omega
    go_enter Try.func6, Try.ntmps6
    go_wp2
    go_ret
    exact ⟨rfl, Below.refl _ _⟩
  have hd : ¬ (1048576 : Int) < (l0.length : Int) := by omega
  go_enter Try.func6, Try.ntmps6
  go_wp2_with fail
  refine (drawPlaceOf_any w a0 cap l0 h hcap hmax).mono ?_
  rintro e w1 ⟨a, c, l, s, rfl, hlc, hcm, hi, hl9, hs9, hb⟩
  clear h
  have hcm' : c ≤ 9223372036854775807 := by unfold maxLen at hcm; omega
  have hsm : s.size ≤ maxLen := by unfold maxLen; omega
  go_wp2_with fail
  refine (hP w1 w1.heap.size a c l hi (Nat.le_refl _) hlc hcm' s hsm).mono ?_
  rintro e w2 ⟨rfl, hb2⟩
  have hi2 := hi.below hb2
  go_wp2_with fail
  refine (placeOf'_any w2 w1.heap.size a c l hi2 hlc hcm' s hsm).mono ?_
  rintro e _ ⟨rfl, rfl⟩
  have hB2 := hb2.size
  have HBB := hidden (hb.trans (hb2.mono hb.size))
  have HI := hidden (fun (W : World) (hw : Below w1.heap.size w1 W) (k : Nat) (hk : k ≤ l.length) => hI W w1.heap.size a c l (hi.below hw) hw.size hlc hcm' (k : Int) (by omega) (by omega))
  obtain ⟨len, hL⟩ : ∃ n, n = l.length := ⟨_, rfl⟩
  have HL := hidden hL
  obtain ⟨q, hq⟩ : ∃ q, firstAt l s 0 l.length = q := ⟨_, rfl⟩
  have HQ := hidden hq
  have hl9' : len ≤ 401 := by omega
  rw [hq, ← hL]
  clear hI hP hi hi2 hq hL hlc hl9 hB2 hsm
  go_wp2_with fail
  go_loopw [6] (fun i wr => ∃ k : Nat, k ≤ len ∧ i = .int .i64 k ∧ Hid (q = firstAt l s k (len - k)) ∧ Below w1.heap.size w1 wr) (fun i _ => len - (intOf i).toNat)
  case atStart => exact ⟨0, Nat.zero_le _, rfl, hidden (by rw [← HQ.out, HL.out]; simp), hb2⟩
  case round =>
    obtain ⟨k, hk, rfl, hf, hbr⟩ := hrel
    by_cases hlt : k < len
    · have hi : (k : Int) < (len : Int) := by omega
      have hn := HI.out wr hbr k (by rw [← HL.out]; exact hk)
      rw [← HL.out] at hn
      have hs1 : len - k = (len - (k + 1)) + 1 := by omega
      have hbr' := hidden hbr
      clear hbr
      rcases ht : textAt l (k : Int) with _ | t
      · have HF : Hid (q = firstAt l s (k + 1) (len - (k + 1))) := by show _ = _; rw [hf.out, hs1, firstAt_none ht]
        rw [ht] at hn
        have HNN := hidden hn
        clear hn ht hs1 hf
        go_wp2_with fail
        refine HNN.out.mono ?_
        clear HNN
        rintro e w3 ⟨rfl, hb3⟩
        rw [textVal_none]
        go_wp2_with fail
        go_roundw
        case rel => exact ⟨k + 1, by omega, by go_num, HF, hbr'.out.trans (hb3.mono hbr'.out.size)⟩
        case measure => simp [intOf]; omega
      · rw [ht] at hn
        have HNN := hidden hn
        clear hn
        by_cases he : strOfNums t = s
        · have HF : Hid (q = k) := by show _ = _; rw [hf.out, hs1, firstAt_hit ht he]
          have hbq := beq_str (strOfNums t)
          clear ht hs1 hf
          subst he
          go_wp2_with fail
          refine HNN.out.mono ?_
          clear HNN
          rintro e w3 ⟨rfl, hb3⟩
          rw [textVal_some]
          go_wp2_with fail
          go_ret
          exact ⟨ret_bool (by rw [HF.out]; simp), hb.trans ((hbr'.out.trans (hb3.mono hbr'.out.size)).mono hb.size)⟩
        · have HF : Hid (q = firstAt l s (k + 1) (len - (k + 1))) := by show _ = _; rw [hf.out, hs1, firstAt_miss ht he]
          have hne := str_ne he
          clear ht hs1 hf he
          go_wp2_with fail
          refine HNN.out.mono ?_
          clear HNN
          rintro e w3 ⟨rfl, hb3⟩
          rw [textVal_some]
          go_wp2_with fail
          go_roundw
          case rel => exact ⟨k + 1, by omega, by go_num, HF, hbr'.out.trans (hb3.mono hbr'.out.size)⟩
          case measure => simp [intOf]; omega
    · have hi : ¬ (k : Int) < (len : Int) := by omega
      have hq1 : q = -1 := by rw [hf.out, show len - k = 0 by omega]; rfl
      clear hf
      subst hq1
      have hfin := hidden (hb.trans (hbr.mono hb.size))
      clear hbr
      go_wp2_with fail
      refine (alive_any _).mono ?_
      rintro e _ ⟨rfl, rfl⟩
      go_wp2_with fail
      go_ret
      exact ⟨rfl, hfin.out⟩

end Go.Proofs.Ytdaddhliedocaaa

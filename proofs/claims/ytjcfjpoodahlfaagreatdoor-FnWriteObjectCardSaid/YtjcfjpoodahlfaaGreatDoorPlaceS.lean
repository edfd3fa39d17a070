import Derived.Test.YtjcfjpoodahlfaaGreatDoorBase
namespace Go.Proofs.YtjcfjpoodahlfaaGreatDoor
open Go.RowKit
set_option maxHeartbeats 2000000 in
theorem nameAt'_any (w : World) (B : Nat) (a : Option Addr) (cap : Nat) (l : List Int) (h : Ints w .u8 B a l) (hcap : l.length ≤ cap) (hmax : cap ≤ 9223372036854775807) (n : Int) :
    Calls Tryz.prog 47 #[.slice a l.length cap, .int .i64 n] w fun e w' => e = .returned (textVal (textAt l n)) ∧ w = w' := by
  by_cases hlo : n < 0
  · rw [textAt_out (.inl hlo)]
    clear h
    go_enter Tryz.func47, Tryz.ntmps47
    go_wp2_with (go_at_call 71; (with_reducible refine (l1In_low _ _ _ hlo _).mono ?_); rintro e w' ⟨rfl, rfl⟩)
    go_ret2
    exact ⟨rfl, rfl⟩
  by_cases hhi : (l.length : Int) ≤ n
  · rw [textAt_out (.inr hhi)]
    clear h
    go_enter Tryz.func47, Tryz.ntmps47
    go_wp2_with (go_at_call 71; (with_reducible refine (l1In_high _ _ _ (by omega) _).mono ?_); rintro e w' ⟨rfl, rfl⟩)
    go_ret2
    exact ⟨rfl, rfl⟩
  obtain ⟨m, rfl⟩ := Int.eq_ofNat_of_zero_le (Int.not_lt.mp hlo)
  obtain ⟨b, off, rfl, hb, hc⟩ := h.2 (by omega)
  have hwf := hidden h.1
  have HC := hidden hc
  obtain ⟨len, hL⟩ : ∃ n, n = l.length := ⟨_, rfl⟩
  rw [← hL] at hcap hhi ⊢
  have HL := hidden hL
  clear hL hc h hlo
  have hm : (m : Int) < (len : Int) := by omega
  clear hhi
  go_enter Tryz.func47, Tryz.ntmps47
  go_wp2_with (go_at_call 71; (with_reducible refine (l1In_yes _ _ _ (by omega) (by omega) _).mono ?_); rintro e w' ⟨rfl, rfl⟩)
  go_loop [6] (fun i => ∃ k : Nat, m ≤ k ∧ k ≤ len ∧ i = .int .i64 k ∧ Hid (∀ j, m ≤ j → j < k → l.getD j 0 ≠ 0)) (fun i => len - (intOf i).toNat)
  case atStart => exact ⟨m, Nat.le_refl _, by omega, rfl, hidden (by intro j h1 h2; omega)⟩
  case round =>
    obtain ⟨k, hmk, hk, rfl, hno⟩ := hrel
    by_cases hlt : k < len
    · have e := HC.out k (by rw [← HL.out]; exact hlt)
      have hx := wf_u8.mp (hwf.out (l.getD k 0) (by
        have : k < l.length := by rw [← HL.out]; exact hlt
        simp [List.getD, List.getElem?_eq_getElem this]))
      have hi : (k : Int) < (len : Int) := by omega
      obtain ⟨x, hx'⟩ : ∃ x, l.getD k 0 = x := ⟨_, rfl⟩
      rw [hx'] at e hx
      have HX := hidden hx'
      clear hx'
      by_cases hz : x = 0
      · subst hz
        have hsl : (Instr.slice 22 (.slice (some ⟨b, off, none⟩) len cap) (some (.int .i64 (m : Int))) (some (.int .i64 (k : Int))) none).run Tryz.prog w = .ok (.slice (some ⟨b, off + m, none⟩) (k - m) (cap - m)) w := by
          have ht : Tryz.prog.underlying 22 = some (.slice (Tryz.prog.elem 22)) := by kernel_rfl
          have hz : (sizeOf (Tryz.prog.elem 22)).run Tryz.prog w = .ok 1 w := by kernel_rfl
          have hcm : ¬ cap = m := by omega
          rw [run_slice_lh w 22 (some ⟨b, off, none⟩) len cap ht .i64 .i64 (m : Int) (k : Int) (by omega) (by omega) (by omega), hz]
          simp [Result.andThen, sliced, hcm, Addr.add]
        have hcv := run_convert_bytes_arg (P := Tryz.prog) w 22 5 Tryz.underlying22 Tryz.underlying5 b (off + m) (k - m) (cap - m) ((l.drop m).take (k - m))
          (by rw [List.length_take, List.length_drop, ← HL.out]; omega)
          (fun i hi => by
            rw [Nat.add_assoc, HC.out (m + i) (by rw [← HL.out]; omega)]
            simp [List.getD, hi, List.getElem?_drop]) 9 Tryz.underlying9
        have HT : Hid (textAt l m = some ((l.drop m).take (k - m))) := textAt_found hmk (by rw [← HL.out]; exact hlt) HX.out hno.out
        clear HX hno
        go_wp2
        go_ret2
        exact ⟨by rw [HT.out]; rfl, rfl⟩
      · have hz' : (x == 0) = false := by simpa using hz
        have HN : Hid (∀ j, m ≤ j → j < k + 1 → l.getD j 0 ≠ 0) := fun j h1 h2 => by
          rcases Nat.lt_or_ge j k with h3 | h3
          · exact hno.out j h1 h3
          · have : j = k := by omega
            subst this
            rw [HX.out]; exact hz
        clear HX hno hz
        go_wp2
        go_round
        case rel => exact ⟨k + 1, by omega, by omega, by go_num, HN⟩
        case measure => simp [intOf]; omega
    · have hk2 : k = l.length := by rw [← HL.out]; omega
      have HT : Hid (textAt l m = none) := textAt_none (fun j h1 h2 => hno.out j h1 (by omega))
      have hi : ¬ (k : Int) < (len : Int) := by omega
      clear hno hk2
      go_wp2
      go_ret2
      exact ⟨by rw [HT.out]; rfl, rfl⟩
open Go.RowKit
theorem firstAt_hit {l : List Int} {s : ByteArray} {k n : Nat} {t : List Int} (h : textAt l k = some t) (hs : strOfNums t = s) : firstAt l s k (n + 1) = k := by
  simp [firstAt, h, hs]
theorem firstAt_miss {l : List Int} {s : ByteArray} {k n : Nat} {t : List Int} (h : textAt l k = some t) (hs : strOfNums t ≠ s) : firstAt l s k (n + 1) = firstAt l s (k + 1) n := by
  simp [firstAt, h, hs]
theorem firstAt_none {l : List Int} {s : ByteArray} {k n : Nat} (h : textAt l k = none) : firstAt l s k (n + 1) = firstAt l s (k + 1) n := by
  simp [firstAt, h]
set_option maxHeartbeats 2000000 in
theorem placeOf'_any (w : World) (B : Nat) (a : Option Addr) (cap : Nat) (l : List Int) (h : Ints w .u8 B a l) (hcap : l.length ≤ cap) (hmax : cap ≤ 9223372036854775807) (s : ByteArray) (hs : s.size ≤ maxLen) :
    Calls Tryz.prog 37 #[.slice a l.length cap, .string s] w fun e w' => e = .returned (.int .i64 (firstAt l s 0 l.length)) ∧ w = w' := by
  obtain ⟨len, hL⟩ : ∃ n, n = l.length := ⟨_, rfl⟩
  have hc1 : len ≤ cap := by omega
  have HL := hidden hL
  have HN := hidden (fun k : Nat => nameAt'_any w B a cap l h hcap hmax (k : Int))
  clear h hcap
  rw [← hL]
  clear hL
  go_enter Tryz.func37, Tryz.ntmps37
  go_wp2
  go_loop [5] (fun i => ∃ k : Nat, k ≤ len ∧ i = .int .i64 k ∧ Hid (firstAt l s 0 len = firstAt l s k (len - k))) (fun i => len - (intOf i).toNat)
  case atStart => exact ⟨0, Nat.zero_le _, rfl, hidden (by simp)⟩
  case round =>
    obtain ⟨k, hk, rfl, hf⟩ := hrel
    by_cases hlt : k < len
    · have hi : (k : Int) < (len : Int) := by omega
      have hn := HN.out k
      rw [← HL.out] at hn
      have hs1 : len - k = (len - (k + 1)) + 1 := by omega
      rcases ht : textAt l (k : Int) with _ | t
      · have HF : Hid (firstAt l s 0 len = firstAt l s (k + 1) (len - (k + 1))) := by show _ = _; rw [hf.out, hs1, firstAt_none ht]
        rw [ht] at hn
        have HNN := hidden hn
        clear hn ht hs1 hf
        go_wp2_with fail
        refine HNN.out.mono ?_
        clear HNN
        rintro e _ ⟨rfl, rfl⟩
        unfold textVal
        go_wp2_with fail
        go_round
        case rel => exact ⟨k + 1, by omega, by go_num, HF⟩
        case measure => simp [intOf]; omega
      · rw [ht] at hn
        have HNN := hidden hn
        clear hn
        by_cases he : strOfNums t = s
        · have HF : Hid (firstAt l s 0 len = k) := by show _ = _; rw [hf.out, hs1, firstAt_hit ht he]
          clear ht hs1 hf
          subst he
          go_wp2_with fail
          refine HNN.out.mono ?_
          clear HNN
          rintro e _ ⟨rfl, rfl⟩
          unfold textVal
          go_wp2_with fail
          go_ret
          exact ⟨ret_int HF.out.symm, rfl⟩
        · have HF : Hid (firstAt l s 0 len = firstAt l s (k + 1) (len - (k + 1))) := by show _ = _; rw [hf.out, hs1, firstAt_miss ht he]
          obtain ⟨u, hu⟩ : ∃ u, strOfNums t = u := ⟨_, rfl⟩
          have HT : Hid (textVal (some t) = .tuple #[.string u, .bool true]) := by show _ = _; rw [← hu]; rfl
          rw [hu] at he
          clear ht hs1 hf hu
          go_wp2_with fail
          refine HNN.out.mono ?_
          clear HNN
          rintro e _ ⟨rfl, rfl⟩
          rw [HT.out]
          have hne := str_ne he
          clear he HT
          go_wp2_with fail
          go_round
          case rel => exact ⟨k + 1, by omega, by go_num, HF⟩
          case measure => simp [intOf]; omega
    · have hk2 : len - k = 0 := by omega
      have HF : Hid (firstAt l s 0 len = -1) := by show _ = _; rw [hf.out, hk2]; rfl
      have hi : ¬ (k : Int) < (len : Int) := by omega
      clear hf hk2
      go_wp2
      go_ret
      exact ⟨ret_int HF.out.symm, rfl⟩

import Derived.Lib.IndexLaws
import Derived.Test.YtjcfjpoodahlfaaGreatDoorPlaceS
import Derived.Test.YtjcfjpoodahlfaaGreatDoorShelf
namespace Go.Proofs.YtjcfjpoodahlfaaGreatDoor
open Go.RowKit
theorem size_strOfNums (t : List Int) : (strOfNums t).size = t.length := by
  unfold strOfNums
  show (Array.size _) = _
  simp
theorem firstAt_skip {l : List Int} {s : ByteArray} : ∀ (n f m : Nat), n = m - f → f ≤ m → m ≤ l.length → (∀ k, f ≤ k → k < m → (textAt l (k : Int)).map strOfNums ≠ some s) → firstAt l s f (l.length - f) = firstAt l s m (l.length - m) := by
  intro n
  induction n with
  | zero => intro f m hn h1 h2 _; have : f = m := by omega
            subst this; rfl
  | succ n ih =>
    intro f m hn h1 h2 h
    have e : l.length - f = (l.length - (f + 1)) + 1 := by omega
    rw [e]
    show (if (textAt l (f : Int)).map strOfNums = some s then (f : Int) else firstAt l s (f + 1) (l.length - (f + 1))) = _
    rw [if_neg (h f (Nat.le_refl _) (by omega))]
    exact ih (f + 1) m (by omega) (by omega) h2 (fun k h3 h4 => h k (by omega) h4)
theorem firstAt_here {l : List Int} {s : ByteArray} {m : Nat} (hm : m < l.length) (h : (textAt l (m : Int)).map strOfNums = some s) : firstAt l s m (l.length - m) = m := by
  have e : l.length - m = (l.length - (m + 1)) + 1 := by omega
  rw [e]
  show (if (textAt l (m : Int)).map strOfNums = some s then (m : Int) else firstAt l s (m + 1) (l.length - (m + 1))) = _
  rw [if_pos h]
theorem textAt_size {l : List Int} {s : ByteArray} {f e k : Nat} (he : e < l.length) (h0 : l.getD e 0 = 0) (hno : ∀ j, f ≤ j → j < e → l.getD j 0 ≠ 0) (h1 : f ≤ k) (h2 : k ≤ e) (hs : k + s.size ≠ e) : (textAt l (k : Int)).map strOfNums ≠ some s := by
  rw [textAt_found h2 he h0 (fun j h3 h4 => hno j (by omega) h4)]
  intro hh
  simp only [Option.map_some, Option.some.injEq] at hh
  have hz := congrArg ByteArray.size hh
  rw [size_strOfNums] at hz
  simp at hz
  omega
set_option maxHeartbeats 1000000 in
theorem placeOf_any (w : World) (B : Nat) (a : Option Addr) (cap : Nat) (l : List Int) (h : Ints w .u8 B a l) (hcap : l.length ≤ cap) (hmax : cap ≤ 9223372036854775807) (s : ByteArray) (hs : s.size ≤ maxLen) :
    Calls Tryz.prog 98 #[.slice a l.length cap, .string s] w fun e w' => e = .returned (.int .i64 (firstAt l s 0 l.length)) ∧ w = w' := by
  unfold maxLen at hs
  obtain ⟨len, hL⟩ : ∃ n, n = l.length := ⟨_, rfl⟩
  rw [← hL] at hcap ⊢
  have HL := hidden hL
  have HI := hidden h
  clear h hL
  go_enter Tryz.func98, Tryz.ntmps98
  go_wp2
  go_loop [5, 11] (fun g i => ∃ f k : Nat, f ≤ k ∧ k ≤ len ∧ g = .int .i64 f ∧ i = .int .i64 k ∧ Hid (∀ j, f ≤ j → j < k → l.getD j 0 ≠ 0) ∧ Hid (firstAt l s 0 len = firstAt l s f (len - f))) (fun _ i => len - (intOf i).toNat)
  case atStart => exact ⟨0, 0, Nat.zero_le _, Nat.zero_le _, rfl, rfl, hidden (by intro j h1 h2; omega), hidden rfl⟩
  case round =>
    obtain ⟨f, k, hfk, hk, rfl, rfl, hno, hf⟩ := hrel
    by_cases hlt : k < len
    · have hi : (k : Int) < (len : Int) := by omega
      have hkl : k < l.length := by rw [← HL.out]; exact hlt
      obtain ⟨b, off, rfl, hb, hc⟩ := HI.out.2 (by omega)
      have e := hc k hkl
      have hx := wf_u8.mp (HI.out.1 (l.getD k 0) (by simp [List.getD, List.getElem?_eq_getElem hkl]))
      obtain ⟨x, hx'⟩ : ∃ x, l.getD k 0 = x := ⟨_, rfl⟩
      rw [hx'] at e hx
      have HX := hidden hx'
      have HC := hidden hc
      clear hx' hc hb hkl
      by_cases hz : x = 0
      · subst hz
        have HSZ : Hid (∀ m, f ≤ m → m ≤ k → m + s.size ≠ k → (textAt l (m : Int)).map strOfNums ≠ some s) := hidden fun m h1 h2 h3 => textAt_size (by rw [← HL.out]; exact hlt) HX.out hno.out h1 h2 h3
        have HNX : Hid ((∀ m, f ≤ m → m ≤ k → (textAt l (m : Int)).map strOfNums ≠ some s) → firstAt l s 0 len = firstAt l s (k + 1) (len - (k + 1))) := hidden fun hall => by
          rw [hf.out, HL.out]
          exact firstAt_skip _ f (k + 1) rfl (by omega) (by rw [← HL.out]; omega) (fun m h1 h2 => hall m h1 (by omega))
        by_cases hat : f + s.size ≤ k
        · obtain ⟨m, hm⟩ : ∃ m, k = m + s.size := ⟨k - s.size, by omega⟩
          have hA : (k : Int) - (s.size : Int) = (m : Int) := by omega
          have hfm : (f : Int) ≤ (m : Int) := by omega
          have hmk : m ≤ k := by omega
          have hsl : (Instr.slice 22 (.slice (some ⟨b, off, none⟩) len cap) (some (.int .i64 (m : Int))) (some (.int .i64 (k : Int))) none).run Tryz.prog w = .ok (.slice (some ⟨b, off + m, none⟩) (k - m) (cap - m)) w := by
            have ht : Tryz.prog.underlying 22 = some (.slice (Tryz.prog.elem 22)) := by kernel_rfl
            have hz : (sizeOf (Tryz.prog.elem 22)).run Tryz.prog w = .ok 1 w := by kernel_rfl
            have hcm : ¬ cap = m := by omega
            rw [run_slice_lh w 22 (some ⟨b, off, none⟩) len cap ht .i64 .i64 (m : Int) (k : Int) (by omega) (by omega) (by omega), hz]
            simp [Result.andThen, sliced, hcm, Addr.add]
          have hcv := run_convert_bytes_arg (P := Tryz.prog) w 22 5 Tryz.underlying22 Tryz.underlying5 b (off + m) (k - m) (cap - m) ((l.drop m).take (k - m))
            (by rw [List.length_take, List.length_drop, ← HL.out]; omega)
            (fun i hi => by
              rw [Nat.add_assoc, HC.out (m + i) (by rw [← HL.out]; omega)]
              simp [List.getD, hi, List.getElem?_drop]) 9 Tryz.underlying9
          have HT : Hid (textAt l (m : Int) = some ((l.drop m).take (k - m))) := textAt_found hmk (by rw [← HL.out]; exact hlt) HX.out (fun j h1 h2 => hno.out j (by omega) h2)
          obtain ⟨u, hu⟩ : ∃ u, strOfNums ((l.drop m).take (k - m)) = u := ⟨_, rfl⟩
          rw [hu] at hcv
          by_cases he : u = s
          · subst he
            have HF : Hid (firstAt l u 0 len = m) := by
              show _ = _
              rw [hf.out, HL.out, firstAt_skip _ f m rfl (by omega) (by rw [← HL.out]; omega) (fun j h1 h2 => HSZ.out j h1 (by omega) (by omega))]
              exact firstAt_here (by rw [← HL.out]; omega) (by rw [HT.out]; simp [hu])
            clear HX hno HSZ HNX hf HT hu HC hm hfk hat hmk
            go_wp2
            go_ret
            exact ⟨ret_int HF.out.symm, rfl⟩
          · have HF : Hid (firstAt l s 0 len = firstAt l s (k + 1) (len - (k + 1))) := HNX.out fun j h1 h2 => by
              by_cases hj : j = m
              · subst hj; rw [HT.out]; simp [hu, he]
              · exact HSZ.out j h1 h2 (by omega)
            have hne := str_ne he
            clear HX hno HSZ HNX hf HT hu HC hm hfk hat hmk he
            go_wp2
            go_round
            case rel => exact ⟨k + 1, k + 1, Nat.le_refl _, by omega, by go_num, by go_num, hidden (by intro j h1 h2; omega), HF⟩
            case measure => simp [intOf]; omega
        · have HF : Hid (firstAt l s 0 len = firstAt l s (k + 1) (len - (k + 1))) := HNX.out fun j h1 h2 => HSZ.out j h1 h2 (by omega)
          have hge : ¬ (f : Int) ≤ (k : Int) - (s.size : Int) := by omega
          clear HX hno HSZ HNX hf HC hat
          go_wp2
          go_round
          case rel => exact ⟨k + 1, k + 1, Nat.le_refl _, by omega, by go_num, by go_num, hidden (by intro j h1 h2; omega), HF⟩
          case measure => simp [intOf]; omega
      · have hz' : (x == 0) = false := by simpa using hz
        have HN : Hid (∀ j, f ≤ j → j < k + 1 → l.getD j 0 ≠ 0) := fun j h1 h2 => by
          rcases Nat.lt_or_ge j k with h3 | h3
          · exact hno.out j h1 h3
          · have : j = k := by omega
            subst this
            rw [HX.out]; exact hz
        clear HX hno hz HC
        go_wp2
        go_round
        case rel => exact ⟨f, k + 1, by omega, by omega, rfl, by go_num, HN, hf⟩
        case measure => simp [intOf]; omega
    · have hi : ¬ (k : Int) < (len : Int) := by omega
      have hk2 : k = l.length := by rw [← HL.out]; omega
      have HF : Hid (firstAt l s 0 len = -1) := by
        show _ = _
        rw [hf.out, HL.out, firstAt_skip _ f l.length rfl (by omega) (Nat.le_refl _) (fun j h1 h2 => by rw [textAt_none (fun i h3 h4 => hno.out i (by omega) (by omega))]; simp)]
        rw [Nat.sub_self]; rfl
      clear hno hf hk2
      go_wp2
      go_ret
      exact ⟨ret_int HF.out.symm, rfl⟩
open Go.RowKit
theorem index_zero (xs : List Int) (hwf : ∀ x ∈ xs, 0 ≤ x ∧ x < 256) :
    (Lib.indexByte (Lib.bytesOf xs) 0 = -1 ∧ ∀ j, j < xs.length → xs.getD j 0 ≠ 0) ∨
    ∃ k : Nat, Lib.indexByte (Lib.bytesOf xs) 0 = (k : Int) ∧ k < xs.length ∧ xs.getD k 0 = 0 ∧ ∀ j, j < k → xs.getD j 0 ≠ 0 := by
  have hat : ∀ j, j < xs.length → ((Lib.bytesOf xs)[j]? = some 0 ↔ xs.getD j 0 = 0) := fun j hj => by
    have hx := hwf xs[j] (List.getElem_mem hj)
    have e1 : xs.getD j 0 = xs[j] := by simp [List.getD, List.getElem?_eq_getElem hj]
    have e2 : (Lib.bytesOf xs)[j]? = some (UInt8.ofNat xs[j].toNat) := by simp [Lib.bytesOf, List.getElem?_eq_getElem hj]
    rw [e1, e2]
    constructor
    · intro h
      injection h with h
      have h2 := congrArg UInt8.toNat h
      simp at h2
      omega
    · intro h; rw [h]; rfl
  have hge := Lib.indexByte_ge (Lib.bytesOf xs) 0
  by_cases h : Lib.indexByte (Lib.bytesOf xs) 0 = -1
  · exact .inl ⟨h, fun j hj hz => Lib.indexByte_none h j ((hat j hj).2 hz)⟩
  · obtain ⟨k, hk⟩ := Int.eq_ofNat_of_zero_le (show 0 ≤ Lib.indexByte (Lib.bytesOf xs) 0 by omega)
    obtain ⟨h1, h2⟩ := Lib.indexByte_some hk
    have hkl : k < xs.length := by
      have := (List.getElem?_eq_some_iff.1 h1).1
      simpa [Lib.bytesOf] using this
    exact .inr ⟨k, hk, hkl, (hat k hkl).1 h1, fun j hj hz => h2 j hj ((hat j (by omega)).2 hz)⟩
set_option maxHeartbeats 1000000 in
set_option maxRecDepth 100000 in
theorem nameAt_any (w : World) (B : Nat) (a : Option Addr) (cap : Nat) (l : List Int) (h : Ints w .u8 B a l) (hcap : l.length ≤ cap) (hmax : cap ≤ 9223372036854775807) (n : Int) :
    Calls Tryz.prog 117 #[.slice a l.length cap, .int .i64 n] w fun e w' => e = .returned (textVal (textAt l n)) ∧ w = w' := by
  by_cases hlo : n < 0
  · rw [textAt_out (.inl hlo)]
    clear h
    go_enter Tryz.func117, Tryz.ntmps117
    go_wp2_with fail
    go_ret2
    exact ⟨rfl, rfl⟩
  by_cases hhi : (l.length : Int) ≤ n
  · rw [textAt_out (.inr hhi)]
    clear h
    go_enter Tryz.func117, Tryz.ntmps117
    go_wp2_with fail
    go_ret2
    exact ⟨rfl, rfl⟩
  obtain ⟨m, rfl⟩ := Int.eq_ofNat_of_zero_le (Int.not_lt.mp hlo)
  obtain ⟨b, off, rfl, hb, hc⟩ := h.2 (by omega)
  have hwf := hidden h.1
  have HC := hidden hc
  have hml : m < l.length := by omega
  have hidx := index_zero (l.drop m) (fun x hx => wf_u8.mp (h.1 x (List.mem_of_mem_drop hx)))
  have hcall := Tryz.bytes_IndexByte b (off + m) (l.length - m) (cap - m) (l.drop m) 0 w (by rw [List.length_drop]) (fun i hi => by
    rw [Nat.add_assoc, hc (m + i) (by omega)]
    simp [List.getD])
  have e0 : (Int.toNat 0).toUInt8 = 0 := rfl
  rw [e0] at hcall
  have gD : ∀ i, (l.drop m).getD i 0 = l.getD (m + i) 0 := fun i => by simp [List.getD]
  obtain ⟨len, hL⟩ : ∃ n, n = l.length := ⟨_, rfl⟩
  rw [← hL] at hcap hhi hcall ⊢
  have HL := hidden hL
  have HCALL := hidden hcall
  have hsl0 : (Instr.slice 22 (.slice (some ⟨b, off, none⟩) len cap) (some (.int .i64 (m : Int))) none none).run Tryz.prog w = .ok (.slice (some ⟨b, off + m, none⟩) (len - m) (cap - m)) w := by
    have ht : Tryz.prog.underlying 22 = some (.slice (Tryz.prog.elem 22)) := by kernel_rfl
    have hz : (sizeOf (Tryz.prog.elem 22)).run Tryz.prog w = .ok 1 w := by kernel_rfl
    have hcm : ¬ cap = m := by omega
    rw [run_slice_l w 22 (some ⟨b, off, none⟩) len cap ht .i64 (m : Int) (by omega) (by omega), hz]
    simp [Result.andThen, sliced, hcm, Addr.add]
  have hm : (m : Int) < (len : Int) := by omega
  have hm' : ¬ (len : Int) ≤ (m : Int) := by omega
  have hmn : m < len := by omega
  clear hL hc h hlo hcall hhi e0 hml
  rcases hidx with ⟨hi, hno⟩ | ⟨k, hi, hk, hz, hno⟩
  · have HT : Hid (textAt l (m : Int) = none) := textAt_none (fun j h1 h2 => by
      have := hno (j - m) (by rw [List.length_drop]; omega)
      rw [gD, show m + (j - m) = j by omega] at this
      exact this)
    have HI := hidden hi
    clear hno gD hi
    go_enter Tryz.func117, Tryz.ntmps117
    go_wp2_with (go_at_call 123; refine HCALL.out.mono ?_; rw [HI.out]; rintro e w' ⟨rfl, rfl⟩)
    go_ret2
    exact ⟨by rw [HT.out]; rfl, rfl⟩
  · rw [List.length_drop, ← HL.out] at hk
    have hkl : m + k < len := by omega
    have hadd : (m : Int) + (k : Int) = ((m + k : Nat) : Int) := by omega
    have hsl : (Instr.slice 22 (.slice (some ⟨b, off, none⟩) len cap) (some (.int .i64 (m : Int))) (some (.int .i64 ((m : Int) + (k : Int)))) none).run Tryz.prog w = .ok (.slice (some ⟨b, off + m, none⟩) k (cap - m)) w := by
      have ht : Tryz.prog.underlying 22 = some (.slice (Tryz.prog.elem 22)) := by kernel_rfl
      have hz : (sizeOf (Tryz.prog.elem 22)).run Tryz.prog w = .ok 1 w := by kernel_rfl
      have hcm : ¬ cap = m := by omega
      rw [hadd, run_slice_lh w 22 (some ⟨b, off, none⟩) len cap ht .i64 .i64 (m : Int) ((m + k : Nat) : Int) (by omega) (by omega) (by omega), hz]
      simp [Result.andThen, sliced, hcm, Addr.add]
      omega
    have hcv := run_convert_bytes_arg (P := Tryz.prog) w 22 5 Tryz.underlying22 Tryz.underlying5 b (off + m) k (cap - m) ((l.drop m).take k)
      (by rw [List.length_take, List.length_drop, ← HL.out]; omega)
      (fun i hi => by
        rw [Nat.add_assoc, HC.out (m + i) (by rw [← HL.out]; omega)]
        simp [List.getD, hi, List.getElem?_drop]) 9 Tryz.underlying9
    have HT : Hid (textAt l (m : Int) = some ((l.drop m).take k)) := by
      have := textAt_found (l := l) (m := m) (e := m + k) (by omega) (by rw [← HL.out]; exact hkl) (by rw [← gD]; exact hz) (fun j h1 h2 => by
        have := hno (j - m) (by omega)
        rw [gD, show m + (j - m) = j by omega] at this
        exact this)
      rw [Nat.add_sub_cancel_left] at this
      exact this
    have HI := hidden hi
    clear hno gD hi hz hk hadd
    go_enter Tryz.func117, Tryz.ntmps117
    go_wp2_with (go_at_call 123; refine HCALL.out.mono ?_; rw [HI.out]; rintro e w' ⟨rfl, rfl⟩)
    go_ret2
    exact ⟨by rw [HT.out]; rfl, rfl⟩

/-
  Contract of impl.NameAt.
-/
import Derived.Test.YtdaddhliedocaaaIn
import Derived.Test.YtdaddhliedocaaaTexts
import Derived.Test.YtdaddhliedocaaaMem
import Derived.Test.YtdaddhliedocaaaBase
import Derived.Test.YtdaddhliedocaaaShelf
import Derived.Lib.IndexLaws
namespace Go.Proofs.Ytdaddhliedocaaa
open Go.RowKit

/-- The first byte 0 of a list: its place, or that there is none. -/
theorem index_zero (xs : List Int) (hwf : ∀ x ∈ xs, 0 ≤ x ∧ x < 256) :
    (Lib.indexByte (Lib.bytesOf xs) 0 = -1 ∧ ∀ j, j < xs.length → xs.getD j 0 ≠ 0) ∨
    ∃ k : Nat, Lib.indexByte (Lib.bytesOf xs) 0 = (k : Int) ∧ k < xs.length ∧ xs.getD k 0 = 0 ∧ ∀ j, j < k → xs.getD j 0 ≠ 0 := by
  have hat : ∀ j, j < xs.length → ((Lib.bytesOf xs)[j]? = some 0 ↔ xs.getD j 0 = 0) := fun j hj => by
    have hx := hwf xs[j] (List.getElem_mem hj)
    have e1 : xs.getD j 0 = xs[j] := by simp [List.getD, List.getElem?_eq_getElem hj]
    have e2 : (Lib.bytesOf xs)[j]? = some (UInt8.ofNat xs[j].toNat) := by simp [Lib.bytesOf, List.getElem?_eq_getElem hj]
    rw [e1, e2]
    constructor
    · intro h
      injection h with h
      have h2 := congrArg UInt8.toNat h
      simp at h2
      omega
    · intro h; rw [h]; rfl
  have hge := Lib.indexByte_ge (Lib.bytesOf xs) 0
  by_cases h : Lib.indexByte (Lib.bytesOf xs) 0 = -1
  · exact .inl ⟨h, fun j hj hz => Lib.indexByte_none h j ((hat j hj).2 hz)⟩
  · obtain ⟨k, hk⟩ := Int.eq_ofNat_of_zero_le (show 0 ≤ Lib.indexByte (Lib.bytesOf xs) 0 by omega)
    obtain ⟨h1, h2⟩ := Lib.indexByte_some hk
    have hkl : k < xs.length := by
      have := (List.getElem?_eq_some_iff.1 h1).1
      simpa [Lib.bytesOf] using this
    exact .inr ⟨k, hk, hkl, (hat k hkl).1 h1, fun j hj hz => h2 j hj ((hat j (by omega)).2 hz)⟩
set_option maxHeartbeats 1000000 in
theorem nameAt_any (w : World) (B : Nat) (a : Option Addr) (cap : Nat) (l : List Int) (h : Ints w .u8 B a l) (hcap : l.length ≤ cap) (hmax : cap ≤ 9223372036854775807) (n : Int) :
    Calls Try.prog 20 #[.slice a l.length cap, .int .i64 n] w fun e w' => e = .returned (textVal (textAt l n)) ∧ w = w' := by
  by_cases hlo : n < 0
  · rw [textAt_out (.inl hlo)]
    clear h
    go_enter Try.func20, Try.ntmps20
    go_wp2_with fail
    go_ret2
    exact ⟨rfl, rfl⟩
  by_cases hhi : (l.length : Int) ≤ n
  · rw [textAt_out (.inr hhi)]
    clear h
    go_enter Try.func20, Try.ntmps20
    go_wp2_with fail
    go_ret2
    exact ⟨rfl, rfl⟩
  obtain ⟨m, rfl⟩ := Int.eq_ofNat_of_zero_le (Int.not_lt.mp hlo)
  obtain ⟨b, off, rfl, hb, hc⟩ := h.2 (by omega)
  have hwf := hidden h.1
  have HC := hidden hc
  have hml : m < l.length := by omega
  have hidx := index_zero (l.drop m) (fun x hx => wf_u8.mp (h.1 x (List.mem_of_mem_drop hx)))
  have hcall := Try.bytes_IndexByte b (off + m) (l.length - m) (cap - m) (l.drop m) 0 w (by rw [List.length_drop]) (fun i hi => by
    rw [Nat.add_assoc, hc (m + i) (by omega)]
    simp [List.getD])
  have e0 : (Int.toNat 0).toUInt8 = 0 := rfl
  rw [e0] at hcall
  have gD : ∀ i, (l.drop m).getD i 0 = l.getD (m + i) 0 := fun i => by simp [List.getD]
  obtain ⟨len, hL⟩ : ∃ n, n = l.length := ⟨_, rfl⟩
  rw [← hL] at hcap hhi hcall ⊢
  have HL := hidden hL
  have HCALL := hidden hcall
  have hsl0 : (Instr.slice 22 (.slice (some ⟨b, off, none⟩) len cap) (some (.int .i64 (m : Int))) none none).run Try.prog w = .ok (.slice (some ⟨b, off + m, none⟩) (len - m) (cap - m)) w := by
    have ht : Try.prog.underlying 22 = some (.slice (Try.prog.elem 22)) := by kernel_rfl
    have hz : (sizeOf (Try.prog.elem 22)).run Try.prog w = .ok 1 w := by kernel_rfl
    have hcm : ¬ cap = m := by omega
    rw [run_slice_l w 22 (some ⟨b, off, none⟩) len cap ht .i64 (m : Int) (by omega) (by omega), hz]
    simp [Result.andThen, sliced, hcm, Addr.add]
  have hm : (m : Int) < (len : Int) := by omega
  have hm' : ¬ (len : Int) ≤ (m : Int) := by omega
  have hmn : m < len := by omega
  clear hL hc h hlo hcall hhi e0 hml
  rcases hidx with ⟨hi, hno⟩ | ⟨k, hi, hk, hz, hno⟩
  · have HT : Hid (textAt l (m : Int) = none) := textAt_none (fun j h1 h2 => by
      have := hno (j - m) (by rw [List.length_drop]; omega)
      rw [gD, show m + (j - m) = j by omega] at this
      exact this)
    have HI := hidden hi
    clear hno gD hi
    go_enter Try.func20, Try.ntmps20
    go_wp2_with (go_at_call 48; refine HCALL.out.mono ?_; rw [HI.out]; rintro e w' ⟨rfl, rfl⟩)
    go_ret2
    exact ⟨by rw [HT.out]; rfl, rfl⟩
  · rw [List.length_drop, ← HL.out] at hk
    have hkl : m + k < len := by omega
    have hadd : (m : Int) + (k : Int) = ((m + k : Nat) : Int) := by omega
    have hsl : (Instr.slice 22 (.slice (some ⟨b, off, none⟩) len cap) (some (.int .i64 (m : Int))) (some (.int .i64 ((m : Int) + (k : Int)))) none).run Try.prog w = .ok (.slice (some ⟨b, off + m, none⟩) k (cap - m)) w := by
      have ht : Try.prog.underlying 22 = some (.slice (Try.prog.elem 22)) := by kernel_rfl
      have hz : (sizeOf (Try.prog.elem 22)).run Try.prog w = .ok 1 w := by kernel_rfl
      have hcm : ¬ cap = m := by omega
      rw [hadd, run_slice_lh w 22 (some ⟨b, off, none⟩) len cap ht .i64 .i64 (m : Int) ((m + k : Nat) : Int) (by omega) (by omega) (by omega), hz]
      simp [Result.andThen, sliced, hcm, Addr.add]
      omega
    have hcv := run_convert_bytes_arg (P := Try.prog) w 22 5 Try.underlying22 Try.underlying5 b (off + m) k (cap - m) ((l.drop m).take k)
      (by rw [List.length_take, List.length_drop, ← HL.out]; omega)
      (fun i hi => by
        rw [Nat.add_assoc, HC.out (m + i) (by rw [← HL.out]; omega)]
        simp [List.getD, hi, List.getElem?_drop]) 9 Try.underlying9
    have HT : Hid (textAt l (m : Int) = some ((l.drop m).take k)) := by
      have := textAt_found (l := l) (m := m) (e := m + k) (by omega) (by rw [← HL.out]; exact hkl) (by rw [← gD]; exact hz) (fun j h1 h2 => by
        have := hno (j - m) (by omega)
        rw [gD, show m + (j - m) = j by omega] at this
        exact this)
      rw [Nat.add_sub_cancel_left] at this
      exact this
    have HI := hidden hi
    clear hno gD hi hz hk hadd
    go_enter Try.func20, Try.ntmps20
    go_wp2_with (go_at_call 48; refine HCALL.out.mono ?_; rw [HI.out]; rintro e w' ⟨rfl, rfl⟩)
    go_ret2
    exact ⟨by rw [HT.out]; rfl, rfl⟩

end Go.Proofs.Ytdaddhliedocaaa

/-
  The walk of FnNameValid, over what is wanted of the program.
-/
import Derived.Test.YtdaddhliedocaaaWant2
import Derived.Test.YtdaddhliedocaaaCame
import Derived.Test.YtdaddhliedocaaaAlign
import Derived.Test.YtdaddhliedocaaaNames
import Derived.Test.YtdaddhliedocaaaNameS
import Derived.Test.YtdaddhliedocaaaDrawN
import Derived.WalkSpells
import Derived.WalkLawsBesides
import Derived.Handy
import Derived.Laws.DeepStrings4
namespace Go.Proofs.Ytdaddhliedocaaa
open Go.RowKit

theorem nameOk_space (s : ByteArray) : nameOk (s ++ ⟨#[32]⟩).data.toList = false := by
  have hd : (s ++ ⟨#[32]⟩).data.toList = s.data.toList ++ [32] := by rw [ByteArray.data_append, Array.toList_append]
  rw [hd]
  refine nameOk_bad (k := s.data.toList.length) (by simp) ?_
  unfold okAt
  simp [List.getD, letterC, digitC]
theorem nameOk_first {s : ByteArray} (h : nameOk s.data.toList = true) : nameOk (s.extract 0 1).data.toList = true := by
  rw [nameOk_iff] at h ⊢
  obtain ⟨⟨h1, _⟩, h2⟩ := h
  have hd : (s.extract 0 1).data.toList = s.data.toList.take 1 := by rw [ByteArray.data_extract, Array.toList_extract, List.extract_eq_take_drop]; rfl
  rw [hd, List.length_take]
  refine ⟨⟨by omega, by omega⟩, fun k hk => ?_⟩
  have hk0 : k = 0 := by omega
  subst hk0
  have h3 := h2 0 (by omega)
  unfold okAt at h3 ⊢
  have hg : (s.data.toList.take 1).getD 0 0 = s.data.toList.getD 0 0 := by simp [List.getD]
  rw [hg]; exact h3
set_option maxHeartbeats 300000 in
theorem law_NameValid (hN : WantNameValid) (w : World) (a0 : Option Addr) (len cap : Nat) (h : Came w a0 len cap) :
    Calls Try.prog 3 #[.slice a0 len cap] w fun e w' => e = .returned (.bool true) ∧ Below w.heap.size w w' := by
  obtain ⟨l0, h, rfl, hcap, hmax⟩ := h
  by_cases hbig : 1048576 < l0.length
  · have hd : (1048576 : Int) < (l0.length : Int) := by omega
    go_enter Try.func3, Try.ntmps3
    go_wp2
    go_ret
    exact ⟨rfl, Below.refl _ _⟩
  have hd : ¬ (1048576 : Int) < (l0.length : Int) := by omega
  go_enter Try.func3, Try.ntmps3
  go_wp2_with fail
  refine (drawNameValid_any w a0 cap l0 h hcap hmax).mono ?_
  rintro e w1 ⟨s, rfl, hs9, hb⟩
  clear h
  have hsm : s.size ≤ maxLen := by unfold maxLen; omega
  go_wp2_with fail
  refine (hN w1 s hsm).mono ?_
  rintro e w2 ⟨rfl, hb2⟩
  go_wp2_with fail
  refine (nameValid'_any s w2 hsm).mono ?_
  rintro e _ ⟨rfl, rfl⟩
  have hb12 := hb.trans (hb2.mono hb.size)
  have hc := hN w2 (s ++ ⟨#[32]⟩) (by rw [ByteArray.size_append]; unfold maxLen; have : (⟨#[32]⟩ : ByteArray).size = 1 := rfl; omega)
  rw [nameOk_space] at hc
  have HC := hidden hc
  have HB := hidden hb12
  have HN := hidden hN
  have hcc : ¬ 9223372036854775807 < s.size + (⟨#[32]⟩ : ByteArray).size := by have : (⟨#[32]⟩ : ByteArray).size = 1 := rfl; omega
  have hcc1 : ¬ 9223372036854775807 < s.size + 1 := by omega
  clear hc hb hb2 hb12 hN hsm
  rcases hok : nameOk s.data.toList with _ | _
  · clear hok
    go_wp2_with fail
    refine HC.out.mono ?_
    rintro e w3 ⟨rfl, hb3⟩
    have hb23 := hidden (HB.out.trans (hb3.mono HB.out.size))
    clear hb3 HC HB
    go_wp2_with fail
    refine (alive_any _).mono ?_
    rintro e _ ⟨rfl, rfl⟩
    go_wp2_with fail
    go_ret
    exact ⟨rfl, hb23.out⟩
  · have hf := nameOk_first hok
    have hs1 : 1 ≤ s.size := by rw [nameOk_iff] at hok; simpa using hok.1.1
    clear hok
    go_wp2_with fail
    refine HC.out.mono ?_
    rintro e w3 ⟨rfl, hb3⟩
    have hb23 := hidden (HB.out.trans (hb3.mono HB.out.size))
    have hg := HN.out w3 (s.extract 0 1) (by rw [ByteArray.size_extract]; unfold maxLen; omega)
    rw [hf] at hg
    have HG := hidden hg
    clear hb3 HC HB hg hf
    go_wp2_with fail
    refine HG.out.mono ?_
    rintro e w4 ⟨rfl, hb4⟩
    have hb24 := hidden (hb23.out.trans (hb4.mono hb23.out.size))
    clear hb23 hb4 HG
    go_wp2_with fail
    refine (alive_any _).mono ?_
    rintro e _ ⟨rfl, rfl⟩
    go_wp2_with fail
    go_ret
    exact ⟨rfl, hb24.out⟩

end Go.Proofs.Ytdaddhliedocaaa

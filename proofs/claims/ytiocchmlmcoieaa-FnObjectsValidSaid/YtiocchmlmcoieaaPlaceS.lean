/-
  Contract of spec.NameValid. Contract of spec.NameAt. Contract of spec.PlaceOf.
-/
import Derived.Test.YtiocchmlmcoieaaMem
import Derived.Test.YtiocchmlmcoieaaBase
/- Contract of spec.NameValid. -/
namespace Go.Proofs.Ytiocchmlmcoieaa
open Go.RowKit

/-- The ways through the tests on one byte. -/
theorem byte_ways (c : Int) (h0 : 0 ≤ c) (h1 : c < 256) (z : Prop) : (97 ≤ c ∧ c ≤ 122) ∨ c = 95 ∨ c = 46 ∨ (48 ≤ c ∧ c ≤ 57 ∧ ¬ z) ∨ (48 ≤ c ∧ c ≤ 57 ∧ z) ∨ c < 46 ∨ c = 47 ∨ (57 < c ∧ c < 95) ∨ c = 96 ∨ 122 < c := by
  by_cases hz : z <;> simp [hz] <;> omega
set_option maxHeartbeats 4000000 in
theorem nameValid'_any (s : ByteArray) (w : World) (hs : s.size ≤ maxLen) :
    Calls Try.prog 72 #[.string s] w fun e w' => e = .returned (.bool (nameOk s.data.toList)) ∧ w = w' := by
  unfold maxLen at hs
  have hlen : s.data.toList.length = s.size := by simp
  have HLN := hidden hlen
  clear hlen
  go_enter Try.func72, Try.ntmps72
  go_wp2
  go_loop [3] (fun i => ∃ k : Nat, k ≤ s.size ∧ i = .int .i64 k ∧ Hid (∀ j, j < k → okAt s.data.toList j = true)) (fun i => s.size - (intOf i).toNat)
  case atStart => exact ⟨0, Nat.zero_le _, rfl, hidden (by intro j hj; omega)⟩
  case round =>
    obtain ⟨k, hk, rfl, hall⟩ := hrel
    by_cases hlt : k < s.size
    · have hb := byte_at s k hlt
      obtain ⟨c, hc⟩ : ∃ c : Int, ((s[k].toNat : Nat) : Int) = c := ⟨_, rfl⟩
      have h0 : 0 ≤ c := by omega
      have h1 : c < 256 := by have := s[k].toNat_lt; omega
      have hi : (k : Int) < (s.size : Int) := by omega
      have HC : Hid ((s.data.toList.getD k 0).toNat = c.toNat) := by show _ = _; rw [hb, ← hc]; rfl
      clear hb
      rcases byte_ways c h0 h1 (k = 0) with ⟨g, g'⟩ | rfl | rfl | ⟨g, g', g''⟩ | ⟨g, g', g''⟩ | g | rfl | ⟨g, g'⟩ | rfl | g
      · have HN : Hid (∀ j, j < k + 1 → okAt s.data.toList j = true) := all_next hall.out (by unfold okAt letterC digitC; rw [HC.out]; simp <;> omega)
        clear HC hall
        go_wp2
        go_round
        case rel => exact ⟨k + 1, by omega, by go_num, HN⟩
        case measure => simp [intOf]; omega
      · have HN : Hid (∀ j, j < k + 1 → okAt s.data.toList j = true) := all_next hall.out (by unfold okAt letterC digitC; rw [HC.out]; simp <;> omega)
        clear HC hall
        go_wp2
        go_round
        case rel => exact ⟨k + 1, by omega, by go_num, HN⟩
        case measure => simp [intOf]; omega
      · have HN : Hid (∀ j, j < k + 1 → okAt s.data.toList j = true) := all_next hall.out (by unfold okAt letterC digitC; rw [HC.out]; simp <;> omega)
        clear HC hall
        go_wp2
        go_round
        case rel => exact ⟨k + 1, by omega, by go_num, HN⟩
        case measure => simp [intOf]; omega
      · have e95 : (c == 95) = false := by simp; omega
        have e46 : (c == 46) = false := by simp; omega
        have k0 : (((k : Nat) : Int) == 0) = false := by simp; omega
        have HN : Hid (∀ j, j < k + 1 → okAt s.data.toList j = true) := all_next hall.out (by unfold okAt letterC digitC; rw [HC.out]; simp <;> omega)
        clear HC hall
        go_wp2
        go_round
        case rel => exact ⟨k + 1, by omega, by go_num, HN⟩
        case measure => simp [intOf]; omega
      · have e95 : (c == 95) = false := by simp; omega
        have e46 : (c == 46) = false := by simp; omega
        have k0 : (((k : Nat) : Int) == 0) = true := by simp; omega
        have HN : Hid (nameOk s.data.toList = false) := nameOk_bad (k := k) (by rw [HLN.out]; exact hlt) (by unfold okAt letterC digitC; rw [HC.out]; simp <;> omega)
        clear HC hall g''
        go_wp2
        go_ret
        exact ⟨ret_bool HN.out.symm, rfl⟩
      · have e95 : (c == 95) = false := by simp; omega
        have e46 : (c == 46) = false := by simp; omega
        have HN : Hid (nameOk s.data.toList = false) := nameOk_bad (k := k) (by rw [HLN.out]; exact hlt) (by unfold okAt letterC digitC; rw [HC.out]; simp <;> omega)
        clear HC hall
        go_wp2
        go_ret
        exact ⟨ret_bool HN.out.symm, rfl⟩
      · have HN : Hid (nameOk s.data.toList = false) := nameOk_bad (k := k) (by rw [HLN.out]; exact hlt) (by unfold okAt letterC digitC; rw [HC.out]; simp <;> omega)
        clear HC hall
        go_wp2
        go_ret
        exact ⟨ret_bool HN.out.symm, rfl⟩
      · have e95 : (c == 95) = false := by simp; omega
        have e46 : (c == 46) = false := by simp; omega
        have HN : Hid (nameOk s.data.toList = false) := nameOk_bad (k := k) (by rw [HLN.out]; exact hlt) (by unfold okAt letterC digitC; rw [HC.out]; simp <;> omega)
        clear HC hall
        go_wp2
        go_ret
        exact ⟨ret_bool HN.out.symm, rfl⟩
      · have HN : Hid (nameOk s.data.toList = false) := nameOk_bad (k := k) (by rw [HLN.out]; exact hlt) (by unfold okAt letterC digitC; rw [HC.out]; simp <;> omega)
        clear HC hall
        go_wp2
        go_ret
        exact ⟨ret_bool HN.out.symm, rfl⟩
      · have d122 : decide (c ≤ 122) = false := by simp; omega
        have e95 : (c == 95) = false := by simp; omega
        have e46 : (c == 46) = false := by simp; omega
        have HN : Hid (nameOk s.data.toList = false) := nameOk_bad (k := k) (by rw [HLN.out]; exact hlt) (by unfold okAt letterC digitC; rw [HC.out]; simp <;> omega)
        clear HC hall
        go_wp2
        go_ret
        exact ⟨ret_bool HN.out.symm, rfl⟩
    · have hk2 : k = s.size := by omega
      have hi : ¬ (k : Int) < (s.size : Int) := by omega
      have hN : nameOk s.data.toList = decide (1 ≤ s.size ∧ s.size ≤ 8) := by
        rw [nameOk_all (fun j hj => hall.out j (by rw [HLN.out] at hj; omega)), HLN.out]
      have HN := hidden hN
      clear hN hall hk2
      by_cases q1 : s.size < 1
      · have hb : nameOk s.data.toList = false := by rw [HN.out]; simp; omega
        have HB := hidden hb
        clear hb
        go_wp2_with (go_at_call 35; (with_reducible refine (l1In_low _ _ _ (by omega) _).mono ?_); rintro e w' ⟨rfl, rfl⟩)
        go_ret
        exact ⟨ret_bool HB.out.symm, rfl⟩
      by_cases q2 : 8 < s.size
      · have hb : nameOk s.data.toList = false := by rw [HN.out]; simp; omega
        have HB := hidden hb
        clear hb
        go_wp2_with (go_at_call 35; (with_reducible refine (l1In_high _ _ _ (by omega) _).mono ?_); rintro e w' ⟨rfl, rfl⟩)
        go_ret
        exact ⟨ret_bool HB.out.symm, rfl⟩
      · have hb : nameOk s.data.toList = true := by rw [HN.out]; simp; omega
        have HB := hidden hb
        clear hb
        go_wp2_with (go_at_call 35; (with_reducible refine (l1In_yes _ _ _ (by omega) (by omega) _).mono ?_); rintro e w' ⟨rfl, rfl⟩)
        go_ret
        exact ⟨ret_bool HB.out.symm, rfl⟩

end Go.Proofs.Ytiocchmlmcoieaa
/- Contract of spec.NameAt. Contract of spec.PlaceOf. -/
/- Contract of spec.NameAt. -/
namespace Go.Proofs.Ytiocchmlmcoieaa
open Go.RowKit


















































































end Go.Proofs.Ytiocchmlmcoieaa
/- Contract of spec.PlaceOf. -/
namespace Go.Proofs.Ytiocchmlmcoieaa
open Go.RowKit

theorem firstAt_hit {l : List Int} {s : ByteArray} {k n : Nat} {t : List Int} (h : textAt l k = some t) (hs : strOfNums t = s) : firstAt l s k (n + 1) = k := by
  simp [firstAt, h, hs]
theorem firstAt_miss {l : List Int} {s : ByteArray} {k n : Nat} {t : List Int} (h : textAt l k = some t) (hs : strOfNums t ≠ s) : firstAt l s k (n + 1) = firstAt l s (k + 1) n := by
  simp [firstAt, h, hs]
theorem firstAt_none {l : List Int} {s : ByteArray} {k n : Nat} (h : textAt l k = none) : firstAt l s k (n + 1) = firstAt l s (k + 1) n := by
  simp [firstAt, h]










































































end Go.Proofs.Ytiocchmlmcoieaa

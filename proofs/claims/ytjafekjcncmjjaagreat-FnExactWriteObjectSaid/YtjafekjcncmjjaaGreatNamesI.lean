/-
  Contracts of impl.isDigit, impl.isNameByte and impl.NameValid.
-/
import Derived.Test.YtjafekjcncmjjaaGreatMem
namespace Go.Proofs.YtjafekjcncmjjaaGreat
open Go.RowKit

theorem isDigit_any (c : Int) (h0 : 0 ≤ c) (h1 : c < 256) (w : World) :
    Calls Tryz.prog 89 #[.int .u8 c] w fun e w' => e = .returned (.bool (digitC c.toNat)) ∧ w = w' := by
  have hd : digitC c.toNat = (decide (48 ≤ c) && decide (c ≤ 57)) := by
    unfold digitC; rw [Bool.eq_iff_iff]; simp; omega
  rw [hd]; clear hd
  by_cases a : 48 ≤ c
  · by_cases b : c ≤ 57
    · go_enter Tryz.func89, Tryz.ntmps89
      go_wp2
      go_ret
      exact ⟨ret_bool (by simp [a, b]), rfl⟩
    · go_enter Tryz.func89, Tryz.ntmps89
      go_wp2
      go_ret
      exact ⟨ret_bool (by simp [b]), rfl⟩
  · go_enter Tryz.func89, Tryz.ntmps89
    go_wp2
    go_ret
    exact ⟨ret_bool (by simp; omega), rfl⟩
theorem isNameByte_any (c : Int) (h0 : 0 ≤ c) (h1 : c < 256) (w : World) :
    Calls Tryz.prog 90 #[.int .u8 c] w fun e w' => e = .returned (.bool (letterC c.toNat || digitC c.toNat)) ∧ w = w' := by
  have hd : (letterC c.toNat || digitC c.toNat) = (decide (97 ≤ c ∧ c ≤ 122) || decide (48 ≤ c ∧ c ≤ 57) || decide (c = 95) || decide (c = 46)) := by
    unfold letterC digitC; rw [Bool.eq_iff_iff]; simp; omega
  have hg : digitC c.toNat = decide (48 ≤ c ∧ c ≤ 57) := by unfold digitC; rw [Bool.eq_iff_iff]; simp; omega
  have HD := hidden hd
  clear hd
  rcases (show (97 ≤ c ∧ c ≤ 122) ∨ c = 95 ∨ c = 46 ∨ (48 ≤ c ∧ c ≤ 57) ∨ (c < 97 ∧ ¬ (48 ≤ c ∧ c ≤ 57) ∧ c ≠ 95 ∧ c ≠ 46) ∨ 122 < c by omega) with ⟨g, g'⟩ | rfl | rfl | ⟨g, g'⟩ | ⟨g, g', g2, g3⟩ | g
  · go_enter Tryz.func90, Tryz.ntmps90
    go_wp2
    go_ret
    exact ⟨ret_bool (by rw [HD.out]; simp; omega), rfl⟩
  · go_enter Tryz.func90, Tryz.ntmps90
    go_wp2_with (go_at_call 89; (with_reducible refine (isDigit_any _ (by omega) (by omega) _).mono ?_); rintro e w' ⟨rfl, rfl⟩)
    go_ret
    exact ⟨rfl, rfl⟩
  · go_enter Tryz.func90, Tryz.ntmps90
    go_wp2_with (go_at_call 89; (with_reducible refine (isDigit_any _ (by omega) (by omega) _).mono ?_); rintro e w' ⟨rfl, rfl⟩)
    go_ret
    exact ⟨rfl, rfl⟩
  · have hg' : digitC c.toNat = true := by rw [hg]; simp; omega
    clear hg
    have gl : decide (97 ≤ c) = false := by simp; omega
    go_enter Tryz.func90, Tryz.ntmps90
    go_wp2_with (go_at_call 89; (with_reducible refine (isDigit_any _ h0 h1 _).mono ?_); rintro e w' ⟨rfl, rfl⟩)
    go_ret
    exact ⟨ret_bool (by rw [HD.out]; simp; omega), rfl⟩
  · have hg' : digitC c.toNat = false := by rw [hg]; simp; omega
    clear hg
    have gl : decide (97 ≤ c) = false := by simp; omega
    have e95 : (c == 95) = false := by simpa using g2
    have e46 : (c == 46) = false := by simpa using g3
    go_enter Tryz.func90, Tryz.ntmps90
    go_wp2_with (go_at_call 89; (with_reducible refine (isDigit_any _ h0 h1 _).mono ?_); rintro e w' ⟨rfl, rfl⟩)
    go_ret
    exact ⟨ret_bool (by rw [HD.out]; simp; omega), rfl⟩
  · have hg' : digitC c.toNat = false := by rw [hg]; simp; omega
    clear hg
    have gl : decide (97 ≤ c) = true := by simp; omega
    have gh : decide (c ≤ 122) = false := by simp; omega
    have e95 : (c == 95) = false := by simp; omega
    have e46 : (c == 46) = false := by simp; omega
    go_enter Tryz.func90, Tryz.ntmps90
    go_wp2_with (go_at_call 89; (with_reducible refine (isDigit_any _ h0 h1 _).mono ?_); rintro e w' ⟨rfl, rfl⟩)
    go_ret
    exact ⟨ret_bool (by rw [HD.out]; simp; omega), rfl⟩
set_option maxHeartbeats 1000000 in
theorem nameValid_any (s : ByteArray) (w : World) (hs : s.size ≤ maxLen) :
    Calls Tryz.prog 80 #[.string s] w fun e w' => e = .returned (.bool (nameOk s.data.toList)) ∧ w = w' := by
  unfold maxLen at hs
  have hlen : s.data.toList.length = s.size := by simp
  have HLN := hidden hlen
  clear hlen
  by_cases q1 : s.size < 1
  · have HN : Hid (nameOk s.data.toList = false) := by show _ = _; unfold nameOk; rw [HLN.out]; simp; omega
    have q1' : (s.size : Int) < 1 := by omega
    go_enter Tryz.func80, Tryz.ntmps80
    go_wp2_with fail
    go_ret
    exact ⟨ret_bool HN.out.symm, rfl⟩
  by_cases q2 : 8 < s.size
  · have HN : Hid (nameOk s.data.toList = false) := by show _ = _; unfold nameOk; rw [HLN.out]; simp; omega
    have q1' : ¬ (s.size : Int) < 1 := by omega
    have q2' : 8 < (s.size : Int) := by omega
    go_enter Tryz.func80, Tryz.ntmps80
    go_wp2_with fail
    go_ret
    exact ⟨ret_bool HN.out.symm, rfl⟩
  have q1' : ¬ (s.size : Int) < 1 := by omega
  have q2' : ¬ 8 < (s.size : Int) := by omega
  have q0 : 0 < s.size := by omega
  have hb0 := byte_at s 0 q0
  obtain ⟨c0, hc0⟩ : ∃ c : Int, ((s[0].toNat : Nat) : Int) = c := ⟨_, rfl⟩
  have h00 : 0 ≤ c0 := by omega
  have h01 : c0 < 256 := by have := s[0].toNat_lt; omega
  have HC0 : Hid ((s.data.toList.getD 0 0).toNat = c0.toNat) := by show _ = _; rw [hb0, ← hc0]; rfl
  clear hb0
  rcases hd0 : digitC c0.toNat with _ | _
  case true =>
    have HN : Hid (nameOk s.data.toList = false) := nameOk_bad (k := 0) (by rw [HLN.out]; exact q0) (by unfold okAt; rw [HC0.out, hd0]; unfold letterC; unfold digitC at hd0; simp at hd0 ⊢; omega)
    go_enter Tryz.func80, Tryz.ntmps80
    go_wp2_with (go_at_call 89; (with_reducible refine (isDigit_any _ h00 h01 _).mono ?_); rintro e w' ⟨rfl, rfl⟩)
    go_ret
    exact ⟨ret_bool HN.out.symm, rfl⟩
  have HD0 := hidden hd0
  go_enter Tryz.func80, Tryz.ntmps80
  go_wp2_with (go_at_call 89; (with_reducible refine (isDigit_any _ h00 h01 _).mono ?_); rintro e w' ⟨rfl, rfl⟩)
  clear hd0
  go_loop [19] (fun i => ∃ k : Nat, k ≤ s.size ∧ i = .int .i64 k ∧ Hid (∀ j, j < k → okAt s.data.toList j = true)) (fun i => s.size - (intOf i).toNat)
  case atStart => exact ⟨0, Nat.zero_le _, rfl, hidden (by intro j hj; omega)⟩
  case round =>
    obtain ⟨k, hk, rfl, hall⟩ := hrel
    by_cases hlt : k < s.size
    · have hb := byte_at s k hlt
      obtain ⟨c, hc⟩ : ∃ c : Int, ((s[k].toNat : Nat) : Int) = c := ⟨_, rfl⟩
      have h0 : 0 ≤ c := by omega
      have h1 : c < 256 := by have := s[k].toNat_lt; omega
      have hi : (k : Int) < (s.size : Int) := by omega
      have HC : Hid ((s.data.toList.getD k 0).toNat = c.toNat) := by show _ = _; rw [hb, ← hc]; rfl
      have HO : Hid (okAt s.data.toList k = (letterC c.toNat || digitC c.toNat)) := by
        show _ = _
        unfold okAt
        rw [HC.out]
        by_cases k0 : k = 0
        · subst k0
          have : c.toNat = c0.toNat := by rw [← HC.out, HC0.out]
          rw [this, HD0.out]; simp
        · simp [k0]
      clear hb HC
      rcases ho : (letterC c.toNat || digitC c.toNat) with _ | _
      · have HN : Hid (nameOk s.data.toList = false) := nameOk_bad (k := k) (by rw [HLN.out]; exact hlt) (by rw [HO.out, ho])
        clear hall HO
        go_wp2_with (go_at_call 90; (with_reducible refine (isNameByte_any _ h0 h1 _).mono ?_); rintro e w' ⟨rfl, rfl⟩)
        go_ret
        exact ⟨ret_bool HN.out.symm, rfl⟩
      · have HN : Hid (∀ j, j < k + 1 → okAt s.data.toList j = true) := all_next hall.out (by rw [HO.out, ho])
        clear hall HO
        go_wp2_with (go_at_call 90; (with_reducible refine (isNameByte_any _ h0 h1 _).mono ?_); rintro e w' ⟨rfl, rfl⟩)
        go_round
        case rel => exact ⟨k + 1, by omega, by go_num, HN⟩
        case measure => simp [intOf]; omega
    · have hi : ¬ (k : Int) < (s.size : Int) := by omega
      have HN : Hid (nameOk s.data.toList = true) := by
        show _ = _
        rw [nameOk_all (fun j hj => hall.out j (by rw [HLN.out] at hj; omega)), HLN.out]; simp; omega
      clear hall
      go_wp2
      go_ret
      exact ⟨ret_bool HN.out.symm, rfl⟩

end Go.Proofs.YtjafekjcncmjjaaGreat

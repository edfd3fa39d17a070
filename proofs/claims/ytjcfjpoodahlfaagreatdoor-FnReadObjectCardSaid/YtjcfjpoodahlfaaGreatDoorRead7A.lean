import Derived.Test.YtjcfjpoodahlfaaGreatDoorRdP
namespace Go.Proofs.YtjcfjpoodahlfaaGreatDoor
open Go.RowKit
theorem by1_nonneg (l : List Int) (n : Int) : 0 ≤ by1 l n := by unfold by1; omega
set_option maxHeartbeats 1000000 in
theorem l7Byte_any (w : World) (B : Nat) (a : Option Addr) (cap n : Nat) (l : List Int) (hn : n = l.length) (h : Ints w .u8 B a l) (hlen : n ≤ 9223372036854775807) (i : Int) :
    Calls Tryz.prog 49 #[.slice a n cap, .int .i64 i] w fun e w' => e = .returned (.int .i64 (by1 l i)) ∧ w = w' := by
  have HG := hidden (getNumber'_any w B a cap l h (by omega) i 1)
  rw [← hn] at HG
  obtain ⟨v, hv⟩ : ∃ q, getVal l i 1 = q := ⟨_, rfl⟩
  rw [hv] at HG
  obtain ⟨r, hr⟩ : ∃ q, q = by1 l i := ⟨_, rfl⟩
  have HR : Hid (Value.int .i64 (max 0 v) = Value.int .i64 r) := by show _ = _; rw [hr]; unfold by1; rw [hv]
  rw [← hr]
  clear h hn hv hr
  go_enter Tryz.func49, Tryz.ntmps49
  go_wp2_with fail
  refine HG.out.mono ?_
  clear HG
  rintro e w1 ⟨rfl, rfl⟩
  go_wp2_with fail
  go_ret
  exact ⟨ret_val HR.out, rfl⟩
set_option maxHeartbeats 1000000 in
theorem l7Same_any (w : World) (B1 B2 : Nat) (a1 a2 : Option Addr) (c1 c2 n1 n2 : Nat) (l1 l2 : List Int) (hn1 : n1 = l1.length) (hn2 : n2 = l2.length) (h1 : Ints w .u8 B1 a1 l1) (h2 : Ints w .u8 B2 a2 l2) (hlen : n1 ≤ 9223372036854775807) :
    Calls Tryz.prog 50 #[.slice a1 n1 c1, .slice a2 n2 c2] w fun e w' => e = .returned (.bool (decide (l1 = l2))) ∧ ∃ n, w' = w.drewN n := by
  obtain ⟨ok, hok⟩ : ∃ q, q = decide (l1 = l2) := ⟨_, rfl⟩
  have HOK := hidden hok
  have H1 := hidden hn1
  have H2 := hidden hn2
  rw [← hok]
  by_cases hne : n1 = n2
  · subst hne
    clear hok hn1 hn2
    go_enter Tryz.func50, Tryz.ntmps50
    go_wp2
    go_loopw [5] (fun i wr => ∃ k : Nat, k ≤ n1 ∧ i = .int .i64 k ∧ Hid (∀ j, j < k → l1.getD j 0 = l2.getD j 0) ∧ ∃ n, wr = w.drewN n) (fun i _ => n1 - (intOf i).toNat)
    case atStart => exact ⟨0, Nat.zero_le _, rfl, hidden (fun j hj => absurd hj (by omega)), 0, rfl⟩
    case round =>
      obtain ⟨k, hk, rfl, hall, n, rfl⟩ := hrel
      by_cases hlt : k < n1
      · have hl1 : k < l1.length := by rw [← H1.out]; exact hlt
        have hl2 : k < l2.length := by rw [← H2.out]; exact hlt
        obtain ⟨b1, o1, rfl, _, e1⟩ := h1.at_ hl1
        obtain ⟨b2, o2, rfl, _, e2⟩ := h2.at_ hl2
        obtain ⟨x, hx⟩ : ∃ x, l1.getD k 0 = x := ⟨_, rfl⟩
        obtain ⟨y, hy⟩ : ∃ x, l2.getD k 0 = x := ⟨_, rfl⟩
        rw [hx] at e1
        rw [hy] at e2
        have hi : (k : Int) < (n1 : Int) := by omega
        by_cases hxy : x = y
        · have hq : (x != y) = false := by simp [hxy]
          have hall2 : Hid (∀ j, j < k + 1 → l1.getD j 0 = l2.getD j 0) := fun j hj => by
            rcases Nat.lt_succ_iff_lt_or_eq.1 hj with h | h
            · exact hall.out j h
            · rw [h, hx, hy, hxy]
          clear hx hy hl1 hl2 hxy h1 h2
          go_wp2
          go_quiet (fail)
          go_wp2
          go_roundw
          case rel => exact ⟨k + 1, by omega, by go_num, hall2, _, rfl⟩
          case measure => simp [intOf]; omega
        · have hq : (x != y) = true := by simp [hxy]
          have HF : Hid (ok = false) := by
            show _ = _
            rw [HOK.out, decide_eq_false_iff_not]
            intro e
            exact hxy (by rw [← hx, ← hy, e])
          clear hx hy hl1 hl2 hxy h1 h2 hall
          go_wp2
          go_quiet (fail)
          go_wp2
          go_ret
          exact ⟨ret_bool HF.out.symm, n + nq, by simp⟩
      · have HF : Hid (ok = true) := by
          show _ = _
          rw [HOK.out, decide_eq_true_eq]
          have hk1 : k = n1 := by omega
          apply List.ext_getElem
          · rw [← H1.out, ← H2.out]
          · intro j hj1 hj2
            have := hall.out j (by rw [hk1, H1.out]; exact hj1)
            simpa [List.getD, List.getElem?_eq_getElem hj1, List.getElem?_eq_getElem hj2] using this
        clear hall h1 h2
        go_wp2
        go_ret
        exact ⟨ret_bool HF.out.symm, _, rfl⟩
  · have hni : ¬ (n1 : Int) = (n2 : Int) := by omega
    have HF : Hid (ok = false) := by
      show _ = _
      rw [HOK.out, decide_eq_false_iff_not]
      intro e
      exact hne (by rw [hn1, hn2, e])
    clear hok hn1 hn2 h1 h2
    go_enter Tryz.func50, Tryz.ntmps50
    go_wp2
    go_ret
    exact ⟨ret_bool HF.out.symm, 0, rfl⟩

/-
  impl.GetNumber and spec.GetNumber answer one number, for all bytes, places and widths; and the walk of FnExactGetNumber.
-/
import Derived.Test.YtiplcfgfababaaaBytes
import Derived.Test.YtiplcfgfababaaaSame
namespace Go.Proofs.Ytiplcfgfababaaa
open Go.RowKit

/-- The number whose bytes stand at place n. -/
def leAt (l : List Int) (n : Nat) (k : Int) : Int :=
  if k = 1 then l.getD n 0 else if k = 2 then l.getD n 0 + 256 * l.getD (n + 1) 0 else if k = 3 then l.getD n 0 + 256 * l.getD (n + 1) 0 + 65536 * l.getD (n + 2) 0
  else l.getD n 0 + 256 * l.getD (n + 1) 0 + 65536 * l.getD (n + 2) 0 + 16777216 * l.getD (n + 3) 0
/-- What GetNumber answers: -1 where it has no answer. -/
def getVal (l : List Int) (n k : Int) : Int :=
  if k < 1 ∨ 4 < k then -1 else if n < 0 then -1 else if (l.length : Int) - k < n then -1 else leAt l n.toNat k

theorem getNumber_any (w : World) (B : Nat) (a : Option Addr) (cap : Nat) (l : List Int) (h : Ints w .u8 B a l) (hlen : l.length ≤ 9223372036854775807) (n k : Int) :
    Calls Try.prog 17 #[.slice a l.length cap, .int .i64 n, .int .i64 k] w fun e w' => e = .returned (.int .i64 (getVal l n k)) ∧ w = w' := by
  by_cases hk : k < 1 ∨ 4 < k
  · have e : getVal l n k = -1 := by unfold getVal; rw [if_pos hk]
    rw [e]; exact getNumber_bad _ _ _ _ _ hk w
  by_cases hn : n < 0
  · have e : getVal l n k = -1 := by unfold getVal; rw [if_neg hk, if_pos hn]
    rw [e]; exact getNumber_neg _ _ _ _ _ (by omega) (by omega) hn w
  by_cases hf : (l.length : Int) - k < n
  · have e : getVal l n k = -1 := by unfold getVal; rw [if_neg hk, if_neg hn, if_pos hf]
    rw [e]; exact getNumber_far _ _ _ _ _ (by omega) (by omega) (by omega) hf hlen w
  have e : getVal l n k = leAt l n.toNat k := by unfold getVal; rw [if_neg hk, if_neg hn, if_neg hf]
  rw [e]
  obtain ⟨m, rfl⟩ := Int.eq_ofNat_of_zero_le (Int.not_lt.mp hn)
  rw [Int.toNat_natCast]
  obtain ⟨b, off, rfl, _, hc⟩ := h.2 (by omega)
  have hw := fun i (hi : i < l.length) => wf_u8.mp (h.wfAt hi)
  have hcs : k = 1 ∨ k = 2 ∨ k = 3 ∨ k = 4 := by omega
  clear e
  rcases hcs with rfl | rfl | rfl | rfl
  · have e : leAt l m 1 = l.getD m 0 := by simp [leAt]
    rw [e]
    exact getNumber_1 b off cap l.length m (l.getD m 0) (hw m (by omega)).1 (hw m (by omega)).2 w (by omega) hlen (hc m (by omega))
  · have e : leAt l m 2 = l.getD m 0 + 256 * l.getD (m + 1) 0 := by simp [leAt]
    rw [e]
    exact getNumber_2 b off cap l.length m (l.getD m 0) (l.getD (m + 1) 0) (hw m (by omega)).1 (hw m (by omega)).2 (hw (m + 1) (by omega)).1 (hw (m + 1) (by omega)).2 w (by omega) hlen (hc m (by omega)) (hc (m + 1) (by omega))
  · have e : leAt l m 3 = l.getD m 0 + 256 * l.getD (m + 1) 0 + 65536 * l.getD (m + 2) 0 := by simp [leAt]
    rw [e]
    exact getNumber_3 b off cap l.length m (l.getD m 0) (l.getD (m + 1) 0) (l.getD (m + 2) 0) (hw m (by omega)).1 (hw m (by omega)).2 (hw (m + 1) (by omega)).1 (hw (m + 1) (by omega)).2 (hw (m + 2) (by omega)).1 (hw (m + 2) (by omega)).2 w (by omega) hlen (hc m (by omega)) (hc (m + 1) (by omega)) (hc (m + 2) (by omega))
  · have e : leAt l m 4 = l.getD m 0 + 256 * l.getD (m + 1) 0 + 65536 * l.getD (m + 2) 0 + 16777216 * l.getD (m + 3) 0 := by simp [leAt]
    rw [e]
    exact getNumber_4 b off cap l.length m (l.getD m 0) (l.getD (m + 1) 0) (l.getD (m + 2) 0) (l.getD (m + 3) 0) (hw m (by omega)).1 (hw m (by omega)).2 (hw (m + 1) (by omega)).1 (hw (m + 1) (by omega)).2 (hw (m + 2) (by omega)).1 (hw (m + 2) (by omega)).2 (hw (m + 3) (by omega)).1 (hw (m + 3) (by omega)).2 w (by omega) hlen (hc m (by omega)) (hc (m + 1) (by omega)) (hc (m + 2) (by omega)) (hc (m + 3) (by omega))

theorem getNumber'_any (w : World) (B : Nat) (a : Option Addr) (cap : Nat) (l : List Int) (h : Ints w .u8 B a l) (hlen : l.length ≤ 9223372036854775807) (n k : Int) :
    Calls Try.prog 19 #[.slice a l.length cap, .int .i64 n, .int .i64 k] w fun e w' => e = .returned (.int .i64 (getVal l n k)) ∧ w = w' := by
  by_cases hk : k < 1 ∨ 4 < k
  · have e : getVal l n k = -1 := by unfold getVal; rw [if_pos hk]
    rw [e]; exact getNumber'_bad _ _ _ _ _ hk w
  by_cases hn : n < 0
  · have e : getVal l n k = -1 := by unfold getVal; rw [if_neg hk, if_pos hn]
    rw [e]; exact getNumber'_neg _ _ _ _ _ (by omega) (by omega) hn w
  by_cases hf : (l.length : Int) - k < n
  · have e : getVal l n k = -1 := by unfold getVal; rw [if_neg hk, if_neg hn, if_pos hf]
    rw [e]; exact getNumber'_far _ _ _ _ _ (by omega) (by omega) (by omega) hf hlen w
  have e : getVal l n k = leAt l n.toNat k := by unfold getVal; rw [if_neg hk, if_neg hn, if_neg hf]
  rw [e]
  obtain ⟨m, rfl⟩ := Int.eq_ofNat_of_zero_le (Int.not_lt.mp hn)
  rw [Int.toNat_natCast]
  obtain ⟨b, off, rfl, _, hc⟩ := h.2 (by omega)
  have hw := fun i (hi : i < l.length) => wf_u8.mp (h.wfAt hi)
  have hcs : k = 1 ∨ k = 2 ∨ k = 3 ∨ k = 4 := by omega
  clear e
  rcases hcs with rfl | rfl | rfl | rfl
  · have e : leAt l m 1 = l.getD m 0 := by simp [leAt]
    rw [e]
    exact getNumber'_1 b off cap l.length m (l.getD m 0) (hw m (by omega)).1 (hw m (by omega)).2 w (by omega) hlen (hc m (by omega))
  · have e : leAt l m 2 = l.getD m 0 + 256 * l.getD (m + 1) 0 := by simp [leAt]
    rw [e]
    exact getNumber'_2 b off cap l.length m (l.getD m 0) (l.getD (m + 1) 0) (hw m (by omega)).1 (hw m (by omega)).2 (hw (m + 1) (by omega)).1 (hw (m + 1) (by omega)).2 w (by omega) hlen (hc m (by omega)) (hc (m + 1) (by omega))
  · have e : leAt l m 3 = l.getD m 0 + 256 * l.getD (m + 1) 0 + 65536 * l.getD (m + 2) 0 := by simp [leAt]
    rw [e]
    exact getNumber'_3 b off cap l.length m (l.getD m 0) (l.getD (m + 1) 0) (l.getD (m + 2) 0) (hw m (by omega)).1 (hw m (by omega)).2 (hw (m + 1) (by omega)).1 (hw (m + 1) (by omega)).2 (hw (m + 2) (by omega)).1 (hw (m + 2) (by omega)).2 w (by omega) hlen (hc m (by omega)) (hc (m + 1) (by omega)) (hc (m + 2) (by omega))
  · have e : leAt l m 4 = l.getD m 0 + 256 * l.getD (m + 1) 0 + 65536 * l.getD (m + 2) 0 + 16777216 * l.getD (m + 3) 0 := by simp [leAt]
    rw [e]
    exact getNumber'_4 b off cap l.length m (l.getD m 0) (l.getD (m + 1) 0) (l.getD (m + 2) 0) (l.getD (m + 3) 0) (hw m (by omega)).1 (hw m (by omega)).2 (hw (m + 1) (by omega)).1 (hw (m + 1) (by omega)).2 (hw (m + 2) (by omega)).1 (hw (m + 2) (by omega)).2 (hw (m + 3) (by omega)).1 (hw (m + 3) (by omega)).2 w (by omega) hlen (hc m (by omega)) (hc (m + 1) (by omega)) (hc (m + 2) (by omega)) (hc (m + 3) (by omega))

set_option maxHeartbeats 1000000 in
theorem law_ExactGetNumber (w : World) (a : Option Addr) (len cap : Nat) (n k : Int) (h : ∃ l, Ints w .u8 w.heap.size a l ∧ l.length = len ∧ len ≤ 9223372036854775807) :
    Calls Try.prog 9 #[.slice a len cap, .int .i64 n, .int .i64 k] w fun e w' => e = .returned (.bool true) ∧ Below w.heap.size w w' := by
  obtain ⟨l, h, rfl, hlen⟩ := h
  by_cases hbig : 1048576 < l.length
  · have hd : (1048576 : Int) < (l.length : Int) := by omega
    go_enter Try.func9, Try.ntmps9
    go_wp2
    go_ret
    exact ⟨rfl, Below.refl _ _⟩
  have hd : ¬ (1048576 : Int) < (l.length : Int) := by omega
  go_enter Try.func9, Try.ntmps9
  go_wp2_with fail
  refine (toByteS_any _ _ _ _ l h (Nat.le_refl _) (by omega)).mono ?_
  rintro e w1 ⟨rfl, hh1, hb1⟩
  go_wp2_with fail
  refine (getNumber'_any _ (w.heap.size + 1) _ _ l (Ints.ofHas hh1 rfl h.1 (by omega)) hlen n k).mono ?_
  rintro e _ ⟨rfl, rfl⟩
  go_wp2_with fail
  refine (toByteS_any w1 w.heap.size a cap l (h.below hb1) hb1.size (by omega)).mono ?_
  rintro e w2 ⟨rfl, hh2, hb2⟩
  go_wp2_with fail
  refine (getNumber_any w2 (w1.heap.size + 1) _ _ l (Ints.ofHas hh2 rfl h.1 (by omega)) hlen n k).mono ?_
  rintro e _ ⟨rfl, rfl⟩
  have hb12 : Below w.heap.size w w2 := hb1.trans (hb2.mono hb1.size)
  go_wp2_with fail
  refine (toByteS_any w2 w.heap.size a cap l (h.below hb12) hb12.size (by omega)).mono ?_
  rintro e w3 ⟨rfl, hh3, hb3⟩
  go_wp2_with fail
  refine (eqByteS_yes w3 (w1.heap.size + 1) (w2.heap.size + 1) _ _ _ _ l (Ints.ofHas (hh2.below hb3 hh2.lt) rfl h.1 (by omega)) (Ints.ofHas hh3 rfl h.1 (by omega)) hlen).mono ?_
  rintro e _ ⟨rfl, m, rfl⟩
  have hb13 : Below w.heap.size w w3 := hb12.trans (hb3.mono hb12.size)
  go_wp2_with fail
  go_ret
  exact ⟨rfl, below_drewN hb13 m⟩

end Go.Proofs.Ytiplcfgfababaaa

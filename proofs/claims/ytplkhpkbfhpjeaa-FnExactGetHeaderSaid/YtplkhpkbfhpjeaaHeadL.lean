/-
  Contracts of the laws' copy and comparison of headers.
-/
import Derived.Test.YtplkhpkbfhpjeaaHead
import Derived.Laws.ResultCell
namespace Go.Proofs.Ytplkhpkbfhpjeaa
open Go.RowKit

set_option maxRecDepth 100000 in
set_option maxHeartbeats 1000000 in
theorem toHeader_any (w : World) (h : Hd) : Calls Try.prog 17 #[h.agg] w fun e w' => e = .returned h.agg ∧ Below w.heap.size w w' := by
  obtain ⟨a, b, c, d⟩ := h
  unfold Hd.agg
  go_enter Try.func17, Try.ntmps17
  go_wp2_with fail
  have HF : Has (((w.alloc (.cells #[.int .i64 a, .int .i64 b, .int .i64 c, .int .i64 d] 34)).alloc (.cells #[.int .i64 a, .int .i64 b, .int .i64 c, .int .i64 d] 24)).alloc (.cells #[.int .i64 a, .int .i64 b, .int .i64 c, .int .i64 d] 24)) (w.heap.size + 1) 24 #[.int .i64 a, .int .i64 b, .int .i64 c, .int .i64 d] := by
    have := (Has.new (w.alloc (.cells #[.int .i64 a, .int .i64 b, .int .i64 c, .int .i64 d] 34)) 24 #[.int .i64 a, .int .i64 b, .int .i64 c, .int .i64 d]).alloc (.cells #[.int .i64 a, .int .i64 b, .int .i64 c, .int .i64 d] 24)
    simpa using this
  refine bodyPost_ret (results_cell_row rfl _ _ (w.heap.size + 1) 24 #[.int .i64 a, .int .i64 b, .int .i64 c, .int .i64 d] (0, 0) _ rfl HF Try.underlying24 rfl (by kernel_rfl)) rfl ?_
  have hb1 : Below w.heap.size w (w.alloc (.cells #[.int .i64 a, .int .i64 b, .int .i64 c, .int .i64 d] 34)) := (Below.refl _ _).alloc (Nat.le_refl _) _
  have hb2 := hb1.alloc hb1.size (.cells #[.int .i64 a, .int .i64 b, .int .i64 c, .int .i64 d] 24)
  exact ⟨rfl, hb2.alloc hb2.size _⟩
set_option maxHeartbeats 1000000 in
theorem eqHeader_any (w : World) (h g : Hd) : Calls Try.prog 23 #[h.agg, g.agg] w fun e w' => e = .returned (.bool (decide (h.sec = g.sec) && (decide (h.sym = g.sym) && (decide (h.fix = g.fix) && decide (h.nam = g.nam))))) ∧ Below w.heap.size w w' := by
  obtain ⟨a, b, c, d⟩ := h
  obtain ⟨a', b', c', d'⟩ := g
  obtain ⟨ok, hok⟩ : ∃ q, q = (decide (a = a') && (decide (b = b') && (decide (c = c') && decide (d = d')))) := ⟨_, rfl⟩
  show Calls _ _ _ _ fun e w' => e = .returned (.bool (decide (a = a') && (decide (b = b') && (decide (c = c') && decide (d = d'))))) ∧ Below w.heap.size w w'
  rw [← hok]
  have HOK := hidden hok
  clear hok
  unfold Hd.agg
  have hb1 : Below w.heap.size w (w.alloc (.cells #[.int .i64 a, .int .i64 b, .int .i64 c, .int .i64 d] 24)) := (Below.refl _ _).alloc (Nat.le_refl _) _
  have hb2 := hidden (hb1.alloc hb1.size (.cells #[.int .i64 a', .int .i64 b', .int .i64 c', .int .i64 d'] 24))
  clear hb1
  go_enter Try.func23, Try.ntmps23
  by_cases ha : ¬ a = a'
  · have q : (a != a') = true := by simp [ha]
    have HF : Hid (ok = false) := by show _ = _; rw [HOK.out, show decide (a = a') = false by simp [ha]]; simp
    clear ha
    go_wp2_with fail
    go_ret
    exact ⟨ret_bool HF.out.symm, hb2.out⟩
  have ha : a = a' := Decidable.not_not.1 ha
  have qa : (a != a') = false := by simp [ha]
  have Ha := hidden ha
  clear ha
  by_cases hb : ¬ b = b'
  · have q : (b != b') = true := by simp [hb]
    have HF : Hid (ok = false) := by show _ = _; rw [HOK.out, show decide (b = b') = false by simp [hb]]; simp
    clear hb
    go_wp2_with fail
    go_ret
    exact ⟨ret_bool HF.out.symm, hb2.out⟩
  have hb : b = b' := Decidable.not_not.1 hb
  have qb : (b != b') = false := by simp [hb]
  have Hb := hidden hb
  clear hb
  by_cases hc : ¬ c = c'
  · have q : (c != c') = true := by simp [hc]
    have HF : Hid (ok = false) := by show _ = _; rw [HOK.out, show decide (c = c') = false by simp [hc]]; simp
    clear hc
    go_wp2_with fail
    go_ret
    exact ⟨ret_bool HF.out.symm, hb2.out⟩
  have hc : c = c' := Decidable.not_not.1 hc
  have qc : (c != c') = false := by simp [hc]
  have Hc := hidden hc
  clear hc
  by_cases hd : ¬ d = d'
  · have q : (d != d') = true := by simp [hd]
    have HF : Hid (ok = false) := by show _ = _; rw [HOK.out, show decide (d = d') = false by simp [hd]]; simp
    clear hd
    go_wp2_with fail
    go_ret
    exact ⟨ret_bool HF.out.symm, hb2.out⟩
  have hd : d = d' := Decidable.not_not.1 hd
  have qd : (d != d') = false := by simp [hd]
  have HD := hidden hd
  clear hd
  have HF : Hid (ok = true) := by show _ = _; rw [HOK.out, show decide (a = a') = true by simp [Ha.out], show decide (b = b') = true by simp [Hb.out], show decide (c = c') = true by simp [Hc.out], show decide (d = d') = true by simp [HD.out]]; rfl
  go_wp2_with fail
  go_ret
  exact ⟨ret_bool HF.out.symm, hb2.out⟩

end Go.Proofs.Ytplkhpkbfhpjeaa

/-
  impl.fieldsOf: the table of a header's fields; impl.HeaderValid.
-/
import Derived.Test.YtjafekjcncmjjaaGreatWant5
namespace Go.Proofs.YtjafekjcncmjjaaGreat
open Go.RowKit

set_option maxRecDepth 100000 in
set_option maxHeartbeats 4000000 in
theorem fieldsOf_any (w : World) (g : Nat) : Calls Tryz.prog 72 #[.pointer (some ⟨g, 0, none⟩)] w fun e w' => e = .returned (.agg #[.pointer (some ⟨g, 0, none⟩), .int .i64 1, .int .i64 0, .int .i64 8, .pointer (some ⟨g, 1, none⟩), .int .i64 1, .int .i64 0, .int .i64 12, .pointer (some ⟨g, 2, none⟩), .int .i64 1, .int .i64 0, .int .i64 48, .pointer (some ⟨g, 3, none⟩), .int .i64 2, .int .i64 1, .int .i64 400]) ∧ Below w.heap.size w w' := by
  go_enter Tryz.func72, Tryz.ntmps72
  go_wp2_with fail
  go_region
  go_wp2_with fail
  refine bodyPost_ret (results_cell_row rfl _ _ w.heap.size 112 #[.pointer (some ⟨g, 0, none⟩), .int .i64 1, .int .i64 0, .int .i64 8, .pointer (some ⟨g, 1, none⟩), .int .i64 1, .int .i64 0, .int .i64 12, .pointer (some ⟨g, 2, none⟩), .int .i64 1, .int .i64 0, .int .i64 48, .pointer (some ⟨g, 3, none⟩), .int .i64 2, .int .i64 1, .int .i64 400] (0, 0) _ rfl (Has.new w _ _).drew Tryz.underlying112 rfl (by kernel_rfl)) rfl ?_
  exact ⟨rfl, ((Below.refl _ _).alloc (Nat.le_refl _) _).drew⟩
/-- What is left of a header's validity behind k fields. -/
def hdRest (x0 x1 x2 x3 : Int) : Nat → Bool
  | 0 => (decide (0 ≤ x0 ∧ x0 ≤ 8) && (decide (0 ≤ x1 ∧ x1 ≤ 12) && (decide (0 ≤ x2 ∧ x2 ≤ 48) && decide (1 ≤ x3 ∧ x3 ≤ 400))))
  | 1 => (decide (0 ≤ x1 ∧ x1 ≤ 12) && (decide (0 ≤ x2 ∧ x2 ≤ 48) && decide (1 ≤ x3 ∧ x3 ≤ 400)))
  | 2 => (decide (0 ≤ x2 ∧ x2 ≤ 48) && decide (1 ≤ x3 ∧ x3 ≤ 400))
  | 3 => decide (1 ≤ x3 ∧ x3 ≤ 400)
  | _ => true
set_option maxRecDepth 100000 in
set_option maxHeartbeats 4000000 in
theorem headerValid_any (w : World) (h : Hd) : Calls Tryz.prog 71 #[h.agg] w fun e w' => e = .returned (.bool (hdOk h)) ∧ Below w.heap.size w w' := by
  obtain ⟨x0, x1, x2, x3⟩ := h
  obtain ⟨ok, hok⟩ : ∃ q, q = hdOk ⟨x0, x1, x2, x3⟩ := ⟨_, rfl⟩
  have HOK : Hid (ok = hdRest x0 x1 x2 x3 0) := hok
  rw [← hok]
  clear hok
  unfold Hd.agg
  have hB : Below w.heap.size w (w.alloc (.cells #[.int .i64 x0, .int .i64 x1, .int .i64 x2, .int .i64 x3] 48)) := (Below.refl _ _).alloc (Nat.le_refl _) _
  go_enter Tryz.func71, Tryz.ntmps71
  go_wp2_with fail
  refine (fieldsOf_any _ _).mono ?_
  rintro e w1 ⟨rfl, hb1⟩
  have hx1 : Has w1 w.heap.size 48 #[.int .i64 x0, .int .i64 x1, .int .i64 x2, .int .i64 x3] := (Has.new w _ _).below hb1 (by simp)
  have HX1 := hidden hx1
  have HB1 := hidden (hB.trans (hb1.mono hB.size))
  clear hb1 hB hx1
  go_wp2_with fail
  go_loopw [6] (fun i wr => ∃ k : Nat, i = .int .i64 k ∧ k ≤ 4 ∧ Hid (ok = hdRest x0 x1 x2 x3 k) ∧ Below w1.heap.size w1 wr) (fun i _ => 4 - (intOf i).toNat)
  case atStart => exact ⟨0, rfl, by omega, HOK, Below.refl _ _⟩
  case round =>
    obtain ⟨k, rfl, hk, hall, hbw⟩ := hrel
    clear HOK
    have hsz : w.heap.size < wr.heap.size := Nat.lt_of_lt_of_le HX1.out.lt hbw.size
    have hbx := hidden (HB1.out.trans (hbw.mono HB1.out.size))
    have hc : k = 0 ∨ k = 1 ∨ k = 2 ∨ k = 3 ∨ k = 4 := by omega
    rcases hc with rfl | rfl | rfl | rfl | rfl
    · have hW := hidden (hbx.out.alloc hbx.out.size (.cells #[.pointer (some ⟨w.heap.size, 0, none⟩), .int .i64 1, .int .i64 0, .int .i64 8] 111))
      have hW1 := hidden (hbw.alloc hbw.size (.cells #[.pointer (some ⟨w.heap.size, 0, none⟩), .int .i64 1, .int .i64 0, .int .i64 8] 111))
      have q0 : ∀ m, ((wr.alloc (.cells #[.pointer (some ⟨w.heap.size, 0, none⟩), .int .i64 1, .int .i64 0, .int .i64 8] 111)).drewN m).cell? ⟨w.heap.size, 0, none⟩ = some (.int .i64 x0) := fun m => (((HX1.out.below hbw HX1.out.lt).alloc _).drewN m).cell 0
      clear hbw hbx hsz hk
      have hix : ∀ W : World, (Instr.index 112 (.agg #[.pointer (some ⟨w.heap.size, 0, none⟩), .int .i64 1, .int .i64 0, .int .i64 8, .pointer (some ⟨w.heap.size, 1, none⟩), .int .i64 1, .int .i64 0, .int .i64 12, .pointer (some ⟨w.heap.size, 2, none⟩), .int .i64 1, .int .i64 0, .int .i64 48, .pointer (some ⟨w.heap.size, 3, none⟩), .int .i64 2, .int .i64 1, .int .i64 400]) (.int .i64 0)).run Tryz.prog W = .ok (.agg #[.pointer (some ⟨w.heap.size, 0, none⟩), .int .i64 1, .int .i64 0, .int .i64 8]) W := fun _ => by kernel_rfl
      have HE : Hid (ok = (decide (0 ≤ x0 ∧ x0 ≤ 8) && hdRest x0 x1 x2 x3 1)) := by show _ = _; rw [hall.out]; rfl
      clear hall
      by_cases hlo : x0 < 0
      · have HF : Hid (ok = false) := by show _ = _; rw [HE.out, show decide (0 ≤ x0 ∧ x0 ≤ 8) = false by simp; omega]; rfl
        clear HE
        go_wp2_with fail
        go_quiet (fail)
        go_wp2_with fail
        go_ret
        exact ⟨ret_bool HF.out.symm, below_drewN hW.out _⟩
      by_cases hhi : 8 < x0
      · have HF : Hid (ok = false) := by show _ = _; rw [HE.out, show decide (0 ≤ x0 ∧ x0 ≤ 8) = false by simp; omega]; rfl
        clear HE
        go_wp2_with fail
        go_quiet (fail)
        go_wp2_with fail
        go_ret
        exact ⟨ret_bool HF.out.symm, below_drewN hW.out _⟩
      have HN : Hid (ok = hdRest x0 x1 x2 x3 1) := by show _ = _; rw [HE.out, show decide (0 ≤ x0 ∧ x0 ≤ 8) = true by simp; omega]; rfl
      clear HE
      go_wp2_with fail
      go_quiet (fail)
      go_wp2_with fail
      go_roundw
      case rel => exact ⟨1, by go_num, by omega, HN, below_drewN hW1.out _⟩
      case measure => simp [intOf]
    · have hW := hidden (hbx.out.alloc hbx.out.size (.cells #[.pointer (some ⟨w.heap.size, 1, none⟩), .int .i64 1, .int .i64 0, .int .i64 12] 111))
      have hW1 := hidden (hbw.alloc hbw.size (.cells #[.pointer (some ⟨w.heap.size, 1, none⟩), .int .i64 1, .int .i64 0, .int .i64 12] 111))
      have q0 : ∀ m, ((wr.alloc (.cells #[.pointer (some ⟨w.heap.size, 1, none⟩), .int .i64 1, .int .i64 0, .int .i64 12] 111)).drewN m).cell? ⟨w.heap.size, 1, none⟩ = some (.int .i64 x1) := fun m => (((HX1.out.below hbw HX1.out.lt).alloc _).drewN m).cell 1
      clear hbw hbx hsz hk
      have hix : ∀ W : World, (Instr.index 112 (.agg #[.pointer (some ⟨w.heap.size, 0, none⟩), .int .i64 1, .int .i64 0, .int .i64 8, .pointer (some ⟨w.heap.size, 1, none⟩), .int .i64 1, .int .i64 0, .int .i64 12, .pointer (some ⟨w.heap.size, 2, none⟩), .int .i64 1, .int .i64 0, .int .i64 48, .pointer (some ⟨w.heap.size, 3, none⟩), .int .i64 2, .int .i64 1, .int .i64 400]) (.int .i64 1)).run Tryz.prog W = .ok (.agg #[.pointer (some ⟨w.heap.size, 1, none⟩), .int .i64 1, .int .i64 0, .int .i64 12]) W := fun _ => by kernel_rfl
      have HE : Hid (ok = (decide (0 ≤ x1 ∧ x1 ≤ 12) && hdRest x0 x1 x2 x3 2)) := by show _ = _; rw [hall.out]; rfl
      clear hall
      by_cases hlo : x1 < 0
      · have HF : Hid (ok = false) := by show _ = _; rw [HE.out, show decide (0 ≤ x1 ∧ x1 ≤ 12) = false by simp; omega]; rfl
        clear HE
        go_wp2_with fail
        go_quiet (fail)
        go_wp2_with fail
        go_ret
        exact ⟨ret_bool HF.out.symm, below_drewN hW.out _⟩
      by_cases hhi : 12 < x1
      · have HF : Hid (ok = false) := by show _ = _; rw [HE.out, show decide (0 ≤ x1 ∧ x1 ≤ 12) = false by simp; omega]; rfl
        clear HE
        go_wp2_with fail
        go_quiet (fail)
        go_wp2_with fail
        go_ret
        exact ⟨ret_bool HF.out.symm, below_drewN hW.out _⟩
      have HN : Hid (ok = hdRest x0 x1 x2 x3 2) := by show _ = _; rw [HE.out, show decide (0 ≤ x1 ∧ x1 ≤ 12) = true by simp; omega]; rfl
      clear HE
      go_wp2_with fail
      go_quiet (fail)
      go_wp2_with fail
      go_roundw
      case rel => exact ⟨2, by go_num, by omega, HN, below_drewN hW1.out _⟩
      case measure => simp [intOf]
    · have hW := hidden (hbx.out.alloc hbx.out.size (.cells #[.pointer (some ⟨w.heap.size, 2, none⟩), .int .i64 1, .int .i64 0, .int .i64 48] 111))
      have hW1 := hidden (hbw.alloc hbw.size (.cells #[.pointer (some ⟨w.heap.size, 2, none⟩), .int .i64 1, .int .i64 0, .int .i64 48] 111))
      have q0 : ∀ m, ((wr.alloc (.cells #[.pointer (some ⟨w.heap.size, 2, none⟩), .int .i64 1, .int .i64 0, .int .i64 48] 111)).drewN m).cell? ⟨w.heap.size, 2, none⟩ = some (.int .i64 x2) := fun m => (((HX1.out.below hbw HX1.out.lt).alloc _).drewN m).cell 2
      clear hbw hbx hsz hk
      have hix : ∀ W : World, (Instr.index 112 (.agg #[.pointer (some ⟨w.heap.size, 0, none⟩), .int .i64 1, .int .i64 0, .int .i64 8, .pointer (some ⟨w.heap.size, 1, none⟩), .int .i64 1, .int .i64 0, .int .i64 12, .pointer (some ⟨w.heap.size, 2, none⟩), .int .i64 1, .int .i64 0, .int .i64 48, .pointer (some ⟨w.heap.size, 3, none⟩), .int .i64 2, .int .i64 1, .int .i64 400]) (.int .i64 2)).run Tryz.prog W = .ok (.agg #[.pointer (some ⟨w.heap.size, 2, none⟩), .int .i64 1, .int .i64 0, .int .i64 48]) W := fun _ => by kernel_rfl
      have HE : Hid (ok = (decide (0 ≤ x2 ∧ x2 ≤ 48) && hdRest x0 x1 x2 x3 3)) := by show _ = _; rw [hall.out]; rfl
      clear hall
      by_cases hlo : x2 < 0
      · have HF : Hid (ok = false) := by show _ = _; rw [HE.out, show decide (0 ≤ x2 ∧ x2 ≤ 48) = false by simp; omega]; rfl
        clear HE
        go_wp2_with fail
        go_quiet (fail)
        go_wp2_with fail
        go_ret
        exact ⟨ret_bool HF.out.symm, below_drewN hW.out _⟩
      by_cases hhi : 48 < x2
      · have HF : Hid (ok = false) := by show _ = _; rw [HE.out, show decide (0 ≤ x2 ∧ x2 ≤ 48) = false by simp; omega]; rfl
        clear HE
        go_wp2_with fail
        go_quiet (fail)
        go_wp2_with fail
        go_ret
        exact ⟨ret_bool HF.out.symm, below_drewN hW.out _⟩
      have HN : Hid (ok = hdRest x0 x1 x2 x3 3) := by show _ = _; rw [HE.out, show decide (0 ≤ x2 ∧ x2 ≤ 48) = true by simp; omega]; rfl
      clear HE
      go_wp2_with fail
      go_quiet (fail)
      go_wp2_with fail
      go_roundw
      case rel => exact ⟨3, by go_num, by omega, HN, below_drewN hW1.out _⟩
      case measure => simp [intOf]
    · have hW := hidden (hbx.out.alloc hbx.out.size (.cells #[.pointer (some ⟨w.heap.size, 3, none⟩), .int .i64 2, .int .i64 1, .int .i64 400] 111))
      have hW1 := hidden (hbw.alloc hbw.size (.cells #[.pointer (some ⟨w.heap.size, 3, none⟩), .int .i64 2, .int .i64 1, .int .i64 400] 111))
      have q0 : ∀ m, ((wr.alloc (.cells #[.pointer (some ⟨w.heap.size, 3, none⟩), .int .i64 2, .int .i64 1, .int .i64 400] 111)).drewN m).cell? ⟨w.heap.size, 3, none⟩ = some (.int .i64 x3) := fun m => (((HX1.out.below hbw HX1.out.lt).alloc _).drewN m).cell 3
      clear hbw hbx hsz hk
      have hix : ∀ W : World, (Instr.index 112 (.agg #[.pointer (some ⟨w.heap.size, 0, none⟩), .int .i64 1, .int .i64 0, .int .i64 8, .pointer (some ⟨w.heap.size, 1, none⟩), .int .i64 1, .int .i64 0, .int .i64 12, .pointer (some ⟨w.heap.size, 2, none⟩), .int .i64 1, .int .i64 0, .int .i64 48, .pointer (some ⟨w.heap.size, 3, none⟩), .int .i64 2, .int .i64 1, .int .i64 400]) (.int .i64 3)).run Tryz.prog W = .ok (.agg #[.pointer (some ⟨w.heap.size, 3, none⟩), .int .i64 2, .int .i64 1, .int .i64 400]) W := fun _ => by kernel_rfl
      have HE : Hid (ok = (decide (1 ≤ x3 ∧ x3 ≤ 400) && hdRest x0 x1 x2 x3 4)) := by show _ = _; rw [hall.out]; simp [hdRest]
      clear hall
      by_cases hlo : x3 < 1
      · have HF : Hid (ok = false) := by show _ = _; rw [HE.out, show decide (1 ≤ x3 ∧ x3 ≤ 400) = false by simp; omega]; rfl
        clear HE
        go_wp2_with fail
        go_quiet (fail)
        go_wp2_with fail
        go_ret
        exact ⟨ret_bool HF.out.symm, below_drewN hW.out _⟩
      by_cases hhi : 400 < x3
      · have HF : Hid (ok = false) := by show _ = _; rw [HE.out, show decide (1 ≤ x3 ∧ x3 ≤ 400) = false by simp; omega]; rfl
        clear HE
        go_wp2_with fail
        go_quiet (fail)
        go_wp2_with fail
        go_ret
        exact ⟨ret_bool HF.out.symm, below_drewN hW.out _⟩
      have HN : Hid (ok = hdRest x0 x1 x2 x3 4) := by show _ = _; rw [HE.out, show decide (1 ≤ x3 ∧ x3 ≤ 400) = true by simp; omega]; rfl
      clear HE
      go_wp2_with fail
      go_quiet (fail)
      go_wp2_with fail
      go_roundw
      case rel => exact ⟨4, by go_num, by omega, HN, below_drewN hW1.out _⟩
      case measure => simp [intOf]
    · have HF : Hid (ok = true) := by show _ = _; rw [hall.out]; rfl
      clear hall
      go_wp2_with fail
      go_ret
      exact ⟨ret_bool HF.out.symm, hbx.out⟩
theorem wantHeaderValid : WantHeaderValid := fun w h _ => headerValid_any w h

end Go.Proofs.YtjafekjcncmjjaaGreat

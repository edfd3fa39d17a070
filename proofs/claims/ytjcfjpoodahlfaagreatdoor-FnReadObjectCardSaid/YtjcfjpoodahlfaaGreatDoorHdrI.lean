import Derived.Laws.BytesArg
import Derived.Deep.CutBlock
import Derived.Test.YtjcfjpoodahlfaaGreatDoorGetHd
import Derived.Test.YtjcfjpoodahlfaaGreatDoorRowI
namespace Go.Proofs.YtjcfjpoodahlfaaGreatDoor
open Go.RowKit
structure Hd.fits (h : Hd) : Prop where
  sec : -9223372036854775808 ≤ h.sec ∧ h.sec ≤ 9223372036854775807
  sym : -9223372036854775808 ≤ h.sym ∧ h.sym ≤ 9223372036854775807
  fix : -9223372036854775808 ≤ h.fix ∧ h.fix ≤ 9223372036854775807
  nam : -9223372036854775808 ≤ h.nam ∧ h.nam ≤ 9223372036854775807
open Go.RowKit
set_option maxRecDepth 100000 in
set_option maxHeartbeats 4000000 in
theorem fieldsOf_any (w : World) (g : Nat) : Calls Tryz.prog 96 #[.pointer (some ⟨g, 0, none⟩)] w fun e w' => e = .returned (.agg #[.pointer (some ⟨g, 0, none⟩), .int .i64 1, .int .i64 0, .int .i64 8, .pointer (some ⟨g, 1, none⟩), .int .i64 1, .int .i64 0, .int .i64 12, .pointer (some ⟨g, 2, none⟩), .int .i64 1, .int .i64 0, .int .i64 48, .pointer (some ⟨g, 3, none⟩), .int .i64 2, .int .i64 1, .int .i64 400]) ∧ Below w.heap.size w w' := by
  go_enter Tryz.func96, Tryz.ntmps96
  go_wp2_with fail
  go_region
  go_wp2_with fail
  refine bodyPost_ret (results_cell_row rfl _ _ w.heap.size 123 #[.pointer (some ⟨g, 0, none⟩), .int .i64 1, .int .i64 0, .int .i64 8, .pointer (some ⟨g, 1, none⟩), .int .i64 1, .int .i64 0, .int .i64 12, .pointer (some ⟨g, 2, none⟩), .int .i64 1, .int .i64 0, .int .i64 48, .pointer (some ⟨g, 3, none⟩), .int .i64 2, .int .i64 1, .int .i64 400] (0, 0) _ rfl (Has.new w _ _).drew Tryz.underlying123 rfl (by kernel_rfl)) rfl ?_
  exact ⟨rfl, ((Below.refl _ _).alloc (Nat.le_refl _) _).drew⟩
def hdRest (x0 x1 x2 x3 : Int) : Nat → Bool
  | 0 => (decide (0 ≤ x0 ∧ x0 ≤ 8) && (decide (0 ≤ x1 ∧ x1 ≤ 12) && (decide (0 ≤ x2 ∧ x2 ≤ 48) && decide (1 ≤ x3 ∧ x3 ≤ 400))))
  | 1 => (decide (0 ≤ x1 ∧ x1 ≤ 12) && (decide (0 ≤ x2 ∧ x2 ≤ 48) && decide (1 ≤ x3 ∧ x3 ≤ 400)))
  | 2 => (decide (0 ≤ x2 ∧ x2 ≤ 48) && decide (1 ≤ x3 ∧ x3 ≤ 400))
  | 3 => decide (1 ≤ x3 ∧ x3 ≤ 400)
  | _ => true
set_option maxRecDepth 100000 in
set_option maxHeartbeats 4000000 in
theorem headerValid_any (w : World) (h : Hd) : Calls Tryz.prog 95 #[h.agg] w fun e w' => e = .returned (.bool (hdOk h)) ∧ Below w.heap.size w w' := by
  obtain ⟨x0, x1, x2, x3⟩ := h
  obtain ⟨ok, hok⟩ : ∃ q, q = hdOk ⟨x0, x1, x2, x3⟩ := ⟨_, rfl⟩
  have HOK : Hid (ok = hdRest x0 x1 x2 x3 0) := hok
  rw [← hok]
  clear hok
  unfold Hd.agg
  have hB : Below w.heap.size w (w.alloc (.cells #[.int .i64 x0, .int .i64 x1, .int .i64 x2, .int .i64 x3] 60)) := (Below.refl _ _).alloc (Nat.le_refl _) _
  go_enter Tryz.func95, Tryz.ntmps95
  go_wp2_with fail
  refine (fieldsOf_any _ _).mono ?_
  rintro e w1 ⟨rfl, hb1⟩
  have hx1 : Has w1 w.heap.size 60 #[.int .i64 x0, .int .i64 x1, .int .i64 x2, .int .i64 x3] := (Has.new w _ _).below hb1 (by simp)
  have HX1 := hidden hx1
  have HB1 := hidden (hB.trans (hb1.mono hB.size))
  clear hb1 hB hx1
  go_wp2_with fail
  go_loopw [6] (fun i wr => ∃ k : Nat, i = .int .i64 k ∧ k ≤ 4 ∧ Hid (ok = hdRest x0 x1 x2 x3 k) ∧ Below w1.heap.size w1 wr) (fun i _ => 4 - (intOf i).toNat)
  case atStart => exact ⟨0, rfl, by omega, HOK, Below.refl _ _⟩
  case round =>
    obtain ⟨k, rfl, hk, hall, hbw⟩ := hrel
    clear HOK
    have hsz : w.heap.size < wr.heap.size := Nat.lt_of_lt_of_le HX1.out.lt hbw.size
    have hbx := hidden (HB1.out.trans (hbw.mono HB1.out.size))
    have hc : k = 0 ∨ k = 1 ∨ k = 2 ∨ k = 3 ∨ k = 4 := by omega
    rcases hc with rfl | rfl | rfl | rfl | rfl
    · have hW := hidden (hbx.out.alloc hbx.out.size (.cells #[.pointer (some ⟨w.heap.size, 0, none⟩), .int .i64 1, .int .i64 0, .int .i64 8] 122))
      have hW1 := hidden (hbw.alloc hbw.size (.cells #[.pointer (some ⟨w.heap.size, 0, none⟩), .int .i64 1, .int .i64 0, .int .i64 8] 122))
      have q0 : ∀ m, ((wr.alloc (.cells #[.pointer (some ⟨w.heap.size, 0, none⟩), .int .i64 1, .int .i64 0, .int .i64 8] 122)).drewN m).cell? ⟨w.heap.size, 0, none⟩ = some (.int .i64 x0) := fun m => (((HX1.out.below hbw HX1.out.lt).alloc _).drewN m).cell 0
      clear hbw hbx hsz hk
      have hix : ∀ W : World, (Instr.index 123 (.agg #[.pointer (some ⟨w.heap.size, 0, none⟩), .int .i64 1, .int .i64 0, .int .i64 8, .pointer (some ⟨w.heap.size, 1, none⟩), .int .i64 1, .int .i64 0, .int .i64 12, .pointer (some ⟨w.heap.size, 2, none⟩), .int .i64 1, .int .i64 0, .int .i64 48, .pointer (some ⟨w.heap.size, 3, none⟩), .int .i64 2, .int .i64 1, .int .i64 400]) (.int .i64 0)).run Tryz.prog W = .ok (.agg #[.pointer (some ⟨w.heap.size, 0, none⟩), .int .i64 1, .int .i64 0, .int .i64 8]) W := fun _ => by kernel_rfl
      have HE : Hid (ok = (decide (0 ≤ x0 ∧ x0 ≤ 8) && hdRest x0 x1 x2 x3 1)) := by show _ = _; rw [hall.out]; rfl
      clear hall
      by_cases hlo : x0 < 0
      · have HF : Hid (ok = false) := by show _ = _; rw [HE.out, show decide (0 ≤ x0 ∧ x0 ≤ 8) = false by simp; omega]; rfl
        clear HE
        go_wp2_with fail
        go_quiet (fail)
        go_wp2_with fail
        go_ret
        exact ⟨ret_bool HF.out.symm, below_drewN hW.out _⟩
      by_cases hhi : 8 < x0
      · have HF : Hid (ok = false) := by show _ = _; rw [HE.out, show decide (0 ≤ x0 ∧ x0 ≤ 8) = false by simp; omega]; rfl
        clear HE
        go_wp2_with fail
        go_quiet (fail)
        go_wp2_with fail
        go_ret
        exact ⟨ret_bool HF.out.symm, below_drewN hW.out _⟩
      have HN : Hid (ok = hdRest x0 x1 x2 x3 1) := by show _ = _; rw [HE.out, show decide (0 ≤ x0 ∧ x0 ≤ 8) = true by simp; omega]; rfl
      clear HE
      go_wp2_with fail
      go_quiet (fail)
      go_wp2_with fail
      go_roundw
      case rel => exact ⟨1, by go_num, by omega, HN, below_drewN hW1.out _⟩
      case measure => simp [intOf]
    · have hW := hidden (hbx.out.alloc hbx.out.size (.cells #[.pointer (some ⟨w.heap.size, 1, none⟩), .int .i64 1, .int .i64 0, .int .i64 12] 122))
      have hW1 := hidden (hbw.alloc hbw.size (.cells #[.pointer (some ⟨w.heap.size, 1, none⟩), .int .i64 1, .int .i64 0, .int .i64 12] 122))
      have q0 : ∀ m, ((wr.alloc (.cells #[.pointer (some ⟨w.heap.size, 1, none⟩), .int .i64 1, .int .i64 0, .int .i64 12] 122)).drewN m).cell? ⟨w.heap.size, 1, none⟩ = some (.int .i64 x1) := fun m => (((HX1.out.below hbw HX1.out.lt).alloc _).drewN m).cell 1
      clear hbw hbx hsz hk
      have hix : ∀ W : World, (Instr.index 123 (.agg #[.pointer (some ⟨w.heap.size, 0, none⟩), .int .i64 1, .int .i64 0, .int .i64 8, .pointer (some ⟨w.heap.size, 1, none⟩), .int .i64 1, .int .i64 0, .int .i64 12, .pointer (some ⟨w.heap.size, 2, none⟩), .int .i64 1, .int .i64 0, .int .i64 48, .pointer (some ⟨w.heap.size, 3, none⟩), .int .i64 2, .int .i64 1, .int .i64 400]) (.int .i64 1)).run Tryz.prog W = .ok (.agg #[.pointer (some ⟨w.heap.size, 1, none⟩), .int .i64 1, .int .i64 0, .int .i64 12]) W := fun _ => by kernel_rfl
      have HE : Hid (ok = (decide (0 ≤ x1 ∧ x1 ≤ 12) && hdRest x0 x1 x2 x3 2)) := by show _ = _; rw [hall.out]; rfl
      clear hall
      by_cases hlo : x1 < 0
      · have HF : Hid (ok = false) := by show _ = _; rw [HE.out, show decide (0 ≤ x1 ∧ x1 ≤ 12) = false by simp; omega]; rfl
        clear HE
        go_wp2_with fail
        go_quiet (fail)
        go_wp2_with fail
        go_ret
        exact ⟨ret_bool HF.out.symm, below_drewN hW.out _⟩
      by_cases hhi : 12 < x1
      · have HF : Hid (ok = false) := by show _ = _; rw [HE.out, show decide (0 ≤ x1 ∧ x1 ≤ 12) = false by simp; omega]; rfl
        clear HE
        go_wp2_with fail
        go_quiet (fail)
        go_wp2_with fail
        go_ret
        exact ⟨ret_bool HF.out.symm, below_drewN hW.out _⟩
      have HN : Hid (ok = hdRest x0 x1 x2 x3 2) := by show _ = _; rw [HE.out, show decide (0 ≤ x1 ∧ x1 ≤ 12) = true by simp; omega]; rfl
      clear HE
      go_wp2_with fail
      go_quiet (fail)
      go_wp2_with fail
      go_roundw
      case rel => exact ⟨2, by go_num, by omega, HN, below_drewN hW1.out _⟩
      case measure => simp [intOf]
    · have hW := hidden (hbx.out.alloc hbx.out.size (.cells #[.pointer (some ⟨w.heap.size, 2, none⟩), .int .i64 1, .int .i64 0, .int .i64 48] 122))
      have hW1 := hidden (hbw.alloc hbw.size (.cells #[.pointer (some ⟨w.heap.size, 2, none⟩), .int .i64 1, .int .i64 0, .int .i64 48] 122))
      have q0 : ∀ m, ((wr.alloc (.cells #[.pointer (some ⟨w.heap.size, 2, none⟩), .int .i64 1, .int .i64 0, .int .i64 48] 122)).drewN m).cell? ⟨w.heap.size, 2, none⟩ = some (.int .i64 x2) := fun m => (((HX1.out.below hbw HX1.out.lt).alloc _).drewN m).cell 2
      clear hbw hbx hsz hk
      have hix : ∀ W : World, (Instr.index 123 (.agg #[.pointer (some ⟨w.heap.size, 0, none⟩), .int .i64 1, .int .i64 0, .int .i64 8, .pointer (some ⟨w.heap.size, 1, none⟩), .int .i64 1, .int .i64 0, .int .i64 12, .pointer (some ⟨w.heap.size, 2, none⟩), .int .i64 1, .int .i64 0, .int .i64 48, .pointer (some ⟨w.heap.size, 3, none⟩), .int .i64 2, .int .i64 1, .int .i64 400]) (.int .i64 2)).run Tryz.prog W = .ok (.agg #[.pointer (some ⟨w.heap.size, 2, none⟩), .int .i64 1, .int .i64 0, .int .i64 48]) W := fun _ => by kernel_rfl
      have HE : Hid (ok = (decide (0 ≤ x2 ∧ x2 ≤ 48) && hdRest x0 x1 x2 x3 3)) := by show _ = _; rw [hall.out]; rfl
      clear hall
      by_cases hlo : x2 < 0
      · have HF : Hid (ok = false) := by show _ = _; rw [HE.out, show decide (0 ≤ x2 ∧ x2 ≤ 48) = false by simp; omega]; rfl
        clear HE
        go_wp2_with fail
        go_quiet (fail)
        go_wp2_with fail
        go_ret
        exact ⟨ret_bool HF.out.symm, below_drewN hW.out _⟩
      by_cases hhi : 48 < x2
      · have HF : Hid (ok = false) := by show _ = _; rw [HE.out, show decide (0 ≤ x2 ∧ x2 ≤ 48) = false by simp; omega]; rfl
        clear HE
        go_wp2_with fail
        go_quiet (fail)
        go_wp2_with fail
        go_ret
        exact ⟨ret_bool HF.out.symm, below_drewN hW.out _⟩
      have HN : Hid (ok = hdRest x0 x1 x2 x3 3) := by show _ = _; rw [HE.out, show decide (0 ≤ x2 ∧ x2 ≤ 48) = true by simp; omega]; rfl
      clear HE
      go_wp2_with fail
      go_quiet (fail)
      go_wp2_with fail
      go_roundw
      case rel => exact ⟨3, by go_num, by omega, HN, below_drewN hW1.out _⟩
      case measure => simp [intOf]
    · have hW := hidden (hbx.out.alloc hbx.out.size (.cells #[.pointer (some ⟨w.heap.size, 3, none⟩), .int .i64 2, .int .i64 1, .int .i64 400] 122))
      have hW1 := hidden (hbw.alloc hbw.size (.cells #[.pointer (some ⟨w.heap.size, 3, none⟩), .int .i64 2, .int .i64 1, .int .i64 400] 122))
      have q0 : ∀ m, ((wr.alloc (.cells #[.pointer (some ⟨w.heap.size, 3, none⟩), .int .i64 2, .int .i64 1, .int .i64 400] 122)).drewN m).cell? ⟨w.heap.size, 3, none⟩ = some (.int .i64 x3) := fun m => (((HX1.out.below hbw HX1.out.lt).alloc _).drewN m).cell 3
      clear hbw hbx hsz hk
      have hix : ∀ W : World, (Instr.index 123 (.agg #[.pointer (some ⟨w.heap.size, 0, none⟩), .int .i64 1, .int .i64 0, .int .i64 8, .pointer (some ⟨w.heap.size, 1, none⟩), .int .i64 1, .int .i64 0, .int .i64 12, .pointer (some ⟨w.heap.size, 2, none⟩), .int .i64 1, .int .i64 0, .int .i64 48, .pointer (some ⟨w.heap.size, 3, none⟩), .int .i64 2, .int .i64 1, .int .i64 400]) (.int .i64 3)).run Tryz.prog W = .ok (.agg #[.pointer (some ⟨w.heap.size, 3, none⟩), .int .i64 2, .int .i64 1, .int .i64 400]) W := fun _ => by kernel_rfl
      have HE : Hid (ok = (decide (1 ≤ x3 ∧ x3 ≤ 400) && hdRest x0 x1 x2 x3 4)) := by show _ = _; rw [hall.out]; simp [hdRest]
      clear hall
      by_cases hlo : x3 < 1
      · have HF : Hid (ok = false) := by show _ = _; rw [HE.out, show decide (1 ≤ x3 ∧ x3 ≤ 400) = false by simp; omega]; rfl
        clear HE
        go_wp2_with fail
        go_quiet (fail)
        go_wp2_with fail
        go_ret
        exact ⟨ret_bool HF.out.symm, below_drewN hW.out _⟩
      by_cases hhi : 400 < x3
      · have HF : Hid (ok = false) := by show _ = _; rw [HE.out, show decide (1 ≤ x3 ∧ x3 ≤ 400) = false by simp; omega]; rfl
        clear HE
        go_wp2_with fail
        go_quiet (fail)
        go_wp2_with fail
        go_ret
        exact ⟨ret_bool HF.out.symm, below_drewN hW.out _⟩
      have HN : Hid (ok = hdRest x0 x1 x2 x3 4) := by show _ = _; rw [HE.out, show decide (1 ≤ x3 ∧ x3 ≤ 400) = true by simp; omega]; rfl
      clear HE
      go_wp2_with fail
      go_quiet (fail)
      go_wp2_with fail
      go_roundw
      case rel => exact ⟨4, by go_num, by omega, HN, below_drewN hW1.out _⟩
      case measure => simp [intOf]
    · have HF : Hid (ok = true) := by show _ = _; rw [hall.out]; rfl
      clear hall
      go_wp2_with fail
      go_ret
      exact ⟨ret_bool HF.out.symm, hbx.out⟩
open Go.RowKit
structure JP (wT : World) (b : Nat) (t : TypeId) (cs : Array Value) (v : Value) (N : Nat) (L : List Int) (m : Nat) (nb : List Int) (k : Nat) (W : World) (vals : Nat → Value) : Prop where
  cs : CS wT W b t cs
  row : k ≤ 1 → RowE W wT.heap.size v N L
  num : k = 1 → ∃ ad c, vals 0 = .slice ad m c ∧ Ints W .u8 W.heap.size ad nb
  app : k = 2 → RowI W wT.heap.size (vals 1) (N + m) (L ++ nb)
  fin : k = 3 → RowI W wT.heap.size (vals 2) (N + m) (L ++ nb)
def hdPart (x0 x1 x2 x3 : Int) : Nat → List Int
  | 0 => [111, 98, 106, 1]
  | 1 => [111, 98, 106, 1, x0]
  | 2 => [111, 98, 106, 1, x0, x1]
  | 3 => [111, 98, 106, 1, x0, x1, x2]
  | _ => [111, 98, 106, 1, x0, x1, x2, x3 % 256, x3 / 256]
theorem putNumber_ints (n k : Int) (m : Nat) (nb : List Int) (hp : putList n k = nb) (hm : nb.length = m) (w : World) :
    Calls Tryz.prog 97 #[.int .i64 n, .int .i64 k] w fun e w' => ∃ ad c, e = .returned (.slice ad m c) ∧ Ints w' .u8 w'.heap.size ad nb ∧ Below w.heap.size w w' :=
  (putNumber_any n k w).mono fun e w' ⟨a, he, ho, hb⟩ => ⟨a, m, by rw [he, hp, hm], by rw [← hp]; exact ho.ints, hb⟩
set_option maxRecDepth 100000 in
set_option maxHeartbeats 4000000 in
theorem putHeader_any (w : World) (h : Hd) : Calls Tryz.prog 62 #[h.agg] w (RowB w (putHd h)) := by
  obtain ⟨x0, x1, x2, x3⟩ := h
  obtain ⟨l, hl⟩ : ∃ l, putHd ⟨x0, x1, x2, x3⟩ = l := ⟨_, rfl⟩
  have HL := hidden hl
  have HV := hidden (fun W => headerValid_any W ⟨x0, x1, x2, x3⟩)
  rw [hl]
  unfold Hd.agg at *
  clear hl
  have hB : Below w.heap.size w (w.alloc (.cells #[.int .i64 x0, .int .i64 x1, .int .i64 x2, .int .i64 x3] 60)) := (Below.refl _ _).alloc (Nat.le_refl _) _
  have hx0 : Has (w.alloc (.cells #[.int .i64 x0, .int .i64 x1, .int .i64 x2, .int .i64 x3] 60)) w.heap.size 60 #[.int .i64 x0, .int .i64 x1, .int .i64 x2, .int .i64 x3] := Has.new _ _ _
  have c0 := hx0.cell 0
  have c1 := hx0.cell 1
  have c2 := hx0.cell 2
  have c3 := hx0.cell 3
  obtain ⟨ok, hok⟩ : ∃ q, hdOk ⟨x0, x1, x2, x3⟩ = q := ⟨_, rfl⟩
  rw [hok] at HV
  have HOK := hidden hok
  have HX0 := hidden hx0
  clear hok hx0
  go_enter Tryz.func62, Tryz.ntmps62
  go_wp2_with fail
  refine (HV.out _).mono ?_
  clear HV
  rintro e w1 ⟨rfl, hb1⟩
  have hx1 : Has w1 w.heap.size 60 #[.int .i64 x0, .int .i64 x1, .int .i64 x2, .int .i64 x3] := HX0.out.below hb1 (by simp)
  have HX1 := hidden hx1
  have HB1 := hidden (hB.trans (hb1.mono hB.size))
  clear hb1 hB hx1 HX0 c0 c1 c2 c3
  rcases ok with _ | _
  · have HE : Hid ([] = l) := by show _ = _; rw [← HL.out]; unfold putHd; rw [HOK.out]; rfl
    go_wp2_with fail
    go_ret
    refine ⟨_, rfl, ?_, HB1.out⟩
    rw [← HE.out]
    exact ⟨rfl, .inl ⟨rfl, rfl⟩⟩
  obtain ⟨h1, h2, h3, h4⟩ : (0 ≤ x0 ∧ x0 ≤ 8) ∧ (0 ≤ x1 ∧ x1 ≤ 12) ∧ (0 ≤ x2 ∧ x2 ≤ 48) ∧ 1 ≤ x3 ∧ x3 ≤ 400 := hdOk_iff.1 HOK.out
  have HE : Hid (l = hdPart x0 x1 x2 x3 4 ++ [0]) := by show _ = _; rw [← HL.out]; unfold putHd; rw [HOK.out]; rfl
  have HP0 : Hid (putList x0 1 = [x0]) := by show _ = _; rw [putList_yes (by omega) (by omega) (by omega) (by show x0 < 256; omega)]; exact bytesOf_1 x0 (by omega) (by omega)
  have HP1 : Hid (putList x1 1 = [x1]) := by show _ = _; rw [putList_yes (by omega) (by omega) (by omega) (by show x1 < 256; omega)]; exact bytesOf_1 x1 (by omega) (by omega)
  have HP2 : Hid (putList x2 1 = [x2]) := by show _ = _; rw [putList_yes (by omega) (by omega) (by omega) (by show x2 < 256; omega)]; exact bytesOf_1 x2 (by omega) (by omega)
  have HP3 : Hid (putList x3 2 = [x3 % 256, x3 / 256]) := by show _ = _; rw [putList_yes (by omega) (by omega) (by omega) (by show x3 < 65536; omega)]; exact bytesOf_2 x3 (by omega) (by omega)
  clear HL HOK h1 h2 h3 h4
  have kc := fun (w : World) (C : Array Value) (n c : Nat) => Lib.run_convert_bytes_const (P := Tryz.prog) w 22 5 C n c Tryz.underlying22 Tryz.underlying5
  have hcl : ∀ i, i < (hdPart x0 x1 x2 x3 0).length → (w1.alloc (.cells #[.int .u8 111, .int .u8 98, .int .u8 106, .int .u8 1] 5 (4, 5))).cell? ⟨w1.heap.size, i, none⟩ = some (.int .u8 ((hdPart x0 x1 x2 x3 0).getD i 0)) := fun i hi => by
    have hh : (w1.alloc (.cells #[.int .u8 111, .int .u8 98, .int .u8 106, .int .u8 1] 5 (4, 5))).heap[w1.heap.size]? = some (.cells #[.int .u8 111, .int .u8 98, .int .u8 106, .int .u8 1] 5 (4, 5)) := heap_alloc_new w1 _
    rw [cell_of_row _ _ _ _ _ _ hh]
    have hi4 : i < 4 := hi
    have hc : i = 0 ∨ i = 1 ∨ i = 2 ∨ i = 3 := by omega
    rcases hc with rfl | rfl | rfl | rfl <;> rfl
  have hrow0 : RowE (w1.alloc (.cells #[.int .u8 111, .int .u8 98, .int .u8 106, .int .u8 1] 5 (4, 5))) w1.heap.size (.slice (some ⟨w1.heap.size, 0, none⟩) 4 4) 4 (hdPart x0 x1 x2 x3 0) := .inr ⟨rfl, w1.heap.size, rfl, by simp, hcl⟩
  have hb0 : Below w1.heap.size w1 (w1.alloc (.cells #[.int .u8 111, .int .u8 98, .int .u8 106, .int .u8 1] 5 (4, 5))) := (Below.refl _ _).alloc (Nat.le_refl _) _
  go_wp2_with fail
  refine (fieldsOf_any _ _).mono ?_
  rintro e w2 ⟨rfl, hb2⟩
  have hrow2 := hidden (hrow0.only hb2)
  have hbw2 := hidden (hb0.trans (hb2.mono hb0.size))
  clear hrow0 hb0 hb2 kc hcl
  go_wp2_with fail
  go_loopw [3, 12] (fun v i wr => ∃ (k g cp N : Nat) (L : List Int), v = .slice (some ⟨g, 0, none⟩) N cp ∧ i = .int .i64 k ∧ k ≤ 4 ∧ Hid (RowE wr w1.heap.size (.slice (some ⟨g, 0, none⟩) N cp) N L) ∧ Hid (L = hdPart x0 x1 x2 x3 k) ∧ 0 < N ∧ N ≤ 4 + 2 * k ∧ Below w1.heap.size w1 wr) (fun _ i _ => 4 - (intOf i).toNat)
  case atStart => exact ⟨0, _, _, _, _, rfl, rfl, by omega, hrow2, hidden rfl, by omega, by omega, hbw2.out⟩
  case round =>
    obtain ⟨k, g, cp, N, L, rfl, rfl, hk, hrow, hL, hN0, hN1, hbw⟩ := hrel
    clear hrow2 hbw2
    have hc : k = 0 ∨ k = 1 ∨ k = 2 ∨ k = 3 ∨ k = 4 := by omega
    rcases hc with rfl | rfl | rfl | rfl | rfl
    · have hix : ∀ W : World, (Instr.index 123 (.agg #[.pointer (some ⟨w.heap.size, 0, none⟩), .int .i64 1, .int .i64 0, .int .i64 8, .pointer (some ⟨w.heap.size, 1, none⟩), .int .i64 1, .int .i64 0, .int .i64 12, .pointer (some ⟨w.heap.size, 2, none⟩), .int .i64 1, .int .i64 0, .int .i64 48, .pointer (some ⟨w.heap.size, 3, none⟩), .int .i64 2, .int .i64 1, .int .i64 400]) (.int .i64 0)).run Tryz.prog W = .ok (.agg #[.pointer (some ⟨w.heap.size, 0, none⟩), .int .i64 1, .int .i64 0, .int .i64 8]) W := fun _ => by kernel_rfl
      have HPN := hidden (putNumber_ints x0 1 1 [x0] HP0.out rfl)
      have hJ0 : Hid (JP w1 wr.heap.size 122 #[.pointer (some ⟨w.heap.size, 0, none⟩), .int .i64 1, .int .i64 0, .int .i64 8] (.slice (some ⟨g, 0, none⟩) N cp) N L 1 [x0] 0 (wr.alloc (.cells #[.pointer (some ⟨w.heap.size, 0, none⟩), .int .i64 1, .int .i64 0, .int .i64 8] 122)).drew fun _ => undef) := ⟨⟨(hbw.alloc hbw.size _).drew, (Has.new _ _ _).drew⟩, fun _ => (hrow.out.alloc _).drew, fun h => absurd h (by decide), fun h => absurd h (by decide), fun h => absurd h (by decide)⟩
      clear hrow hbw
      go_upto_region 7 with fail
      refine wp_region_chain (m := 3) (js := [.quiet (.slice (some ⟨g, 0, none⟩) N cp) 3, .quiet (.pointer (some ⟨wr.heap.size, 0, none⟩)) 3, .quiet (.pointer (some ⟨w.heap.size, 0, none⟩)) 3, .quiet (.pointer (some ⟨w.heap.size, 0, none⟩)) 3, .quiet (.int .i64 x0) 3, .quiet (.pointer (some ⟨wr.heap.size, 1, none⟩)) 3, .quiet (.int .i64 1) 3, .chain 0, .chain 1, .chain 2]) (by kernel_rfl) (JP w1 wr.heap.size 122 #[.pointer (some ⟨w.heap.size, 0, none⟩), .int .i64 1, .int .i64 0, .int .i64 8] (.slice (some ⟨g, 0, none⟩) N cp) N L 1 [x0]) (by kernel_rfl) (by kernel_rfl) ⟨_, hJ0.out⟩ (fun vals => ?_) ?_
      · show SeqW _ _ _ _ _ _ _
        iterate 2
          refine ⟨fun kk hkk W hW => ?_, ?_⟩
          · unfold Oper.wp
            simp [go_sem]
            try exact ⟨_, rfl, rfl⟩
          simp only [Act.put, pA, pB, pC]
        refine ⟨fun kk hkk W hW => ?_, ?_⟩
        · have q : W.cell? ⟨wr.heap.size, 0, none⟩ = some (.pointer (some ⟨w.heap.size, 0, none⟩)) := hW.cs.has.cell 0
          unfold Oper.wp
          simp [go_sem, q]
          try exact ⟨_, rfl, rfl⟩
        simp only [Act.put, pA, pB, pC]
        refine ⟨fun kk hkk W hW => ?_, ?_⟩
        · unfold Oper.wp
          simp [go_sem]
          try exact ⟨_, rfl, rfl⟩
        simp only [Act.put, pA, pB, pC]
        refine ⟨fun kk hkk W hW => ?_, ?_⟩
        · have q : W.cell? ⟨w.heap.size, 0, none⟩ = some (.int .i64 x0) := (HX1.out.below hW.cs.below HX1.out.lt).cell 0
          unfold Oper.wp
          simp [go_sem, q]
          try exact ⟨_, rfl, rfl⟩
        simp only [Act.put, pA, pB, pC]
        refine ⟨fun kk hkk W hW => ?_, ?_⟩
        · unfold Oper.wp
          simp [go_sem]
          try exact ⟨_, rfl, rfl⟩
        simp only [Act.put, pA, pB, pC]
        refine ⟨fun kk hkk W hW => ?_, ?_⟩
        · have q : W.cell? ⟨wr.heap.size, 1, none⟩ = some (.int .i64 1) := hW.cs.has.cell 1
          unfold Oper.wp
          simp [go_sem, q]
          try exact ⟨_, rfl, rfl⟩
        simp only [Act.put, pA, pB, pC]
        refine ⟨fun W hW => ?_, ?_⟩
        · unfold Oper.wp
          simp [go_sem]
          refine (HPN.out W).mono ?_
          rintro e w' ⟨ad, c, rfl, hi, hb⟩
          have hN : JP w1 wr.heap.size 122 #[.pointer (some ⟨w.heap.size, 0, none⟩), .int .i64 1, .int .i64 0, .int .i64 8] (.slice (some ⟨g, 0, none⟩) N cp) N L 1 [x0] 1 w' (upd vals 0 (.slice ad 1 c)) := ⟨hW.cs.call hb, fun _ => (hW.row (by decide)).only hb, fun _ => ⟨ad, c, rfl, hi⟩, fun h => absurd h (by decide), fun h => absurd h (by decide)⟩
          first | exact hN | exact ⟨_, rfl, hN⟩
        simp only [Act.put, pA, pB, pC]
        refine ⟨fun W hW => ?_, ?_⟩
        · obtain ⟨ad, c, hv, hi⟩ := hW.num rfl
          refine wp_append_e _ _ rfl w1.heap.size (.slice (some ⟨g, 0, none⟩) N cp) N L rfl (hW.row (by decide)) ad 1 c W.heap.size [x0] rfl (by decide) hv hi (by omega) hW.cs.below.size (fun v' w' h1 h2 h3 => ?_)
          have hN : JP w1 wr.heap.size 122 #[.pointer (some ⟨w.heap.size, 0, none⟩), .int .i64 1, .int .i64 0, .int .i64 8] (.slice (some ⟨g, 0, none⟩) N cp) N L 1 [x0] 2 w' (upd vals 1 v') := ⟨⟨h2 _ hW.cs.below hW.cs.below.size, h3 _ _ _ (by decide) hW.cs.has⟩, fun h => absurd h (by decide), fun h => absurd h (by decide), fun _ => h1, fun h => absurd h (by decide)⟩
          exact ⟨_, rfl, hN⟩
        simp only [Act.put, pA, pB, pC]
        refine ⟨fun W hW => ?_, trivial⟩
        have hN : JP w1 wr.heap.size 122 #[.pointer (some ⟨w.heap.size, 0, none⟩), .int .i64 1, .int .i64 0, .int .i64 8] (.slice (some ⟨g, 0, none⟩) N cp) N L 1 [x0] 3 W (upd vals 2 (vals 1)) := ⟨hW.cs, fun h => absurd h (by decide), fun h => absurd h (by decide), fun h => absurd h (by decide), fun _ => hW.app rfl⟩
        unfold Oper.wp
        simp [go_sem]
        first | exact hN | exact ⟨_, rfl, hN⟩
      · intro W vals hJ
        have row7 := hJ.fin rfl
        obtain ⟨ge, cpe, hve⟩ := row7.shape (by omega)
        have hbW := hJ.cs.below
        simp only [putAll, List.map_cons, List.map_nil, Job.val, Act.put, pA, pB, pC]
        rw [hve] at row7 ⊢
        obtain ⟨Ne, hNe⟩ : ∃ q, N + 1 = q := ⟨_, rfl⟩
        rw [hNe] at row7 ⊢
        have HROW7 := hidden row7
        have HEQ : Hid (L ++ [x0] = hdPart x0 x1 x2 x3 1) := by show _ = _; rw [hL.out]; rfl
        have hNb : Ne ≤ 4 + 2 * 1 := by omega
        have hNe0 : 0 < Ne := by omega
        clear hve hJ row7 hNe hJ0 HPN hix hL
        go_wp2_with fail
        go_roundw
        case rel => exact ⟨1, ge, cpe, Ne, _, rfl, by go_num, by omega, hidden (.inl HROW7.out), HEQ, hNe0, hNb, hbW⟩
        case measure => simp [intOf]
    · have hix : ∀ W : World, (Instr.index 123 (.agg #[.pointer (some ⟨w.heap.size, 0, none⟩), .int .i64 1, .int .i64 0, .int .i64 8, .pointer (some ⟨w.heap.size, 1, none⟩), .int .i64 1, .int .i64 0, .int .i64 12, .pointer (some ⟨w.heap.size, 2, none⟩), .int .i64 1, .int .i64 0, .int .i64 48, .pointer (some ⟨w.heap.size, 3, none⟩), .int .i64 2, .int .i64 1, .int .i64 400]) (.int .i64 1)).run Tryz.prog W = .ok (.agg #[.pointer (some ⟨w.heap.size, 1, none⟩), .int .i64 1, .int .i64 0, .int .i64 12]) W := fun _ => by kernel_rfl
      have HPN := hidden (putNumber_ints x1 1 1 [x1] HP1.out rfl)
      have hJ0 : Hid (JP w1 wr.heap.size 122 #[.pointer (some ⟨w.heap.size, 1, none⟩), .int .i64 1, .int .i64 0, .int .i64 12] (.slice (some ⟨g, 0, none⟩) N cp) N L 1 [x1] 0 (wr.alloc (.cells #[.pointer (some ⟨w.heap.size, 1, none⟩), .int .i64 1, .int .i64 0, .int .i64 12] 122)).drew fun _ => undef) := ⟨⟨(hbw.alloc hbw.size _).drew, (Has.new _ _ _).drew⟩, fun _ => (hrow.out.alloc _).drew, fun h => absurd h (by decide), fun h => absurd h (by decide), fun h => absurd h (by decide)⟩
      clear hrow hbw
      go_upto_region 7 with fail
      refine wp_region_chain (m := 3) (js := [.quiet (.slice (some ⟨g, 0, none⟩) N cp) 3, .quiet (.pointer (some ⟨wr.heap.size, 0, none⟩)) 3, .quiet (.pointer (some ⟨w.heap.size, 1, none⟩)) 3, .quiet (.pointer (some ⟨w.heap.size, 1, none⟩)) 3, .quiet (.int .i64 x1) 3, .quiet (.pointer (some ⟨wr.heap.size, 1, none⟩)) 3, .quiet (.int .i64 1) 3, .chain 0, .chain 1, .chain 2]) (by kernel_rfl) (JP w1 wr.heap.size 122 #[.pointer (some ⟨w.heap.size, 1, none⟩), .int .i64 1, .int .i64 0, .int .i64 12] (.slice (some ⟨g, 0, none⟩) N cp) N L 1 [x1]) (by kernel_rfl) (by kernel_rfl) ⟨_, hJ0.out⟩ (fun vals => ?_) ?_
      · show SeqW _ _ _ _ _ _ _
        iterate 2
          refine ⟨fun kk hkk W hW => ?_, ?_⟩
          · unfold Oper.wp
            simp [go_sem]
            try exact ⟨_, rfl, rfl⟩
          simp only [Act.put, pA, pB, pC]
        refine ⟨fun kk hkk W hW => ?_, ?_⟩
        · have q : W.cell? ⟨wr.heap.size, 0, none⟩ = some (.pointer (some ⟨w.heap.size, 1, none⟩)) := hW.cs.has.cell 0
          unfold Oper.wp
          simp [go_sem, q]
          try exact ⟨_, rfl, rfl⟩
        simp only [Act.put, pA, pB, pC]
        refine ⟨fun kk hkk W hW => ?_, ?_⟩
        · unfold Oper.wp
          simp [go_sem]
          try exact ⟨_, rfl, rfl⟩
        simp only [Act.put, pA, pB, pC]
        refine ⟨fun kk hkk W hW => ?_, ?_⟩
        · have q : W.cell? ⟨w.heap.size, 1, none⟩ = some (.int .i64 x1) := (HX1.out.below hW.cs.below HX1.out.lt).cell 1
          unfold Oper.wp
          simp [go_sem, q]
          try exact ⟨_, rfl, rfl⟩
        simp only [Act.put, pA, pB, pC]
        refine ⟨fun kk hkk W hW => ?_, ?_⟩
        · unfold Oper.wp
          simp [go_sem]
          try exact ⟨_, rfl, rfl⟩
        simp only [Act.put, pA, pB, pC]
        refine ⟨fun kk hkk W hW => ?_, ?_⟩
        · have q : W.cell? ⟨wr.heap.size, 1, none⟩ = some (.int .i64 1) := hW.cs.has.cell 1
          unfold Oper.wp
          simp [go_sem, q]
          try exact ⟨_, rfl, rfl⟩
        simp only [Act.put, pA, pB, pC]
        refine ⟨fun W hW => ?_, ?_⟩
        · unfold Oper.wp
          simp [go_sem]
          refine (HPN.out W).mono ?_
          rintro e w' ⟨ad, c, rfl, hi, hb⟩
          have hN : JP w1 wr.heap.size 122 #[.pointer (some ⟨w.heap.size, 1, none⟩), .int .i64 1, .int .i64 0, .int .i64 12] (.slice (some ⟨g, 0, none⟩) N cp) N L 1 [x1] 1 w' (upd vals 0 (.slice ad 1 c)) := ⟨hW.cs.call hb, fun _ => (hW.row (by decide)).only hb, fun _ => ⟨ad, c, rfl, hi⟩, fun h => absurd h (by decide), fun h => absurd h (by decide)⟩
          first | exact hN | exact ⟨_, rfl, hN⟩
        simp only [Act.put, pA, pB, pC]
        refine ⟨fun W hW => ?_, ?_⟩
        · obtain ⟨ad, c, hv, hi⟩ := hW.num rfl
          refine wp_append_e _ _ rfl w1.heap.size (.slice (some ⟨g, 0, none⟩) N cp) N L rfl (hW.row (by decide)) ad 1 c W.heap.size [x1] rfl (by decide) hv hi (by omega) hW.cs.below.size (fun v' w' h1 h2 h3 => ?_)
          have hN : JP w1 wr.heap.size 122 #[.pointer (some ⟨w.heap.size, 1, none⟩), .int .i64 1, .int .i64 0, .int .i64 12] (.slice (some ⟨g, 0, none⟩) N cp) N L 1 [x1] 2 w' (upd vals 1 v') := ⟨⟨h2 _ hW.cs.below hW.cs.below.size, h3 _ _ _ (by decide) hW.cs.has⟩, fun h => absurd h (by decide), fun h => absurd h (by decide), fun _ => h1, fun h => absurd h (by decide)⟩
          exact ⟨_, rfl, hN⟩
        simp only [Act.put, pA, pB, pC]
        refine ⟨fun W hW => ?_, trivial⟩
        have hN : JP w1 wr.heap.size 122 #[.pointer (some ⟨w.heap.size, 1, none⟩), .int .i64 1, .int .i64 0, .int .i64 12] (.slice (some ⟨g, 0, none⟩) N cp) N L 1 [x1] 3 W (upd vals 2 (vals 1)) := ⟨hW.cs, fun h => absurd h (by decide), fun h => absurd h (by decide), fun h => absurd h (by decide), fun _ => hW.app rfl⟩
        unfold Oper.wp
        simp [go_sem]
        first | exact hN | exact ⟨_, rfl, hN⟩
      · intro W vals hJ
        have row7 := hJ.fin rfl
        obtain ⟨ge, cpe, hve⟩ := row7.shape (by omega)
        have hbW := hJ.cs.below
        simp only [putAll, List.map_cons, List.map_nil, Job.val, Act.put, pA, pB, pC]
        rw [hve] at row7 ⊢
        obtain ⟨Ne, hNe⟩ : ∃ q, N + 1 = q := ⟨_, rfl⟩
        rw [hNe] at row7 ⊢
        have HROW7 := hidden row7
        have HEQ : Hid (L ++ [x1] = hdPart x0 x1 x2 x3 2) := by show _ = _; rw [hL.out]; rfl
        have hNb : Ne ≤ 4 + 2 * 2 := by omega
        have hNe0 : 0 < Ne := by omega
        clear hve hJ row7 hNe hJ0 HPN hix hL
        go_wp2_with fail
        go_roundw
        case rel => exact ⟨2, ge, cpe, Ne, _, rfl, by go_num, by omega, hidden (.inl HROW7.out), HEQ, hNe0, hNb, hbW⟩
        case measure => simp [intOf]
    · have hix : ∀ W : World, (Instr.index 123 (.agg #[.pointer (some ⟨w.heap.size, 0, none⟩), .int .i64 1, .int .i64 0, .int .i64 8, .pointer (some ⟨w.heap.size, 1, none⟩), .int .i64 1, .int .i64 0, .int .i64 12, .pointer (some ⟨w.heap.size, 2, none⟩), .int .i64 1, .int .i64 0, .int .i64 48, .pointer (some ⟨w.heap.size, 3, none⟩), .int .i64 2, .int .i64 1, .int .i64 400]) (.int .i64 2)).run Tryz.prog W = .ok (.agg #[.pointer (some ⟨w.heap.size, 2, none⟩), .int .i64 1, .int .i64 0, .int .i64 48]) W := fun _ => by kernel_rfl
      have HPN := hidden (putNumber_ints x2 1 1 [x2] HP2.out rfl)
      have hJ0 : Hid (JP w1 wr.heap.size 122 #[.pointer (some ⟨w.heap.size, 2, none⟩), .int .i64 1, .int .i64 0, .int .i64 48] (.slice (some ⟨g, 0, none⟩) N cp) N L 1 [x2] 0 (wr.alloc (.cells #[.pointer (some ⟨w.heap.size, 2, none⟩), .int .i64 1, .int .i64 0, .int .i64 48] 122)).drew fun _ => undef) := ⟨⟨(hbw.alloc hbw.size _).drew, (Has.new _ _ _).drew⟩, fun _ => (hrow.out.alloc _).drew, fun h => absurd h (by decide), fun h => absurd h (by decide), fun h => absurd h (by decide)⟩
      clear hrow hbw
      go_upto_region 7 with fail
      refine wp_region_chain (m := 3) (js := [.quiet (.slice (some ⟨g, 0, none⟩) N cp) 3, .quiet (.pointer (some ⟨wr.heap.size, 0, none⟩)) 3, .quiet (.pointer (some ⟨w.heap.size, 2, none⟩)) 3, .quiet (.pointer (some ⟨w.heap.size, 2, none⟩)) 3, .quiet (.int .i64 x2) 3, .quiet (.pointer (some ⟨wr.heap.size, 1, none⟩)) 3, .quiet (.int .i64 1) 3, .chain 0, .chain 1, .chain 2]) (by kernel_rfl) (JP w1 wr.heap.size 122 #[.pointer (some ⟨w.heap.size, 2, none⟩), .int .i64 1, .int .i64 0, .int .i64 48] (.slice (some ⟨g, 0, none⟩) N cp) N L 1 [x2]) (by kernel_rfl) (by kernel_rfl) ⟨_, hJ0.out⟩ (fun vals => ?_) ?_
      · show SeqW _ _ _ _ _ _ _
        iterate 2
          refine ⟨fun kk hkk W hW => ?_, ?_⟩
          · unfold Oper.wp
            simp [go_sem]
            try exact ⟨_, rfl, rfl⟩
          simp only [Act.put, pA, pB, pC]
        refine ⟨fun kk hkk W hW => ?_, ?_⟩
        · have q : W.cell? ⟨wr.heap.size, 0, none⟩ = some (.pointer (some ⟨w.heap.size, 2, none⟩)) := hW.cs.has.cell 0
          unfold Oper.wp
          simp [go_sem, q]
          try exact ⟨_, rfl, rfl⟩
        simp only [Act.put, pA, pB, pC]
        refine ⟨fun kk hkk W hW => ?_, ?_⟩
        · unfold Oper.wp
          simp [go_sem]
          try exact ⟨_, rfl, rfl⟩
        simp only [Act.put, pA, pB, pC]
        refine ⟨fun kk hkk W hW => ?_, ?_⟩
        · have q : W.cell? ⟨w.heap.size, 2, none⟩ = some (.int .i64 x2) := (HX1.out.below hW.cs.below HX1.out.lt).cell 2
          unfold Oper.wp
          simp [go_sem, q]
          try exact ⟨_, rfl, rfl⟩
        simp only [Act.put, pA, pB, pC]
        refine ⟨fun kk hkk W hW => ?_, ?_⟩
        · unfold Oper.wp
          simp [go_sem]
          try exact ⟨_, rfl, rfl⟩
        simp only [Act.put, pA, pB, pC]
        refine ⟨fun kk hkk W hW => ?_, ?_⟩
        · have q : W.cell? ⟨wr.heap.size, 1, none⟩ = some (.int .i64 1) := hW.cs.has.cell 1
          unfold Oper.wp
          simp [go_sem, q]
          try exact ⟨_, rfl, rfl⟩
        simp only [Act.put, pA, pB, pC]
        refine ⟨fun W hW => ?_, ?_⟩
        · unfold Oper.wp
          simp [go_sem]
          refine (HPN.out W).mono ?_
          rintro e w' ⟨ad, c, rfl, hi, hb⟩
          have hN : JP w1 wr.heap.size 122 #[.pointer (some ⟨w.heap.size, 2, none⟩), .int .i64 1, .int .i64 0, .int .i64 48] (.slice (some ⟨g, 0, none⟩) N cp) N L 1 [x2] 1 w' (upd vals 0 (.slice ad 1 c)) := ⟨hW.cs.call hb, fun _ => (hW.row (by decide)).only hb, fun _ => ⟨ad, c, rfl, hi⟩, fun h => absurd h (by decide), fun h => absurd h (by decide)⟩
          first | exact hN | exact ⟨_, rfl, hN⟩
        simp only [Act.put, pA, pB, pC]
        refine ⟨fun W hW => ?_, ?_⟩
        · obtain ⟨ad, c, hv, hi⟩ := hW.num rfl
          refine wp_append_e _ _ rfl w1.heap.size (.slice (some ⟨g, 0, none⟩) N cp) N L rfl (hW.row (by decide)) ad 1 c W.heap.size [x2] rfl (by decide) hv hi (by omega) hW.cs.below.size (fun v' w' h1 h2 h3 => ?_)
          have hN : JP w1 wr.heap.size 122 #[.pointer (some ⟨w.heap.size, 2, none⟩), .int .i64 1, .int .i64 0, .int .i64 48] (.slice (some ⟨g, 0, none⟩) N cp) N L 1 [x2] 2 w' (upd vals 1 v') := ⟨⟨h2 _ hW.cs.below hW.cs.below.size, h3 _ _ _ (by decide) hW.cs.has⟩, fun h => absurd h (by decide), fun h => absurd h (by decide), fun _ => h1, fun h => absurd h (by decide)⟩
          exact ⟨_, rfl, hN⟩
        simp only [Act.put, pA, pB, pC]
        refine ⟨fun W hW => ?_, trivial⟩
        have hN : JP w1 wr.heap.size 122 #[.pointer (some ⟨w.heap.size, 2, none⟩), .int .i64 1, .int .i64 0, .int .i64 48] (.slice (some ⟨g, 0, none⟩) N cp) N L 1 [x2] 3 W (upd vals 2 (vals 1)) := ⟨hW.cs, fun h => absurd h (by decide), fun h => absurd h (by decide), fun h => absurd h (by decide), fun _ => hW.app rfl⟩
        unfold Oper.wp
        simp [go_sem]
        first | exact hN | exact ⟨_, rfl, hN⟩
      · intro W vals hJ
        have row7 := hJ.fin rfl
        obtain ⟨ge, cpe, hve⟩ := row7.shape (by omega)
        have hbW := hJ.cs.below
        simp only [putAll, List.map_cons, List.map_nil, Job.val, Act.put, pA, pB, pC]
        rw [hve] at row7 ⊢
        obtain ⟨Ne, hNe⟩ : ∃ q, N + 1 = q := ⟨_, rfl⟩
        rw [hNe] at row7 ⊢
        have HROW7 := hidden row7
        have HEQ : Hid (L ++ [x2] = hdPart x0 x1 x2 x3 3) := by show _ = _; rw [hL.out]; rfl
        have hNb : Ne ≤ 4 + 2 * 3 := by omega
        have hNe0 : 0 < Ne := by omega
        clear hve hJ row7 hNe hJ0 HPN hix hL
        go_wp2_with fail
        go_roundw
        case rel => exact ⟨3, ge, cpe, Ne, _, rfl, by go_num, by omega, hidden (.inl HROW7.out), HEQ, hNe0, hNb, hbW⟩
        case measure => simp [intOf]
    · have hix : ∀ W : World, (Instr.index 123 (.agg #[.pointer (some ⟨w.heap.size, 0, none⟩), .int .i64 1, .int .i64 0, .int .i64 8, .pointer (some ⟨w.heap.size, 1, none⟩), .int .i64 1, .int .i64 0, .int .i64 12, .pointer (some ⟨w.heap.size, 2, none⟩), .int .i64 1, .int .i64 0, .int .i64 48, .pointer (some ⟨w.heap.size, 3, none⟩), .int .i64 2, .int .i64 1, .int .i64 400]) (.int .i64 3)).run Tryz.prog W = .ok (.agg #[.pointer (some ⟨w.heap.size, 3, none⟩), .int .i64 2, .int .i64 1, .int .i64 400]) W := fun _ => by kernel_rfl
      have HPN := hidden (putNumber_ints x3 2 2 [x3 % 256, x3 / 256] HP3.out rfl)
      have hJ0 : Hid (JP w1 wr.heap.size 122 #[.pointer (some ⟨w.heap.size, 3, none⟩), .int .i64 2, .int .i64 1, .int .i64 400] (.slice (some ⟨g, 0, none⟩) N cp) N L 2 [x3 % 256, x3 / 256] 0 (wr.alloc (.cells #[.pointer (some ⟨w.heap.size, 3, none⟩), .int .i64 2, .int .i64 1, .int .i64 400] 122)).drew fun _ => undef) := ⟨⟨(hbw.alloc hbw.size _).drew, (Has.new _ _ _).drew⟩, fun _ => (hrow.out.alloc _).drew, fun h => absurd h (by decide), fun h => absurd h (by decide), fun h => absurd h (by decide)⟩
      clear hrow hbw
      go_upto_region 7 with fail
      refine wp_region_chain (m := 3) (js := [.quiet (.slice (some ⟨g, 0, none⟩) N cp) 3, .quiet (.pointer (some ⟨wr.heap.size, 0, none⟩)) 3, .quiet (.pointer (some ⟨w.heap.size, 3, none⟩)) 3, .quiet (.pointer (some ⟨w.heap.size, 3, none⟩)) 3, .quiet (.int .i64 x3) 3, .quiet (.pointer (some ⟨wr.heap.size, 1, none⟩)) 3, .quiet (.int .i64 2) 3, .chain 0, .chain 1, .chain 2]) (by kernel_rfl) (JP w1 wr.heap.size 122 #[.pointer (some ⟨w.heap.size, 3, none⟩), .int .i64 2, .int .i64 1, .int .i64 400] (.slice (some ⟨g, 0, none⟩) N cp) N L 2 [x3 % 256, x3 / 256]) (by kernel_rfl) (by kernel_rfl) ⟨_, hJ0.out⟩ (fun vals => ?_) ?_
      · show SeqW _ _ _ _ _ _ _
        iterate 2
          refine ⟨fun kk hkk W hW => ?_, ?_⟩
          · unfold Oper.wp
            simp [go_sem]
            try exact ⟨_, rfl, rfl⟩
          simp only [Act.put, pA, pB, pC]
        refine ⟨fun kk hkk W hW => ?_, ?_⟩
        · have q : W.cell? ⟨wr.heap.size, 0, none⟩ = some (.pointer (some ⟨w.heap.size, 3, none⟩)) := hW.cs.has.cell 0
          unfold Oper.wp
          simp [go_sem, q]
          try exact ⟨_, rfl, rfl⟩
        simp only [Act.put, pA, pB, pC]
        refine ⟨fun kk hkk W hW => ?_, ?_⟩
        · unfold Oper.wp
          simp [go_sem]
          try exact ⟨_, rfl, rfl⟩
        simp only [Act.put, pA, pB, pC]
        refine ⟨fun kk hkk W hW => ?_, ?_⟩
        · have q : W.cell? ⟨w.heap.size, 3, none⟩ = some (.int .i64 x3) := (HX1.out.below hW.cs.below HX1.out.lt).cell 3
          unfold Oper.wp
          simp [go_sem, q]
          try exact ⟨_, rfl, rfl⟩
        simp only [Act.put, pA, pB, pC]
        refine ⟨fun kk hkk W hW => ?_, ?_⟩
        · unfold Oper.wp
          simp [go_sem]
          try exact ⟨_, rfl, rfl⟩
        simp only [Act.put, pA, pB, pC]
        refine ⟨fun kk hkk W hW => ?_, ?_⟩
        · have q : W.cell? ⟨wr.heap.size, 1, none⟩ = some (.int .i64 2) := hW.cs.has.cell 1
          unfold Oper.wp
          simp [go_sem, q]
          try exact ⟨_, rfl, rfl⟩
        simp only [Act.put, pA, pB, pC]
        refine ⟨fun W hW => ?_, ?_⟩
        · unfold Oper.wp
          simp [go_sem]
          refine (HPN.out W).mono ?_
          rintro e w' ⟨ad, c, rfl, hi, hb⟩
          have hN : JP w1 wr.heap.size 122 #[.pointer (some ⟨w.heap.size, 3, none⟩), .int .i64 2, .int .i64 1, .int .i64 400] (.slice (some ⟨g, 0, none⟩) N cp) N L 2 [x3 % 256, x3 / 256] 1 w' (upd vals 0 (.slice ad 2 c)) := ⟨hW.cs.call hb, fun _ => (hW.row (by decide)).only hb, fun _ => ⟨ad, c, rfl, hi⟩, fun h => absurd h (by decide), fun h => absurd h (by decide)⟩
          first | exact hN | exact ⟨_, rfl, hN⟩
        simp only [Act.put, pA, pB, pC]
        refine ⟨fun W hW => ?_, ?_⟩
        · obtain ⟨ad, c, hv, hi⟩ := hW.num rfl
          refine wp_append_e _ _ rfl w1.heap.size (.slice (some ⟨g, 0, none⟩) N cp) N L rfl (hW.row (by decide)) ad 2 c W.heap.size [x3 % 256, x3 / 256] rfl (by decide) hv hi (by omega) hW.cs.below.size (fun v' w' h1 h2 h3 => ?_)
          have hN : JP w1 wr.heap.size 122 #[.pointer (some ⟨w.heap.size, 3, none⟩), .int .i64 2, .int .i64 1, .int .i64 400] (.slice (some ⟨g, 0, none⟩) N cp) N L 2 [x3 % 256, x3 / 256] 2 w' (upd vals 1 v') := ⟨⟨h2 _ hW.cs.below hW.cs.below.size, h3 _ _ _ (by decide) hW.cs.has⟩, fun h => absurd h (by decide), fun h => absurd h (by decide), fun _ => h1, fun h => absurd h (by decide)⟩
          exact ⟨_, rfl, hN⟩
        simp only [Act.put, pA, pB, pC]
        refine ⟨fun W hW => ?_, trivial⟩
        have hN : JP w1 wr.heap.size 122 #[.pointer (some ⟨w.heap.size, 3, none⟩), .int .i64 2, .int .i64 1, .int .i64 400] (.slice (some ⟨g, 0, none⟩) N cp) N L 2 [x3 % 256, x3 / 256] 3 W (upd vals 2 (vals 1)) := ⟨hW.cs, fun h => absurd h (by decide), fun h => absurd h (by decide), fun h => absurd h (by decide), fun _ => hW.app rfl⟩
        unfold Oper.wp
        simp [go_sem]
        first | exact hN | exact ⟨_, rfl, hN⟩
      · intro W vals hJ
        have row7 := hJ.fin rfl
        obtain ⟨ge, cpe, hve⟩ := row7.shape (by omega)
        have hbW := hJ.cs.below
        simp only [putAll, List.map_cons, List.map_nil, Job.val, Act.put, pA, pB, pC]
        rw [hve] at row7 ⊢
        obtain ⟨Ne, hNe⟩ : ∃ q, N + 2 = q := ⟨_, rfl⟩
        rw [hNe] at row7 ⊢
        have HROW7 := hidden row7
        have HEQ : Hid (L ++ [x3 % 256, x3 / 256] = hdPart x0 x1 x2 x3 4) := by show _ = _; rw [hL.out]; rfl
        have hNb : Ne ≤ 4 + 2 * 4 := by omega
        have hNe0 : 0 < Ne := by omega
        clear hve hJ row7 hNe hJ0 HPN hix hL
        go_wp2_with fail
        go_roundw
        case rel => exact ⟨4, ge, cpe, Ne, _, rfl, by go_num, by omega, hidden (.inl HROW7.out), HEQ, hNe0, hNb, hbW⟩
        case measure => simp [intOf]
    · have hrow2 := hidden (hrow.out.alloc (.cells #[.int .u8 0] 5))
      have hb2 := hidden (hbw.alloc hbw.size (.cells #[.int .u8 0] 5))
      have hz : Hid (Ints (wr.alloc (.cells #[.int .u8 0] 5)) .u8 (wr.alloc (.cells #[.int .u8 0] 5)).heap.size (some ⟨wr.heap.size, 0, none⟩) [0]) := Ints.ofHas (Has.new _ _ _) rfl (by simp; exact wf_u8.mpr ⟨by omega, by omega⟩) (by simp)
      have hst : w1.heap.size ≤ (wr.alloc (.cells #[.int .u8 0] 5)).heap.size := hb2.out.size
      clear hrow hbw
      go_wp2_with (at_builtin; refine wpList_append_e _ rfl _ _ rfl w1.heap.size _ N L rfl hrow2.out (some ⟨wr.heap.size, 0, none⟩) 1 1 (wr.alloc (.cells #[.int .u8 0] 5)).heap.size [0] rfl (by decide) rfl hz.out (by omega) hst ?_)
      intro v5 w5 hrow5 hg5 _
      have HR5 := hidden (hrow5.lower HB1.out.size)
      have HB5 := hidden (HB1.out.trans ((hg5 _ hb2.out (by simpa using hst)).mono HB1.out.size))
      have HLL : Hid (L ++ [0] = l) := by show _ = _; rw [HE.out, hL.out]
      clear hrow5 hg5 hrow2 hb2 hz hst
      go_wp2_with fail
      go_ret
      refine ⟨v5, rfl, ?_, HB5.out⟩
      have := HR5.out
      rw [HLL.out] at this
      have hlen := this.len
      rw [hlen] at this
      exact this
open Go.RowKit
theorem mark_of {l : List Int} (hwf : ∀ x ∈ l, (Lit.int .u8 x).wf = true) (h10 : 10 ≤ l.length) (h : strOfNums (l.take 4) = ⟨#[111, 98, 106, 1]⟩) : l.getD 0 0 = 111 ∧ l.getD 1 0 = 98 ∧ l.getD 2 0 = 106 ∧ l.getD 3 0 = 1 := by
  match l, h10 with
  | a :: b :: c :: d :: r, _ =>
    have ha := wf_u8.mp (hwf a (by simp))
    have hb := wf_u8.mp (hwf b (by simp))
    have hc := wf_u8.mp (hwf c (by simp))
    have hd := wf_u8.mp (hwf d (by simp))
    have e : ((#[UInt8.ofNat a.toNat, UInt8.ofNat b.toNat, UInt8.ofNat c.toNat, UInt8.ofNat d.toNat] : Array UInt8)) = #[111, 98, 106, 1] := congrArg ByteArray.data h
    have conv : ∀ (x : Int) (k : Nat), 0 ≤ x ∧ x < 256 → k < 256 → UInt8.ofNat x.toNat = UInt8.ofNat k → x = k := fun x k hx hk e => by
      have := congrArg UInt8.toNat e
      rw [UInt8.toNat_ofNat', UInt8.toNat_ofNat', Nat.mod_eq_of_lt (by omega), Nat.mod_eq_of_lt (by omega)] at this
      omega
    injection e with e
    injection e with e1 e
    injection e with e2 e
    injection e with e3 e
    injection e with e4 e
    exact ⟨conv a 111 ha (by decide) e1, conv b 98 hb (by decide) e2, conv c 106 hc (by decide) e3, conv d 1 hd (by decide) e4⟩
theorem mark_to {l : List Int} (h10 : 10 ≤ l.length) (h : l.getD 0 0 = 111 ∧ l.getD 1 0 = 98 ∧ l.getD 2 0 = 106 ∧ l.getD 3 0 = 1) : strOfNums (l.take 4) = ⟨#[111, 98, 106, 1]⟩ := by
  match l, h10 with
  | a :: b :: c :: d :: r, _ =>
    obtain ⟨h1, h2, h3, h4⟩ := h
    simp at h1 h2 h3 h4
    subst h1 h2 h3 h4
    rfl
def hdPos : Nat → Int
  | 0 => 4
  | 1 => 5
  | 2 => 6
  | 3 => 7
  | _ => 9
def hdCells (y0 y1 y2 y3 : Int) : Nat → Array Value
  | 0 => #[.int .i64 0, .int .i64 0, .int .i64 0, .int .i64 0]
  | 1 => #[.int .i64 y0, .int .i64 0, .int .i64 0, .int .i64 0]
  | 2 => #[.int .i64 y0, .int .i64 y1, .int .i64 0, .int .i64 0]
  | 3 => #[.int .i64 y0, .int .i64 y1, .int .i64 y2, .int .i64 0]
  | _ => #[.int .i64 y0, .int .i64 y1, .int .i64 y2, .int .i64 y3]
structure JF (wA : World) (bf : Nat) (g : Nat) (F cs0 cs1 : Array Value) (k : Nat) (W : World) (_vals : Nat → Value) : Prop where
  below : Below wA.heap.size wA W
  fld : Has W bf 122 F
  bef : k = 0 → Has W g 60 cs0
  aft : k = 1 → Has W g 60 cs1
theorem getVal_1 {l : List Int} {i : Nat} (h : i < l.length) : getVal l (i : Int) 1 = l.getD i 0 := by
  unfold getVal
  rw [if_neg (by omega), if_neg (by omega), if_neg (by omega), Int.toNat_natCast]
  simp [leAt]
theorem getVal_2 {l : List Int} {i : Nat} (h : i + 1 < l.length) : getVal l (i : Int) 2 = l.getD i 0 + 256 * l.getD (i + 1) 0 := by
  unfold getVal
  rw [if_neg (by omega), if_neg (by omega), if_neg (by omega), Int.toNat_natCast]
  simp [leAt]
set_option maxRecDepth 100000 in
set_option maxHeartbeats 4000000 in
theorem getHeader_any (w : World) (B : Nat) (a : Option Addr) (cap n : Nat) (l : List Int) (hn : n = l.length) (h : Ints w .u8 B a l) (hB : B ≤ w.heap.size) (hlen : n ≤ 9223372036854775807) (hcap : n ≤ cap) :
    Calls Tryz.prog 76 #[.slice a n cap] w fun e w' => e = .returned (.tuple #[(getHd l).agg, .bool (isHd l)]) ∧ Below w.heap.size w w' := by
  go_enter Tryz.func76, Tryz.ntmps76
  have hres : Has (w.alloc (.cells #[.int .i64 0, .int .i64 0, .int .i64 0, .int .i64 0] 60)) w.heap.size 60 #[.int .i64 0, .int .i64 0, .int .i64 0, .int .i64 0] := Has.new _ _ _
  have hb1 : Below w.heap.size w (w.alloc (.cells #[.int .i64 0, .int .i64 0, .int .i64 0, .int .i64 0] 60)) := (Below.refl _ _).alloc (Nat.le_refl _) _
  by_cases hs : (n : Int) < 10
  · have HF := hidden (show isHd l = false by unfold isHd; rw [show decide (10 ≤ l.length) = false by simp; omega]; rfl)
    have HR := hidden hres
    clear hres
    go_wp2_with fail
    refine bodyPost_ret (results_cell_row3h rfl _ _ w.heap.size 60 #[.int .i64 0, .int .i64 0, .int .i64 0, .int .i64 0] (0, 0) _ rfl HR.out Tryz.underlying60 rfl (by kernel_rfl)) rfl ?_
    refine ⟨?_, hb1⟩
    have e : getHd l = noHd := by unfold getHd; rw [HF.out]; rfl
    rw [e, HF.out]
    rfl
  obtain ⟨b, off, rfl, hbB, hcs⟩ := h.2 (by omega)
  have hc4 : (4 : Int) ≤ (cap : Int) := by omega
  have hn9 : (9 : Int) < (n : Int) := by omega
  have hn10 : ¬ (n : Int) < 10 := by omega
  have hn10' : (10 : Int) ≤ (n : Int) := by omega
  have HW := hidden h.1
  have HNL := hidden hn
  have hbw : b < w.heap.size := Nat.lt_of_lt_of_le hbB hB
  have HC : Hid (∀ W, Below w.heap.size w W → ∀ i, i < l.length → W.cell? ⟨b, off + i, none⟩ = some (.int .u8 (l.getD i 0))) := fun W hW i hi => (hW.cell (p := ⟨b, off + i, none⟩) hbw).trans (hcs i hi)
  have hcv : ∀ o : Obj, (convert 22 9 (.slice (some ⟨b, off, none⟩) 4 cap)).run Tryz.prog (w.alloc o) = .ok (.string (strOfNums (l.take 4))) (w.alloc o) := fun o =>
    run_convert_bytes_arg (w.alloc o) 22 5 Tryz.underlying22 Tryz.underlying5 b off 4 cap (l.take 4) (by rw [List.length_take]; omega) (fun i hi => by
      rw [HC.out _ ((Below.refl _ _).alloc (Nat.le_refl _) o) i (by omega), List.getD_eq_getElem?_getD, List.getD_eq_getElem?_getD, List.getElem?_take, if_pos hi]) 9 Tryz.underlying9
  obtain ⟨s, hse⟩ : ∃ s, strOfNums (l.take 4) = s := ⟨_, rfl⟩
  rw [hse] at hcv
  obtain ⟨y9, hy9⟩ : ∃ x, l.getD 9 0 = x := ⟨_, rfl⟩
  have q9 : (w.alloc (.cells #[.int .i64 0, .int .i64 0, .int .i64 0, .int .i64 0] 60)).cell? ⟨b, off + 9, none⟩ = some (.int .u8 y9) := by rw [HC.out _ hb1 9 (by omega), hy9]
  have HRES := hidden hres
  have HBB := hidden hb1
  have HY9 := hidden hy9
  have HSE := hidden hse
  have HI := hidden (fun (W : World) (hW : Below w.heap.size w W) => h.below (hW.mono hB))
  clear hres hb1 hy9 hse hcs h hn hs
  have HNO : Hid (∀ k, k < 10 → (∀ x0 x1 x2 x3, (hdPart x0 x1 x2 x3 4 ++ [0]).getD k 0 ≠ l.getD k 0) → isHd l = false) := fun k hk h => isHd_no (by have := HNL.out; omega) hk (by
    unfold putHd
    split
    · exact .inr (h _ _ _ _)
    · exact .inl (Nat.zero_le _))
  by_cases hm : s = ⟨#[111, 98, 106, 1]⟩
  · subst hm
    by_cases hy : y9 = 0
    · have hy' : (y9 != 0) = false := by simp [hy]
      have HY0 : Hid (l.getD 9 0 = 0) := HY9.out.trans hy
      clear hy
      obtain ⟨y0, hy0⟩ : ∃ x, l.getD 4 0 = x := ⟨_, rfl⟩
      obtain ⟨y1, hy1⟩ : ∃ x, l.getD 5 0 = x := ⟨_, rfl⟩
      obtain ⟨y2, hy2⟩ : ∃ x, l.getD 6 0 = x := ⟨_, rfl⟩
      obtain ⟨y3, hy3⟩ : ∃ x, getVal l 7 2 = x := ⟨_, rfl⟩
      have HHD : Hid (hdAt l = ⟨y0, y1, y2, y3⟩) := by show _ = _; unfold hdAt; rw [hy0, hy1, hy2, hy3]
      have HNUM : ∀ W, Below w.heap.size w W → ∀ (i wd : Int), Calls Tryz.prog 100 #[.slice (some ⟨b, off, none⟩) n cap, .int .i64 i, .int .i64 wd] W fun e w' => e = .returned (.int .i64 (getVal l i wd)) ∧ W = w' := fun W hW i wd => by
        have := getNumber_any W B (some ⟨b, off, none⟩) cap l (HI.out W hW) (by have := HNL.out; omega) i wd
        rwa [← HNL.out] at this
      have HN0 : Hid (∀ W, Below w.heap.size w W → Calls Tryz.prog 100 #[.slice (some ⟨b, off, none⟩) n cap, .int .i64 4, .int .i64 1] W fun e w' => e = .returned (.int .i64 y0) ∧ W = w') := fun W hW => by
        have := HNUM W hW 4 1
        rwa [show getVal l 4 1 = y0 from (getVal_1 (i := 4) (by have := HNL.out; omega)).trans hy0] at this
      have HN1 : Hid (∀ W, Below w.heap.size w W → Calls Tryz.prog 100 #[.slice (some ⟨b, off, none⟩) n cap, .int .i64 5, .int .i64 1] W fun e w' => e = .returned (.int .i64 y1) ∧ W = w') := fun W hW => by
        have := HNUM W hW 5 1
        rwa [show getVal l 5 1 = y1 from (getVal_1 (i := 5) (by have := HNL.out; omega)).trans hy1] at this
      have HN2 : Hid (∀ W, Below w.heap.size w W → Calls Tryz.prog 100 #[.slice (some ⟨b, off, none⟩) n cap, .int .i64 6, .int .i64 1] W fun e w' => e = .returned (.int .i64 y2) ∧ W = w') := fun W hW => by
        have := HNUM W hW 6 1
        rwa [show getVal l 6 1 = y2 from (getVal_1 (i := 6) (by have := HNL.out; omega)).trans hy2] at this
      have HN3 : Hid (∀ W, Below w.heap.size w W → Calls Tryz.prog 100 #[.slice (some ⟨b, off, none⟩) n cap, .int .i64 7, .int .i64 2] W fun e w' => e = .returned (.int .i64 y3) ∧ W = w') := fun W hW => by
        have := HNUM W hW 7 2
        rwa [hy3] at this
      have HOK : Hid (isHd l = hdOk ⟨y0, y1, y2, y3⟩) := by
        show _ = _
        rcases hv : hdOk ⟨y0, y1, y2, y3⟩ with _ | _
        · refine isHd_no (k := 0) (by have := HNL.out; omega) (by decide) (.inl ?_)
          rw [HHD.out]; unfold putHd; rw [hv]; exact Nat.le_refl _
        · refine isHd_yes (by have := HNL.out; omega) ?_ (fun j hj => ?_)
          · rw [HHD.out]; unfold putHd; rw [hv]; rfl
          · rw [HHD.out]
            unfold putHd
            rw [hv]
            obtain ⟨m0, m1, m2, m3⟩ := mark_of HW.out (by have := HNL.out; omega) HSE.out
            have h7 := wf_u8.mp (HW.out (l.getD 7 0) (by rw [List.getD_eq_getElem?_getD, List.getElem?_eq_getElem (show 7 < l.length by have := HNL.out; omega)]; exact List.getElem_mem _))
            have h8 := wf_u8.mp (HW.out (l.getD 8 0) (by rw [List.getD_eq_getElem?_getD, List.getElem?_eq_getElem (show 8 < l.length by have := HNL.out; omega)]; exact List.getElem_mem _))
            have e3 : y3 = l.getD 7 0 + 256 * l.getD 8 0 := by rw [← hy3]; exact getVal_2 (i := 7) (by have := HNL.out; omega)
            have hc : j = 0 ∨ j = 1 ∨ j = 2 ∨ j = 3 ∨ j = 4 ∨ j = 5 ∨ j = 6 ∨ j = 7 ∨ j = 8 ∨ j = 9 := by omega
            rcases hc with rfl | rfl | rfl | rfl | rfl | rfl | rfl | rfl | rfl | rfl
            · exact m0.symm
            · exact m1.symm
            · exact m2.symm
            · exact m3.symm
            · exact hy0.symm
            · exact hy1.symm
            · exact hy2.symm
            · show y3 % 256 = _; have := h7.1; have := h7.2; omega
            · show y3 / 256 = _; have := h7.1; have := h7.2; omega
            · exact HY0.out.symm
      have hg0 : Has ((w.alloc (.cells #[.int .i64 0, .int .i64 0, .int .i64 0, .int .i64 0] 60)).alloc (.cells #[.int .i64 0, .int .i64 0, .int .i64 0, .int .i64 0] 60)) (w.heap.size + 1) 60 (hdCells y0 y1 y2 y3 0) := by have := Has.new (w.alloc (.cells #[.int .i64 0, .int .i64 0, .int .i64 0, .int .i64 0] 60)) 60 #[.int .i64 0, .int .i64 0, .int .i64 0, .int .i64 0]; rw [show (w.alloc (.cells #[.int .i64 0, .int .i64 0, .int .i64 0, .int .i64 0] 60)).heap.size = w.heap.size + 1 by simp] at this; exact this
      have hbA : Below (w.heap.size + 1) (w.alloc (.cells #[.int .i64 0, .int .i64 0, .int .i64 0, .int .i64 0] 60)) ((w.alloc (.cells #[.int .i64 0, .int .i64 0, .int .i64 0, .int .i64 0] 60)).alloc (.cells #[.int .i64 0, .int .i64 0, .int .i64 0, .int .i64 0] 60)) := (Below.refl _ _).alloc (by simp) _
      clear hy0 hy1 hy2 hy3 HNUM
      go_wp2_with fail
      refine (fieldsOf_any _ _).mono ?_
      rintro e w2 ⟨rfl, hb2⟩
      have hg2 := hidden (hg0.below hb2 hg0.lt)
      have hbw2 := hidden (hbA.trans (hb2.mono (by simp)))
      clear hg0 hbA hb2 q9 hcv hy'
      go_wp2_with fail
      go_loopw [5, 25] (fun v i wr => ∃ (k : Nat) (p : Int), v = .int .i64 p ∧ p = hdPos k ∧ i = .int .i64 k ∧ k ≤ 4 ∧ Hid (Has wr (w.heap.size + 1) 60 (hdCells y0 y1 y2 y3 k)) ∧ Hid (Below (w.heap.size + 1) (w.alloc (.cells #[.int .i64 0, .int .i64 0, .int .i64 0, .int .i64 0] 60)) wr)) (fun _ i _ => 4 - (intOf i).toNat)
      case atStart => exact ⟨0, 4, rfl, rfl, rfl, by omega, hg2, hbw2⟩
      case round =>
        obtain ⟨k, p, rfl, hp, rfl, hk, hg, hbw⟩ := hrel
        clear hg2 hbw2
        have hc : k = 0 ∨ k = 1 ∨ k = 2 ∨ k = 3 ∨ k = 4 := by omega
        rcases hc with rfl | rfl | rfl | rfl | rfl
        · obtain rfl : p = 4 := hp
          have hix : ∀ W : World, (Instr.index 123 (.agg #[.pointer (some ⟨w.heap.size + 1, 0, none⟩), .int .i64 1, .int .i64 0, .int .i64 8, .pointer (some ⟨w.heap.size + 1, 1, none⟩), .int .i64 1, .int .i64 0, .int .i64 12, .pointer (some ⟨w.heap.size + 1, 2, none⟩), .int .i64 1, .int .i64 0, .int .i64 48, .pointer (some ⟨w.heap.size + 1, 3, none⟩), .int .i64 2, .int .i64 1, .int .i64 400]) (.int .i64 0)).run Tryz.prog W = .ok (.agg #[.pointer (some ⟨w.heap.size + 1, 0, none⟩), .int .i64 1, .int .i64 0, .int .i64 8]) W := fun _ => by kernel_rfl
          have hgl := hg.out.lt
          have hJ0 : Hid (JF (w.alloc (.cells #[.int .i64 0, .int .i64 0, .int .i64 0, .int .i64 0] 60)) wr.heap.size (w.heap.size + 1) #[.pointer (some ⟨w.heap.size + 1, 0, none⟩), .int .i64 1, .int .i64 0, .int .i64 8] (hdCells y0 y1 y2 y3 0) (hdCells y0 y1 y2 y3 1) 0 (wr.alloc (.cells #[.pointer (some ⟨w.heap.size + 1, 0, none⟩), .int .i64 1, .int .i64 0, .int .i64 8] 122)).drew fun _ => undef) := ⟨((hbw.out.mono (by simp)).alloc (by have := hbw.out.size; simpa using this) _).drew, (Has.new _ _ _).drew, fun _ => (hg.out.alloc _).drew, fun h => absurd h (by decide)⟩
          clear hg hbw
          go_upto_region 8 with fail
          refine wp_region_chain (m := 1) (js := [.quiet (.pointer (some ⟨wr.heap.size, 0, none⟩)) 1, .quiet (.pointer (some ⟨w.heap.size + 1, 0, none⟩)) 1, .quiet (.slice (some ⟨b, off, none⟩) n cap) 1, .quiet (.int .i64 4) 1, .quiet (.pointer (some ⟨wr.heap.size, 1, none⟩)) 1, .quiet (.int .i64 1) 1, .quiet (.int .i64 y0) 1, .quiet (.pointer (some ⟨w.heap.size + 1, 0, none⟩)) 1, .chain 0]) (by kernel_rfl) (JF (w.alloc (.cells #[.int .i64 0, .int .i64 0, .int .i64 0, .int .i64 0] 60)) wr.heap.size (w.heap.size + 1) #[.pointer (some ⟨w.heap.size + 1, 0, none⟩), .int .i64 1, .int .i64 0, .int .i64 8] (hdCells y0 y1 y2 y3 0) (hdCells y0 y1 y2 y3 1)) (by kernel_rfl) (by kernel_rfl) ⟨_, hJ0.out⟩ (fun vals => ?_) ?_
          · show SeqW _ _ _ _ _ _ _
            refine ⟨fun kk hkk W hW => ?_, ?_⟩
            · unfold Oper.wp
              simp [go_sem]
              try exact ⟨_, rfl, rfl⟩
            simp only [Act.put, pA, pB, pC]
            refine ⟨fun kk hkk W hW => ?_, ?_⟩
            · have q : W.cell? ⟨wr.heap.size, 0, none⟩ = some (.pointer (some ⟨w.heap.size + 1, 0, none⟩)) := hW.fld.cell 0
              unfold Oper.wp
              simp [go_sem, q]
              try exact ⟨_, rfl, rfl⟩
            simp only [Act.put, pA, pB, pC]
            iterate 3
              refine ⟨fun kk hkk W hW => ?_, ?_⟩
              · unfold Oper.wp
                simp [go_sem]
                try exact ⟨_, rfl, rfl⟩
              simp only [Act.put, pA, pB, pC]
            refine ⟨fun kk hkk W hW => ?_, ?_⟩
            · have q : W.cell? ⟨wr.heap.size, 1, none⟩ = some (.int .i64 1) := hW.fld.cell 1
              unfold Oper.wp
              simp [go_sem, q]
              try exact ⟨_, rfl, rfl⟩
            simp only [Act.put, pA, pB, pC]
            refine ⟨fun kk hkk W hW => ?_, ?_⟩
            · unfold Oper.wp
              simp [go_sem]
              refine (HN0.out W (HBB.out.trans (hW.below.mono (by simp)))).mono ?_
              rintro e _ ⟨rfl, rfl⟩
              first | exact rfl | exact ⟨rfl, rfl⟩ | exact ⟨_, rfl, rfl, rfl⟩
            simp only [Act.put, pA, pB, pC]
            refine ⟨fun kk hkk W hW => ?_, ?_⟩
            · unfold Oper.wp
              simp [go_sem]
              try exact ⟨_, rfl, rfl⟩
            simp only [Act.put, pA, pB, pC]
            refine ⟨fun W hW => ?_, trivial⟩
            have hh := hW.bef rfl
            have ck : W.cell? ⟨w.heap.size + 1, 0, none⟩ = some (.int .i64 0) := hh.cell 0
            have fk := hh.free 0
            have hN : ∀ u, JF (w.alloc (.cells #[.int .i64 0, .int .i64 0, .int .i64 0, .int .i64 0] 60)) wr.heap.size (w.heap.size + 1) #[.pointer (some ⟨w.heap.size + 1, 0, none⟩), .int .i64 1, .int .i64 0, .int .i64 8] (hdCells y0 y1 y2 y3 0) (hdCells y0 y1 y2 y3 1) 1 (W.setCell ⟨w.heap.size + 1, 0, none⟩ (.int .i64 y0)) (upd vals 0 u) := fun u => ⟨hW.below.grown (only_put' 0 _) hW.below.size (by intro q hq; injection hq with hq; simp; omega), hW.fld.away (by show wr.heap.size ≠ w.heap.size + 1; omega) _, fun h => absurd h (by decide), fun _ => hh.put 0 _⟩
            clear hh
            unfold Oper.wp
            simp [go_sem, ck, fk]
            first | exact hN _ | exact ⟨undef, hN _⟩ | exact ⟨_, rfl, hN _⟩
          · intro W vals hJ
            have hgW := hidden (hJ.aft rfl)
            have hbW := hidden (hJ.below.mono (show w.heap.size + 1 ≤ _ by simp))
            have q1 : W.cell? ⟨wr.heap.size, 1, none⟩ = some (.int .i64 1) := hJ.fld.cell 1
            simp only [putAll, List.map_cons, List.map_nil, Job.val, Act.put, pA, pB, pC]
            clear hJ hJ0 hix hgl
            go_wp2_with fail
            go_roundw
            case rel => exact ⟨1, 5, by go_num, rfl, by go_num, by omega, hgW, hbW⟩
            case measure => simp [intOf]
        · obtain rfl : p = 5 := hp
          have hix : ∀ W : World, (Instr.index 123 (.agg #[.pointer (some ⟨w.heap.size + 1, 0, none⟩), .int .i64 1, .int .i64 0, .int .i64 8, .pointer (some ⟨w.heap.size + 1, 1, none⟩), .int .i64 1, .int .i64 0, .int .i64 12, .pointer (some ⟨w.heap.size + 1, 2, none⟩), .int .i64 1, .int .i64 0, .int .i64 48, .pointer (some ⟨w.heap.size + 1, 3, none⟩), .int .i64 2, .int .i64 1, .int .i64 400]) (.int .i64 1)).run Tryz.prog W = .ok (.agg #[.pointer (some ⟨w.heap.size + 1, 1, none⟩), .int .i64 1, .int .i64 0, .int .i64 12]) W := fun _ => by kernel_rfl
          have hgl := hg.out.lt
          have hJ0 : Hid (JF (w.alloc (.cells #[.int .i64 0, .int .i64 0, .int .i64 0, .int .i64 0] 60)) wr.heap.size (w.heap.size + 1) #[.pointer (some ⟨w.heap.size + 1, 1, none⟩), .int .i64 1, .int .i64 0, .int .i64 12] (hdCells y0 y1 y2 y3 1) (hdCells y0 y1 y2 y3 2) 0 (wr.alloc (.cells #[.pointer (some ⟨w.heap.size + 1, 1, none⟩), .int .i64 1, .int .i64 0, .int .i64 12] 122)).drew fun _ => undef) := ⟨((hbw.out.mono (by simp)).alloc (by have := hbw.out.size; simpa using this) _).drew, (Has.new _ _ _).drew, fun _ => (hg.out.alloc _).drew, fun h => absurd h (by decide)⟩
          clear hg hbw
          go_upto_region 8 with fail
          refine wp_region_chain (m := 1) (js := [.quiet (.pointer (some ⟨wr.heap.size, 0, none⟩)) 1, .quiet (.pointer (some ⟨w.heap.size + 1, 1, none⟩)) 1, .quiet (.slice (some ⟨b, off, none⟩) n cap) 1, .quiet (.int .i64 5) 1, .quiet (.pointer (some ⟨wr.heap.size, 1, none⟩)) 1, .quiet (.int .i64 1) 1, .quiet (.int .i64 y1) 1, .quiet (.pointer (some ⟨w.heap.size + 1, 1, none⟩)) 1, .chain 0]) (by kernel_rfl) (JF (w.alloc (.cells #[.int .i64 0, .int .i64 0, .int .i64 0, .int .i64 0] 60)) wr.heap.size (w.heap.size + 1) #[.pointer (some ⟨w.heap.size + 1, 1, none⟩), .int .i64 1, .int .i64 0, .int .i64 12] (hdCells y0 y1 y2 y3 1) (hdCells y0 y1 y2 y3 2)) (by kernel_rfl) (by kernel_rfl) ⟨_, hJ0.out⟩ (fun vals => ?_) ?_
          · show SeqW _ _ _ _ _ _ _
            refine ⟨fun kk hkk W hW => ?_, ?_⟩
            · unfold Oper.wp
              simp [go_sem]
              try exact ⟨_, rfl, rfl⟩
            simp only [Act.put, pA, pB, pC]
            refine ⟨fun kk hkk W hW => ?_, ?_⟩
            · have q : W.cell? ⟨wr.heap.size, 0, none⟩ = some (.pointer (some ⟨w.heap.size + 1, 1, none⟩)) := hW.fld.cell 0
              unfold Oper.wp
              simp [go_sem, q]
              try exact ⟨_, rfl, rfl⟩
            simp only [Act.put, pA, pB, pC]
            iterate 3
              refine ⟨fun kk hkk W hW => ?_, ?_⟩
              · unfold Oper.wp
                simp [go_sem]
                try exact ⟨_, rfl, rfl⟩
              simp only [Act.put, pA, pB, pC]
            refine ⟨fun kk hkk W hW => ?_, ?_⟩
            · have q : W.cell? ⟨wr.heap.size, 1, none⟩ = some (.int .i64 1) := hW.fld.cell 1
              unfold Oper.wp
              simp [go_sem, q]
              try exact ⟨_, rfl, rfl⟩
            simp only [Act.put, pA, pB, pC]
            refine ⟨fun kk hkk W hW => ?_, ?_⟩
            · unfold Oper.wp
              simp [go_sem]
              refine (HN1.out W (HBB.out.trans (hW.below.mono (by simp)))).mono ?_
              rintro e _ ⟨rfl, rfl⟩
              first | exact rfl | exact ⟨rfl, rfl⟩ | exact ⟨_, rfl, rfl, rfl⟩
            simp only [Act.put, pA, pB, pC]
            refine ⟨fun kk hkk W hW => ?_, ?_⟩
            · unfold Oper.wp
              simp [go_sem]
              try exact ⟨_, rfl, rfl⟩
            simp only [Act.put, pA, pB, pC]
            refine ⟨fun W hW => ?_, trivial⟩
            have hh := hW.bef rfl
            have ck : W.cell? ⟨w.heap.size + 1, 1, none⟩ = some (.int .i64 0) := hh.cell 1
            have fk := hh.free 1
            have hN : ∀ u, JF (w.alloc (.cells #[.int .i64 0, .int .i64 0, .int .i64 0, .int .i64 0] 60)) wr.heap.size (w.heap.size + 1) #[.pointer (some ⟨w.heap.size + 1, 1, none⟩), .int .i64 1, .int .i64 0, .int .i64 12] (hdCells y0 y1 y2 y3 1) (hdCells y0 y1 y2 y3 2) 1 (W.setCell ⟨w.heap.size + 1, 1, none⟩ (.int .i64 y1)) (upd vals 0 u) := fun u => ⟨hW.below.grown (only_put' 1 _) hW.below.size (by intro q hq; injection hq with hq; simp; omega), hW.fld.away (by show wr.heap.size ≠ w.heap.size + 1; omega) _, fun h => absurd h (by decide), fun _ => hh.put 1 _⟩
            clear hh
            unfold Oper.wp
            simp [go_sem, ck, fk]
            first | exact hN _ | exact ⟨undef, hN _⟩ | exact ⟨_, rfl, hN _⟩
          · intro W vals hJ
            have hgW := hidden (hJ.aft rfl)
            have hbW := hidden (hJ.below.mono (show w.heap.size + 1 ≤ _ by simp))
            have q1 : W.cell? ⟨wr.heap.size, 1, none⟩ = some (.int .i64 1) := hJ.fld.cell 1
            simp only [putAll, List.map_cons, List.map_nil, Job.val, Act.put, pA, pB, pC]
            clear hJ hJ0 hix hgl
            go_wp2_with fail
            go_roundw
            case rel => exact ⟨2, 6, by go_num, rfl, by go_num, by omega, hgW, hbW⟩
            case measure => simp [intOf]
        · obtain rfl : p = 6 := hp
          have hix : ∀ W : World, (Instr.index 123 (.agg #[.pointer (some ⟨w.heap.size + 1, 0, none⟩), .int .i64 1, .int .i64 0, .int .i64 8, .pointer (some ⟨w.heap.size + 1, 1, none⟩), .int .i64 1, .int .i64 0, .int .i64 12, .pointer (some ⟨w.heap.size + 1, 2, none⟩), .int .i64 1, .int .i64 0, .int .i64 48, .pointer (some ⟨w.heap.size + 1, 3, none⟩), .int .i64 2, .int .i64 1, .int .i64 400]) (.int .i64 2)).run Tryz.prog W = .ok (.agg #[.pointer (some ⟨w.heap.size + 1, 2, none⟩), .int .i64 1, .int .i64 0, .int .i64 48]) W := fun _ => by kernel_rfl
          have hgl := hg.out.lt
          have hJ0 : Hid (JF (w.alloc (.cells #[.int .i64 0, .int .i64 0, .int .i64 0, .int .i64 0] 60)) wr.heap.size (w.heap.size + 1) #[.pointer (some ⟨w.heap.size + 1, 2, none⟩), .int .i64 1, .int .i64 0, .int .i64 48] (hdCells y0 y1 y2 y3 2) (hdCells y0 y1 y2 y3 3) 0 (wr.alloc (.cells #[.pointer (some ⟨w.heap.size + 1, 2, none⟩), .int .i64 1, .int .i64 0, .int .i64 48] 122)).drew fun _ => undef) := ⟨((hbw.out.mono (by simp)).alloc (by have := hbw.out.size; simpa using this) _).drew, (Has.new _ _ _).drew, fun _ => (hg.out.alloc _).drew, fun h => absurd h (by decide)⟩
          clear hg hbw
          go_upto_region 8 with fail
          refine wp_region_chain (m := 1) (js := [.quiet (.pointer (some ⟨wr.heap.size, 0, none⟩)) 1, .quiet (.pointer (some ⟨w.heap.size + 1, 2, none⟩)) 1, .quiet (.slice (some ⟨b, off, none⟩) n cap) 1, .quiet (.int .i64 6) 1, .quiet (.pointer (some ⟨wr.heap.size, 1, none⟩)) 1, .quiet (.int .i64 1) 1, .quiet (.int .i64 y2) 1, .quiet (.pointer (some ⟨w.heap.size + 1, 2, none⟩)) 1, .chain 0]) (by kernel_rfl) (JF (w.alloc (.cells #[.int .i64 0, .int .i64 0, .int .i64 0, .int .i64 0] 60)) wr.heap.size (w.heap.size + 1) #[.pointer (some ⟨w.heap.size + 1, 2, none⟩), .int .i64 1, .int .i64 0, .int .i64 48] (hdCells y0 y1 y2 y3 2) (hdCells y0 y1 y2 y3 3)) (by kernel_rfl) (by kernel_rfl) ⟨_, hJ0.out⟩ (fun vals => ?_) ?_
          · show SeqW _ _ _ _ _ _ _
            refine ⟨fun kk hkk W hW => ?_, ?_⟩
            · unfold Oper.wp
              simp [go_sem]
              try exact ⟨_, rfl, rfl⟩
            simp only [Act.put, pA, pB, pC]
            refine ⟨fun kk hkk W hW => ?_, ?_⟩
            · have q : W.cell? ⟨wr.heap.size, 0, none⟩ = some (.pointer (some ⟨w.heap.size + 1, 2, none⟩)) := hW.fld.cell 0
              unfold Oper.wp
              simp [go_sem, q]
              try exact ⟨_, rfl, rfl⟩
            simp only [Act.put, pA, pB, pC]
            iterate 3
              refine ⟨fun kk hkk W hW => ?_, ?_⟩
              · unfold Oper.wp
                simp [go_sem]
                try exact ⟨_, rfl, rfl⟩
              simp only [Act.put, pA, pB, pC]
            refine ⟨fun kk hkk W hW => ?_, ?_⟩
            · have q : W.cell? ⟨wr.heap.size, 1, none⟩ = some (.int .i64 1) := hW.fld.cell 1
              unfold Oper.wp
              simp [go_sem, q]
              try exact ⟨_, rfl, rfl⟩
            simp only [Act.put, pA, pB, pC]
            refine ⟨fun kk hkk W hW => ?_, ?_⟩
            · unfold Oper.wp
              simp [go_sem]
              refine (HN2.out W (HBB.out.trans (hW.below.mono (by simp)))).mono ?_
              rintro e _ ⟨rfl, rfl⟩
              first | exact rfl | exact ⟨rfl, rfl⟩ | exact ⟨_, rfl, rfl, rfl⟩
            simp only [Act.put, pA, pB, pC]
            refine ⟨fun kk hkk W hW => ?_, ?_⟩
            · unfold Oper.wp
              simp [go_sem]
              try exact ⟨_, rfl, rfl⟩
            simp only [Act.put, pA, pB, pC]
            refine ⟨fun W hW => ?_, trivial⟩
            have hh := hW.bef rfl
            have ck : W.cell? ⟨w.heap.size + 1, 2, none⟩ = some (.int .i64 0) := hh.cell 2
            have fk := hh.free 2
            have hN : ∀ u, JF (w.alloc (.cells #[.int .i64 0, .int .i64 0, .int .i64 0, .int .i64 0] 60)) wr.heap.size (w.heap.size + 1) #[.pointer (some ⟨w.heap.size + 1, 2, none⟩), .int .i64 1, .int .i64 0, .int .i64 48] (hdCells y0 y1 y2 y3 2) (hdCells y0 y1 y2 y3 3) 1 (W.setCell ⟨w.heap.size + 1, 2, none⟩ (.int .i64 y2)) (upd vals 0 u) := fun u => ⟨hW.below.grown (only_put' 2 _) hW.below.size (by intro q hq; injection hq with hq; simp; omega), hW.fld.away (by show wr.heap.size ≠ w.heap.size + 1; omega) _, fun h => absurd h (by decide), fun _ => hh.put 2 _⟩
            clear hh
            unfold Oper.wp
            simp [go_sem, ck, fk]
            first | exact hN _ | exact ⟨undef, hN _⟩ | exact ⟨_, rfl, hN _⟩
          · intro W vals hJ
            have hgW := hidden (hJ.aft rfl)
            have hbW := hidden (hJ.below.mono (show w.heap.size + 1 ≤ _ by simp))
            have q1 : W.cell? ⟨wr.heap.size, 1, none⟩ = some (.int .i64 1) := hJ.fld.cell 1
            simp only [putAll, List.map_cons, List.map_nil, Job.val, Act.put, pA, pB, pC]
            clear hJ hJ0 hix hgl
            go_wp2_with fail
            go_roundw
            case rel => exact ⟨3, 7, by go_num, rfl, by go_num, by omega, hgW, hbW⟩
            case measure => simp [intOf]
        · obtain rfl : p = 7 := hp
          have hix : ∀ W : World, (Instr.index 123 (.agg #[.pointer (some ⟨w.heap.size + 1, 0, none⟩), .int .i64 1, .int .i64 0, .int .i64 8, .pointer (some ⟨w.heap.size + 1, 1, none⟩), .int .i64 1, .int .i64 0, .int .i64 12, .pointer (some ⟨w.heap.size + 1, 2, none⟩), .int .i64 1, .int .i64 0, .int .i64 48, .pointer (some ⟨w.heap.size + 1, 3, none⟩), .int .i64 2, .int .i64 1, .int .i64 400]) (.int .i64 3)).run Tryz.prog W = .ok (.agg #[.pointer (some ⟨w.heap.size + 1, 3, none⟩), .int .i64 2, .int .i64 1, .int .i64 400]) W := fun _ => by kernel_rfl
          have hgl := hg.out.lt
          have hJ0 : Hid (JF (w.alloc (.cells #[.int .i64 0, .int .i64 0, .int .i64 0, .int .i64 0] 60)) wr.heap.size (w.heap.size + 1) #[.pointer (some ⟨w.heap.size + 1, 3, none⟩), .int .i64 2, .int .i64 1, .int .i64 400] (hdCells y0 y1 y2 y3 3) (hdCells y0 y1 y2 y3 4) 0 (wr.alloc (.cells #[.pointer (some ⟨w.heap.size + 1, 3, none⟩), .int .i64 2, .int .i64 1, .int .i64 400] 122)).drew fun _ => undef) := ⟨((hbw.out.mono (by simp)).alloc (by have := hbw.out.size; simpa using this) _).drew, (Has.new _ _ _).drew, fun _ => (hg.out.alloc _).drew, fun h => absurd h (by decide)⟩
          clear hg hbw
          go_upto_region 8 with fail
          refine wp_region_chain (m := 1) (js := [.quiet (.pointer (some ⟨wr.heap.size, 0, none⟩)) 1, .quiet (.pointer (some ⟨w.heap.size + 1, 3, none⟩)) 1, .quiet (.slice (some ⟨b, off, none⟩) n cap) 1, .quiet (.int .i64 7) 1, .quiet (.pointer (some ⟨wr.heap.size, 1, none⟩)) 1, .quiet (.int .i64 2) 1, .quiet (.int .i64 y3) 1, .quiet (.pointer (some ⟨w.heap.size + 1, 3, none⟩)) 1, .chain 0]) (by kernel_rfl) (JF (w.alloc (.cells #[.int .i64 0, .int .i64 0, .int .i64 0, .int .i64 0] 60)) wr.heap.size (w.heap.size + 1) #[.pointer (some ⟨w.heap.size + 1, 3, none⟩), .int .i64 2, .int .i64 1, .int .i64 400] (hdCells y0 y1 y2 y3 3) (hdCells y0 y1 y2 y3 4)) (by kernel_rfl) (by kernel_rfl) ⟨_, hJ0.out⟩ (fun vals => ?_) ?_
          · show SeqW _ _ _ _ _ _ _
            refine ⟨fun kk hkk W hW => ?_, ?_⟩
            · unfold Oper.wp
              simp [go_sem]
              try exact ⟨_, rfl, rfl⟩
            simp only [Act.put, pA, pB, pC]
            refine ⟨fun kk hkk W hW => ?_, ?_⟩
            · have q : W.cell? ⟨wr.heap.size, 0, none⟩ = some (.pointer (some ⟨w.heap.size + 1, 3, none⟩)) := hW.fld.cell 0
              unfold Oper.wp
              simp [go_sem, q]
              try exact ⟨_, rfl, rfl⟩
            simp only [Act.put, pA, pB, pC]
            iterate 3
              refine ⟨fun kk hkk W hW => ?_, ?_⟩
              · unfold Oper.wp
                simp [go_sem]
                try exact ⟨_, rfl, rfl⟩
              simp only [Act.put, pA, pB, pC]
            refine ⟨fun kk hkk W hW => ?_, ?_⟩
            · have q : W.cell? ⟨wr.heap.size, 1, none⟩ = some (.int .i64 2) := hW.fld.cell 1
              unfold Oper.wp
              simp [go_sem, q]
              try exact ⟨_, rfl, rfl⟩
            simp only [Act.put, pA, pB, pC]
            refine ⟨fun kk hkk W hW => ?_, ?_⟩
            · unfold Oper.wp
              simp [go_sem]
              refine (HN3.out W (HBB.out.trans (hW.below.mono (by simp)))).mono ?_
              rintro e _ ⟨rfl, rfl⟩
              first | exact rfl | exact ⟨rfl, rfl⟩ | exact ⟨_, rfl, rfl, rfl⟩
            simp only [Act.put, pA, pB, pC]
            refine ⟨fun kk hkk W hW => ?_, ?_⟩
            · unfold Oper.wp
              simp [go_sem]
              try exact ⟨_, rfl, rfl⟩
            simp only [Act.put, pA, pB, pC]
            refine ⟨fun W hW => ?_, trivial⟩
            have hh := hW.bef rfl
            have ck : W.cell? ⟨w.heap.size + 1, 3, none⟩ = some (.int .i64 0) := hh.cell 3
            have fk := hh.free 3
            have hN : ∀ u, JF (w.alloc (.cells #[.int .i64 0, .int .i64 0, .int .i64 0, .int .i64 0] 60)) wr.heap.size (w.heap.size + 1) #[.pointer (some ⟨w.heap.size + 1, 3, none⟩), .int .i64 2, .int .i64 1, .int .i64 400] (hdCells y0 y1 y2 y3 3) (hdCells y0 y1 y2 y3 4) 1 (W.setCell ⟨w.heap.size + 1, 3, none⟩ (.int .i64 y3)) (upd vals 0 u) := fun u => ⟨hW.below.grown (only_put' 3 _) hW.below.size (by intro q hq; injection hq with hq; simp; omega), hW.fld.away (by show wr.heap.size ≠ w.heap.size + 1; omega) _, fun h => absurd h (by decide), fun _ => hh.put 3 _⟩
            clear hh
            unfold Oper.wp
            simp [go_sem, ck, fk]
            first | exact hN _ | exact ⟨undef, hN _⟩ | exact ⟨_, rfl, hN _⟩
          · intro W vals hJ
            have hgW := hidden (hJ.aft rfl)
            have hbW := hidden (hJ.below.mono (show w.heap.size + 1 ≤ _ by simp))
            have q1 : W.cell? ⟨wr.heap.size, 1, none⟩ = some (.int .i64 2) := hJ.fld.cell 1
            simp only [putAll, List.map_cons, List.map_nil, Job.val, Act.put, pA, pB, pC]
            clear hJ hJ0 hix hgl
            go_wp2_with fail
            go_roundw
            case rel => exact ⟨4, 9, by go_num, rfl, by go_num, by omega, hgW, hbW⟩
            case measure => simp [intOf]
        · obtain rfl : p = 9 := hp
          have hgc : Has wr (w.heap.size + 1) 60 #[.int .i64 y0, .int .i64 y1, .int .i64 y2, .int .i64 y3] := hg.out
          have q0 := hgc.cell 0
          have q1 := hgc.cell 1
          have q2 := hgc.cell 2
          have q3 := hgc.cell 3
          have HV := hidden (headerValid_any wr ⟨y0, y1, y2, y3⟩)
          unfold Hd.agg at HV
          have hsz := hbw.out.size
          have hrr : Has wr w.heap.size 60 #[.int .i64 0, .int .i64 0, .int .i64 0, .int .i64 0] := HRES.out.below hbw.out (Nat.lt_succ_self _)
          have hbx : Below w.heap.size w wr := HBB.out.trans (hbw.out.mono (Nat.le_succ _))
          have HRR := hidden hrr
          have HBX := hidden hbx
          have HGC := hidden hgc
          clear hg hbw hrr hbx hgc hsz
          obtain ⟨ok, hok⟩ : ∃ q, hdOk ⟨y0, y1, y2, y3⟩ = q := ⟨_, rfl⟩
          rw [hok] at HV HOK
          clear hok
          go_wp2_with fail
          refine HV.out.mono ?_
          clear HV q0 q1 q2 q3
          rintro e w5 ⟨rfl, hb5⟩
          have HR5 := hidden (HRR.out.below hb5 HRR.out.lt)
          have HG5 := hidden (HGC.out.below hb5 HGC.out.lt)
          have HB5 := hidden (HBX.out.trans (hb5.mono HBX.out.size))
          clear hb5 HRR HBX HGC
          have c0 := HR5.out.cell 0
          have c1 := HR5.out.cell 1
          have c2 := HR5.out.cell 2
          have c3 := HR5.out.cell 3
          have f0 := HR5.out.free 0
          have f1 := HR5.out.free 1
          have f2 := HR5.out.free 2
          have f3 := HR5.out.free 3
          rcases ok with _ | _
          · have HF : Hid (isHd l = false) := HOK
            go_wp2_with fail
            have HFN : Has ((((w5.setCell ⟨w.heap.size, 0, none⟩ (.int .i64 0)).setCell ⟨w.heap.size, 1, none⟩ (.int .i64 0)).setCell ⟨w.heap.size, 2, none⟩ (.int .i64 0)).setCell ⟨w.heap.size, 3, none⟩ (.int .i64 0)) w.heap.size 60 #[.int .i64 0, .int .i64 0, .int .i64 0, .int .i64 0] := ((((HR5.out.put 0 _).put 1 _).put 2 _).put 3 _)
            have HGW : w5.grownBy ((((w5.setCell ⟨w.heap.size, 0, none⟩ (.int .i64 0)).setCell ⟨w.heap.size, 1, none⟩ (.int .i64 0)).setCell ⟨w.heap.size, 2, none⟩ (.int .i64 0)).setCell ⟨w.heap.size, 3, none⟩ (.int .i64 0)) (some w.heap.size) := only_trans (only_trans (only_trans (only_put' (g := w.heap.size) 0 _) (only_put' 1 _)) (only_put' 2 _)) (only_put' 3 _)
            refine bodyPost_ret (results_cell_row3h rfl _ _ w.heap.size 60 #[.int .i64 0, .int .i64 0, .int .i64 0, .int .i64 0] (0, 0) _ rfl HFN Tryz.underlying60 rfl (by kernel_rfl)) rfl ?_
            refine ⟨?_, HB5.out.grown HGW HB5.out.size (by intro q hq; injection hq with hq; omega)⟩
            have e : getHd l = noHd := by unfold getHd; rw [HF.out]; rfl
            rw [e, HF.out]
            rfl
          · have HF : Hid (isHd l = true) := HOK
            have q0 := HG5.out.cell 0
            have q1 := HG5.out.cell 1
            have q2 := HG5.out.cell 2
            have q3 := HG5.out.cell 3
            go_wp2_with fail
            have HFN : Has ((((w5.setCell ⟨w.heap.size, 0, none⟩ (.int .i64 y0)).setCell ⟨w.heap.size, 1, none⟩ (.int .i64 y1)).setCell ⟨w.heap.size, 2, none⟩ (.int .i64 y2)).setCell ⟨w.heap.size, 3, none⟩ (.int .i64 y3)) w.heap.size 60 #[.int .i64 y0, .int .i64 y1, .int .i64 y2, .int .i64 y3] := ((((HR5.out.put 0 _).put 1 _).put 2 _).put 3 _)
            have HGW : w5.grownBy ((((w5.setCell ⟨w.heap.size, 0, none⟩ (.int .i64 y0)).setCell ⟨w.heap.size, 1, none⟩ (.int .i64 y1)).setCell ⟨w.heap.size, 2, none⟩ (.int .i64 y2)).setCell ⟨w.heap.size, 3, none⟩ (.int .i64 y3)) (some w.heap.size) := only_trans (only_trans (only_trans (only_put' (g := w.heap.size) 0 _) (only_put' 1 _)) (only_put' 2 _)) (only_put' 3 _)
            refine bodyPost_ret (results_cell_row3h rfl _ _ w.heap.size 60 #[.int .i64 y0, .int .i64 y1, .int .i64 y2, .int .i64 y3] (0, 0) _ rfl HFN Tryz.underlying60 rfl (by kernel_rfl)) rfl ?_
            refine ⟨?_, HB5.out.grown HGW HB5.out.size (by intro q hq; injection hq with hq; omega)⟩
            have e : getHd l = ⟨y0, y1, y2, y3⟩ := by unfold getHd; rw [HF.out, if_pos rfl, HHD.out]
            rw [e, HF.out]
            rfl
    · have hy' : (y9 != 0) = true := by simp [hy]
      have HF : Hid (isHd l = false) := HNO.out 9 (by decide) (fun _ _ _ _ e => hy (by rw [← HY9.out, ← e]; rfl))
      clear hy
      go_wp2_with fail
      refine bodyPost_ret (results_cell_row3h rfl _ _ w.heap.size 60 #[.int .i64 0, .int .i64 0, .int .i64 0, .int .i64 0] (0, 0) _ rfl HRES.out Tryz.underlying60 rfl (by kernel_rfl)) rfl ?_
      refine ⟨?_, HBB.out⟩
      have e : getHd l = noHd := by unfold getHd; rw [HF.out]; rfl
      rw [e, HF.out]
      rfl
  · have hm' : ¬ s.toList = [111, 98, 106, 1] := by have := str_ne hm; simpa using this
    have HF : Hid (isHd l = false) := by
      show _ = _
      by_cases h0 : l.getD 0 0 = 111
      · by_cases h1 : l.getD 1 0 = 98
        · by_cases h2 : l.getD 2 0 = 106
          · by_cases h3 : l.getD 3 0 = 1
            · exact absurd (HSE.out ▸ mark_to (by have := HNL.out; omega) ⟨h0, h1, h2, h3⟩) hm
            · exact HNO.out 3 (by decide) (fun _ _ _ _ e => h3 e.symm)
          · exact HNO.out 2 (by decide) (fun _ _ _ _ e => h2 e.symm)
        · exact HNO.out 1 (by decide) (fun _ _ _ _ e => h1 e.symm)
      · exact HNO.out 0 (by decide) (fun _ _ _ _ e => h0 e.symm)
    clear hm
    go_wp2_with fail
    refine bodyPost_ret (results_cell_row3h rfl _ _ w.heap.size 60 #[.int .i64 0, .int .i64 0, .int .i64 0, .int .i64 0] (0, 0) _ rfl HRES.out Tryz.underlying60 rfl (by kernel_rfl)) rfl ?_
    refine ⟨?_, HBB.out⟩
    have e : getHd l = noHd := by unfold getHd; rw [HF.out]; rfl
    rw [e, HF.out]
    rfl

/-
  The walk of FnHeaderValid, over what is wanted of the program.
-/
import Derived.Test.YtgpnjnpcgmhaaaaDrawHW
import Derived.Test.YtgpnjnpcgmhaaaaWant5
namespace Go.Proofs.Ytgpnjnpcgmhaaaa
open Go.RowKit

set_option maxRecDepth 100000 in
set_option maxHeartbeats 2000000 in
theorem law_HeaderValid (hW : ∀ (W : World) (h : Hd), Calls Try.prog 5 #[h.agg] W fun e w' => e = .returned (.bool (hdOk h)) ∧ Below W.heap.size W w') (w : World) (a0 : Option Addr) (len cap : Nat) (h : Came w a0 len cap) :
    Calls Try.prog 3 #[.slice a0 len cap] w fun e w' => e = .returned (.bool true) ∧ Below w.heap.size w w' := by
  obtain ⟨l0, h, rfl, hcap, hmax⟩ := h
  by_cases hbig : 1048576 < l0.length
  · have hd : (1048576 : Int) < (l0.length : Int) := by omega
    go_enter Try.func3, Try.ntmps3
    go_wp2
    go_ret
    exact ⟨rfl, Below.refl _ _⟩
  have hd : ¬ (1048576 : Int) < (l0.length : Int) := by omega
  have HD := hidden (drawHeaderValid_any w a0 cap l0 h hcap hmax)
  clear h
  go_enter Try.func3, Try.ntmps3
  go_wp2_with fail
  refine HD.out.mono ?_
  clear HD
  rintro e w1 ⟨m, he, hm, hb1⟩
  have HI := hidden (fun (W : World) => hW W m)
  have HS := hidden (fun (W : World) => headerValid'_any W m)
  have HB := hidden (fun (W : World) => hW W ⟨m.sec, m.sym, m.fix, 0⟩)
  have e0 : hdOk ⟨m.sec, m.sym, m.fix, 0⟩ = false := by
    rcases hv : hdOk ⟨m.sec, m.sym, m.fix, 0⟩ with _ | _
    · rfl
    · have := (hdOk_iff.1 hv).2.2.2.1; exact absurd this (by show ¬ (1 : Int) ≤ 0; decide)
  rw [e0] at HB
  obtain ⟨ok, hok⟩ : ∃ q, hdOk m = q := ⟨_, rfl⟩
  rw [hok] at HI HS
  obtain ⟨a, b, c, d⟩ := m
  unfold Hd.agg at he HI HS HB
  simp only at HB
  subst he
  have hB1 : Below w.heap.size w (w1.alloc (.cells #[.int .i64 a, .int .i64 b, .int .i64 c, .int .i64 d] 24)) := hb1.alloc hb1.size _
  have hx1 : Has (w1.alloc (.cells #[.int .i64 a, .int .i64 b, .int .i64 c, .int .i64 d] 24)) w1.heap.size 24 #[.int .i64 a, .int .i64 b, .int .i64 c, .int .i64 d] := Has.new _ _ _
  have hrr : (ok != ok) = false := by simp
  clear hok hW hm hb1 e0
  have HX1 := hidden hx1
  have HBB1 := hidden hB1
  clear hx1 hB1
  go_wp2_with fail
  refine (HI.out _).mono ?_
  clear HI
  rintro e w2 ⟨rfl, hb2⟩
  have HX2 := hidden (HX1.out.below hb2 (by simp))
  have HB2 := hidden (HBB1.out.trans (hb2.mono HBB1.out.size))
  have q0 := HX2.out.cell 0
  have q1 := HX2.out.cell 1
  have q2 := HX2.out.cell 2
  have q3 := HX2.out.cell 3
  clear hb2 HX1 HBB1
  go_wp2_with fail
  refine (HS.out _).mono ?_
  clear HS q0 q1 q2 q3
  rintro e w3 ⟨rfl, hb3⟩
  have HX3 := hidden (HX2.out.below hb3 HX2.out.lt)
  have HB3 := hidden (HB2.out.trans (hb3.mono HB2.out.size))
  have q0 := HX3.out.cell 0
  have q1 := HX3.out.cell 1
  have q2 := HX3.out.cell 2
  have q3 := HX3.out.cell 3
  clear hb3 HX2 HB2
  go_wp2_with fail
  refine (HB.out _).mono ?_
  clear HB q0 q1 q2 q3
  rintro e w4 ⟨rfl, hb4⟩
  have HB4 : Hid (Below w.heap.size w w4) := (HB3.out.alloc HB3.out.size (.cells #[.int .i64 a, .int .i64 b, .int .i64 c, .int .i64 0] 24)).trans (hb4.mono (HB3.out.alloc HB3.out.size _).size)
  clear hb4
  go_wp2_with (go_at_call 7; refine (alive_any _).mono ?_; rintro e _ ⟨rfl, rfl⟩)
  go_ret
  exact ⟨rfl, HB4.out⟩

end Go.Proofs.Ytgpnjnpcgmhaaaa

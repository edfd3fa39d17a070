/-
  The walk of FnObjectLength, over what is wanted of the program.
-/
import Derived.Test.YtjafekjcncmjjaaDrawOV6
import Derived.Test.YtjafekjcncmjjaaLawO2
import Derived.Test.YtjafekjcncmjjaaLawR1
import Derived.Test.YtjafekjcncmjjaaWrP
namespace Go.Proofs.Ytjafekjcncmjjaa
open Go.RowKit

theorem writeObj_wf (l : List Sp) (ms : List Sm) (v : Value) (w : World) (base n : Nat) (h : w.ownsRow base 5 1 v n ((writeObj l ms).map (Value.int .u8))) (_ : n = (writeObj l ms).length) : ∃ a c, v = .slice a n c := by
  rcases h.2 with ⟨e, h0⟩ | ⟨g, cap, cur, e, _⟩
  · exact ⟨none, 0, by rw [e, h0]⟩
  · exact ⟨_, _, e⟩
set_option maxRecDepth 100000 in
set_option maxHeartbeats 2000000 in
theorem law_ObjectLength (hL : WantObjectLength) (hO : WantWriteObject) (w : World) (a0 : Option Addr) (len cap : Nat) (h : Came w a0 len cap) :
    Calls Try.prog 3 #[.slice a0 len cap] w fun e w' => e = .returned (.bool true) ∧ Below w.heap.size w w' := by
  obtain ⟨l0, h, rfl, hcap, hmax⟩ := h
  by_cases hbig : 1048576 < l0.length
  · have hd : (1048576 : Int) < (l0.length : Int) := by omega
    go_enter Try.func3, Try.ntmps3
    go_wp2
    go_ret
    exact ⟨rfl, Below.refl _ _⟩
  have hd : ¬ (1048576 : Int) < (l0.length : Int) := by omega
  have HD := hidden (drawObjectLength_any w a0 cap l0 h hcap hmax)
  have HO := hidden hO
  have HL := hidden hL
  clear h hL hO
  go_enter Try.func3, Try.ntmps3
  go_wp2_with fail
  refine HD.out.mono ?_
  clear HD
  rintro e w1 ⟨ss, ms, a1, a2, c1, c2, rfl, hl1, hl2, hsm, hmm, hS, hM, -, hb1⟩
  have hfs : ∀ y ∈ ss, y.s.fits := fun y hy => (hsm y hy).fits'
  have hfm : ∀ x ∈ ms, x.fits := fun x hx => (hmm x hx).fits
  have HIM : Hid (∀ W, Below w1.heap.size w1 W → Calls Try.prog 6 #[.agg #[.slice a1 ss.length c1, .slice a2 ms.length c2]] W fun e w' => e = .returned (.int .i64 (objLen ss ms)) ∧ Below W.heap.size W w') := fun W hB => HL.out W w1.heap.size a1 a2 c1 c2 ss ms (hS.below hB) (hM.below hB) hB.size (by omega) (by omega) hfs hfm
  have HSP : Hid (∀ W, Below w1.heap.size w1 W → Calls Try.prog 7 #[.agg #[.slice a1 ss.length c1, .slice a2 ms.length c2]] W fun e w' => e = .returned (.int .i64 (objLen ss ms)) ∧ Below W.heap.size W w') := fun W hB => objectLength'_any W w1.heap.size a1 a2 c1 c2 ss.length ms.length ss ms rfl rfl (hS.below hB) (hM.below hB) hB.size (by omega) (by omega) (fun y hy => (hfs y hy).lens) (fun x hx => (hfm x hx).name)
  have HWO : Hid (∀ W, Below w1.heap.size w1 W → Calls Try.prog 8 #[.agg #[.slice a1 ss.length c1, .slice a2 ms.length c2]] W fun e w' => ∃ b d, e = .returned (.slice b (objLen ss ms) d) ∧ Below W.heap.size W w') := fun W hB => (HO.out W w1.heap.size a1 a2 c1 c2 ss ms (hS.below hB) (hM.below hB) hB.size (by omega) (by omega) hfs hfm).mono fun e w' ⟨v, he, hr, hb⟩ => by
    obtain ⟨b, d, hv⟩ := writeObj_wf ss ms v w' _ _ hr rfl
    rw [writeObj_length] at hv
    exact ⟨b, d, by rw [he, hv], hb⟩
  obtain ⟨r, hr⟩ : ∃ r, objLen ss ms = r := ⟨_, rfl⟩
  rw [hr] at HIM HSP HWO
  obtain ⟨ns, hns⟩ : ∃ n, n = ss.length := ⟨_, rfl⟩
  obtain ⟨nm, hnm⟩ : ∃ n, n = ms.length := ⟨_, rfl⟩
  rw [← hns, ← hnm] at HIM HSP HWO ⊢
  have hB0 : Below w.heap.size w (w1.alloc (.cells #[.slice a1 ns c1, .slice a2 nm c2] 26)) := hb1.alloc hb1.size _
  have hC0 : Below w1.heap.size w1 (w1.alloc (.cells #[.slice a1 ns c1, .slice a2 nm c2] 26)) := (Below.refl _ _).alloc (Nat.le_refl _) _
  have hx0 : Has (w1.alloc (.cells #[.slice a1 ns c1, .slice a2 nm c2] 26)) w1.heap.size 26 #[.slice a1 ns c1, .slice a2 nm c2] := Has.new _ _ _
  clear hS hM hns hnm hr hsm hmm hfs hfm HO HL hb1
  go_wp2_with fail
  refine (HIM.out _ hC0).mono ?_
  clear HIM
  rintro e w2 ⟨rfl, hb2⟩
  have hB2 := hB0.trans (hb2.mono hB0.size)
  have hC2 := hC0.trans (hb2.mono hC0.size)
  have hx2 := hx0.below hb2 hx0.lt
  have x0 : w2.cell? ⟨w1.heap.size, 0, none⟩ = some (.slice a1 ns c1) := hx2.cell 0
  have x1 : w2.cell? ⟨w1.heap.size, 1, none⟩ = some (.slice a2 nm c2) := hx2.cell 1
  have HX2 := hidden hx2
  clear hx0 hx2 hB0 hC0 hb2
  go_wp2_with fail
  refine (HSP.out w2 hC2).mono ?_
  clear HSP x0 x1
  rintro e w3 ⟨rfl, hb3⟩
  have hB3 := hB2.trans (hb3.mono hB2.size)
  have hC3 := hC2.trans (hb3.mono hC2.size)
  have HX3 := HX2.out.below hb3 HX2.out.lt
  have x0 : w3.cell? ⟨w1.heap.size, 0, none⟩ = some (.slice a1 ns c1) := HX3.cell 0
  have x1 : w3.cell? ⟨w1.heap.size, 1, none⟩ = some (.slice a2 nm c2) := HX3.cell 1
  have hrr : ((r : Int) != (r : Int)) = false := by simp
  clear HX2 HX3 hb3 hB2 hC2
  go_wp2_with fail
  refine (HWO.out w3 hC3).mono ?_
  clear HWO x0 x1
  rintro e w4 ⟨b, d, rfl, hb4⟩
  have hB4 := hB3.trans (hb4.mono hB3.size)
  clear hb4 hB3 hC3
  go_wp2_with (go_at_call 9; refine (alive_any _).mono ?_; rintro e _ ⟨rfl, rfl⟩)
  go_ret
  exact ⟨rfl, hB4⟩

end Go.Proofs.Ytjafekjcncmjjaa

/-
  The walk of FnSymbolValid, over what is wanted of the program.
-/
import Derived.Test.YtdbedkjnoppkmaaDrawSV
import Derived.Test.YtdbedkjnoppkmaaWant4
import Derived.Test.YtdbedkjnoppkmaaMem
namespace Go.Proofs.Ytdbedkjnoppkmaa
open Go.RowKit

theorem Sx.small.fits' {s : Sx} (h : s.small) : s.fits :=
  have := h.kind0; have := h.kind1; have := h.align0; have := h.align1; have := h.size0; have := h.size1; have := h.bytes; have := h.count; have := h.name
  ⟨by unfold maxLen; omega, ⟨by omega, by omega⟩, ⟨by omega, by omega⟩, ⟨by omega, by omega⟩, by omega, by omega, fun f hf => by
    obtain ⟨k1, k2, k3, k4, k5, k6, k7, k8⟩ := h.fixs f hf
    exact ⟨⟨by omega, by omega⟩, ⟨by omega, by omega⟩, ⟨by omega, by omega⟩, ⟨by omega, by omega⟩⟩⟩
theorem Sm.small.fits {m : Sm} (h : m.small) : m.fits :=
  have := h.name; have := h.bind0; have := h.bind1; have := h.loc0; have := h.loc1; have := h.value0; have := h.value1
  ⟨by unfold maxLen; omega, ⟨by omega, by omega⟩, ⟨by omega, by omega⟩, ⟨by omega, by omega⟩⟩
theorem symOk_behind (m : Sm) (l : List Sx) : symOk { m with loc := (l.length : Int) } l = false := by
  unfold symOk
  have h1 : ¬ (l.length : Int) = -1 := by omega
  have h2 : ¬ (l.length : Int) = -2 := by omega
  simp only [h1, h2, if_false]
  simp
set_option maxHeartbeats 1000000 in
theorem law_SymbolValid (hW : WantSymbolValid) (w : World) (a0 : Option Addr) (len cap : Nat) (h : Came w a0 len cap) :
    Calls Try.prog 3 #[.slice a0 len cap] w fun e w' => e = .returned (.bool true) ∧ Below w.heap.size w w' := by
  obtain ⟨l0, h, rfl, hcap, hmax⟩ := h
  by_cases hbig : 1048576 < l0.length
  · have hd : (1048576 : Int) < (l0.length : Int) := by omega
    go_enter Try.func3, Try.ntmps3
    go_wp2
    go_ret
    exact ⟨rfl, Below.refl _ _⟩
  have hd : ¬ (1048576 : Int) < (l0.length : Int) := by omega
  have HD := hidden (drawSymbolValid_any w a0 cap l0 h hcap hmax)
  have HW := hidden hW
  clear h hW
  go_enter Try.func3, Try.ntmps3
  go_wp2_with fail
  refine HD.out.mono ?_
  clear HD
  rintro e w1 ⟨s, ss, b1, d1, he, hs, hss, hsm, hi1, hb1⟩
  have hf := hs.fits
  have hfs : ∀ y ∈ ss, y.s.fits := fun y hy => (hsm y hy).fits'
  have HIM : Hid (∀ W, Below w1.heap.size w1 W → Calls Try.prog 11 #[s.agg, .slice b1 ss.length d1] W fun e w' => e = .returned (.bool (symOk s (ss.map Sp.s))) ∧ Below W.heap.size W w') := fun W hB => HW.out W w1.heap.size s b1 d1 ss (hi1.below hB) hB.size (by omega) hf hfs
  have HSP : Hid (∀ W, Below w1.heap.size w1 W → Calls Try.prog 12 #[s.agg, .slice b1 ss.length d1] W fun e w' => e = .returned (.bool (symOk s (ss.map Sp.s))) ∧ Below W.heap.size W w') := fun W hB => symbolValid'_any W w1.heap.size s b1 d1 ss.length ss rfl (hi1.below hB) hB.size (by omega) hf.name (fun y hy => (hfs y hy).lens)
  have HBAD : Hid (∀ W, Below w1.heap.size w1 W → Calls Try.prog 11 #[({ s with loc := (ss.length : Int) } : Sm).agg, .slice b1 ss.length d1] W fun e w' => e = .returned (.bool false) ∧ Below W.heap.size W w') := fun W hB => by
    have := HW.out W w1.heap.size { s with loc := (ss.length : Int) } b1 d1 ss (hi1.below hB) hB.size (by omega) ⟨hf.name, hf.bind, ⟨by show _ ≤ ((ss.length : Nat) : Int); omega, by show ((ss.length : Nat) : Int) ≤ _; omega⟩, hf.value⟩ hfs
    have e : symOk { s with loc := (ss.length : Int) } (ss.map Sp.s) = false := by
      have := symOk_behind s (ss.map Sp.s)
      rwa [List.length_map] at this
    rwa [e] at this
  obtain ⟨ok, hok⟩ : ∃ r, symOk s (ss.map Sp.s) = r := ⟨_, rfl⟩
  rw [hok] at HIM HSP
  obtain ⟨nm, bd, lo, va⟩ := s
  unfold Sm.agg at he HIM HSP HBAD
  simp only at he HIM HSP HBAD
  obtain ⟨ns, hns⟩ : ∃ n, n = ss.length := ⟨_, rfl⟩
  rw [← hns] at he HIM HSP HBAD hss
  clear hf hs hi1 HW hns hok hsm hfs
  subst he
  have hx0 : Has (w1.alloc (.cells #[.string nm, .int .i64 bd, .int .i64 lo, .int .i64 va] 24)) w1.heap.size 24 #[.string nm, .int .i64 bd, .int .i64 lo, .int .i64 va] := Has.new _ _ _
  have hbA : Below w1.heap.size w1 (w1.alloc (.cells #[.string nm, .int .i64 bd, .int .i64 lo, .int .i64 va] 24)) := (Below.refl _ _).alloc (Nat.le_refl _) _
  have hB0 : Below w.heap.size w (w1.alloc (.cells #[.string nm, .int .i64 bd, .int .i64 lo, .int .i64 va] 24)) := hb1.alloc hb1.size _
  go_wp2_with fail
  refine (HIM.out _ hbA).mono ?_
  clear HIM
  rintro e w2 ⟨rfl, hb2⟩
  have hB2 := hB0.trans (hb2.mono hB0.size)
  have hC2 := hbA.trans (hb2.mono hbA.size)
  have hx2 := hx0.below hb2 hx0.lt
  have x0 : w2.cell? ⟨w1.heap.size, 0, none⟩ = some (.string nm) := hx2.cell 0
  have x1 : w2.cell? ⟨w1.heap.size, 1, none⟩ = some (.int .i64 bd) := hx2.cell 1
  have x2 : w2.cell? ⟨w1.heap.size, 2, none⟩ = some (.int .i64 lo) := hx2.cell 2
  have x3 : w2.cell? ⟨w1.heap.size, 3, none⟩ = some (.int .i64 va) := hx2.cell 3
  have HX2 := hidden hx2
  clear hx0 hx2 hB0 hbA hb2 hb1
  go_wp2_with fail
  refine (HSP.out w2 hC2).mono ?_
  clear HSP x0 x1 x2 x3
  rintro e w3 ⟨rfl, hb3⟩
  have hB3 := hB2.trans (hb3.mono hB2.size)
  have hC3 := hC2.trans (hb3.mono hC2.size)
  have hx3 := HX2.out.below hb3 HX2.out.lt
  have x0 : w3.cell? ⟨w1.heap.size, 0, none⟩ = some (.string nm) := hx3.cell 0
  have x1 : w3.cell? ⟨w1.heap.size, 1, none⟩ = some (.int .i64 bd) := hx3.cell 1
  have x2 : w3.cell? ⟨w1.heap.size, 2, none⟩ = some (.int .i64 lo) := hx3.cell 2
  have x3 : w3.cell? ⟨w1.heap.size, 3, none⟩ = some (.int .i64 va) := hx3.cell 3
  have hB5 : Below w.heap.size w (w3.alloc (.cells #[.string nm, .int .i64 bd, .int .i64 ns, .int .i64 va] 24)) := hB3.alloc hB3.size _
  have hC5 : Below w1.heap.size w1 (w3.alloc (.cells #[.string nm, .int .i64 bd, .int .i64 ns, .int .i64 va] 24)) := hC3.alloc hC3.size _
  have hrr : (ok != ok) = false := by simp
  clear HX2 hb3 hB2 hC2 hx3
  go_wp2_with fail
  refine (HBAD.out _ hC5).mono ?_
  rintro e w6 ⟨rfl, hb6⟩
  have hB6 := hB5.trans (hb6.mono hB5.size)
  clear HBAD hB5 hC5 hb6 hB3 hC3 x0 x1 x2 x3
  go_wp2_with (go_at_call 13; refine (alive_any _).mono ?_; rintro e _ ⟨rfl, rfl⟩)
  go_ret
  exact ⟨rfl, hB6⟩

end Go.Proofs.Ytdbedkjnoppkmaa

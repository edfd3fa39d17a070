/-
  impl.nameUse.with: one symbol more with a name.
-/
import Derived.Test.YtjakkiidedmifaaLnkG
namespace Go.Proofs.Ytjakkiidedmifaa
open Go.RowKit

set_option maxRecDepth 100000 in
set_option maxHeartbeats 4000000 in
theorem useWith_any (w : World) (u : Use) (m : Sm) (i j : Int) (hs0 : 0 ≤ u.strong) (hs1 : u.strong ≤ 4000000) :
    Calls Try.prog 69 #[u.agg, m.agg, .agg #[.int .i64 i, .int .i64 j]] w fun e w' => e = .returned (u.step m i j).agg ∧ Below w.heap.size w w' := by
  obtain ⟨ui, ua, ug, us, uw⟩ := u
  obtain ⟨xn, xb, xl, xv⟩ := m
  unfold Use.agg Sm.agg
  simp only at hs0 hs1 ⊢
  have HU : Has ((((w.alloc (.cells #[.int .i64 ui, .int .i64 ua, .bool ug, .int .i64 us, .bool uw] 62)).alloc (.cells #[.string xn, .int .i64 xb, .int .i64 xl, .int .i64 xv] 37)).alloc (.cells #[.int .i64 i, .int .i64 j] 32)).alloc (.cells #[.int .i64 0, .int .i64 0, .bool false, .int .i64 0, .bool false] 62)) w.heap.size 62 #[.int .i64 ui, .int .i64 ua, .bool ug, .int .i64 us, .bool uw] := (((Has.new _ _ _).alloc _).alloc _).alloc _
  have HM : Has ((((w.alloc (.cells #[.int .i64 ui, .int .i64 ua, .bool ug, .int .i64 us, .bool uw] 62)).alloc (.cells #[.string xn, .int .i64 xb, .int .i64 xl, .int .i64 xv] 37)).alloc (.cells #[.int .i64 i, .int .i64 j] 32)).alloc (.cells #[.int .i64 0, .int .i64 0, .bool false, .int .i64 0, .bool false] 62)) (w.heap.size + 1) 37 #[.string xn, .int .i64 xb, .int .i64 xl, .int .i64 xv] := by
    have := ((Has.new (w.alloc (.cells #[.int .i64 ui, .int .i64 ua, .bool ug, .int .i64 us, .bool uw] 62)) 37 #[.string xn, .int .i64 xb, .int .i64 xl, .int .i64 xv]).alloc (.cells #[.int .i64 i, .int .i64 j] 32)).alloc (.cells #[.int .i64 0, .int .i64 0, .bool false, .int .i64 0, .bool false] 62)
    simpa using this
  have HA : Has ((((w.alloc (.cells #[.int .i64 ui, .int .i64 ua, .bool ug, .int .i64 us, .bool uw] 62)).alloc (.cells #[.string xn, .int .i64 xb, .int .i64 xl, .int .i64 xv] 37)).alloc (.cells #[.int .i64 i, .int .i64 j] 32)).alloc (.cells #[.int .i64 0, .int .i64 0, .bool false, .int .i64 0, .bool false] 62)) (w.heap.size + 2) 32 #[.int .i64 i, .int .i64 j] := by
    have := (Has.new ((w.alloc (.cells #[.int .i64 ui, .int .i64 ua, .bool ug, .int .i64 us, .bool uw] 62)).alloc (.cells #[.string xn, .int .i64 xb, .int .i64 xl, .int .i64 xv] 37)) 32 #[.int .i64 i, .int .i64 j]).alloc (.cells #[.int .i64 0, .int .i64 0, .bool false, .int .i64 0, .bool false] 62)
    simpa using this
  have HR : Has ((((w.alloc (.cells #[.int .i64 ui, .int .i64 ua, .bool ug, .int .i64 us, .bool uw] 62)).alloc (.cells #[.string xn, .int .i64 xb, .int .i64 xl, .int .i64 xv] 37)).alloc (.cells #[.int .i64 i, .int .i64 j] 32)).alloc (.cells #[.int .i64 0, .int .i64 0, .bool false, .int .i64 0, .bool false] 62)) (w.heap.size + 3) 62 #[.int .i64 0, .int .i64 0, .bool false, .int .i64 0, .bool false] := by
    have := Has.new (((w.alloc (.cells #[.int .i64 ui, .int .i64 ua, .bool ug, .int .i64 us, .bool uw] 62)).alloc (.cells #[.string xn, .int .i64 xb, .int .i64 xl, .int .i64 xv] 37)).alloc (.cells #[.int .i64 i, .int .i64 j] 32)) 62 #[.int .i64 0, .int .i64 0, .bool false, .int .i64 0, .bool false]
    simpa using this
  have HB : Below w.heap.size w ((((w.alloc (.cells #[.int .i64 ui, .int .i64 ua, .bool ug, .int .i64 us, .bool uw] 62)).alloc (.cells #[.string xn, .int .i64 xb, .int .i64 xl, .int .i64 xv] 37)).alloc (.cells #[.int .i64 i, .int .i64 j] 32)).alloc (.cells #[.int .i64 0, .int .i64 0, .bool false, .int .i64 0, .bool false] 62)) := ((((Below.refl _ _).alloc (Nat.le_refl _) _).alloc (by simp) _).alloc (by simp; omega) _).alloc (by simp; omega) _
  obtain ⟨W0, hW0⟩ : ∃ q, ((((w.alloc (.cells #[.int .i64 ui, .int .i64 ua, .bool ug, .int .i64 us, .bool uw] 62)).alloc (.cells #[.string xn, .int .i64 xb, .int .i64 xl, .int .i64 xv] 37)).alloc (.cells #[.int .i64 i, .int .i64 j] 32)).alloc (.cells #[.int .i64 0, .int .i64 0, .bool false, .int .i64 0, .bool false] 62)) = q := ⟨_, rfl⟩
  rw [hW0] at HU HM HA HR HB
  have HW0 := hidden hW0
  clear hW0
  go_enter Try.func69, Try.ntmps69
  go_upto_region 1 with fail
  rw [HW0.out]
  clear HW0
  have y0 : W0.cell? ⟨w.heap.size + 1, 0, none⟩ = some (.string xn) := HM.cell 0
  have y1 : W0.cell? ⟨w.heap.size + 1, 1, none⟩ = some (.int .i64 xb) := HM.cell 1
  have y2 : W0.cell? ⟨w.heap.size + 1, 2, none⟩ = some (.int .i64 xl) := HM.cell 2
  have a0 : W0.cell? ⟨w.heap.size + 2, 0, none⟩ = some (.int .i64 i) := HA.cell 0
  have a1 : W0.cell? ⟨w.heap.size + 2, 1, none⟩ = some (.int .i64 j) := HA.cell 1
  by_cases hl : xl = -1
  · have e1 : (xl == -1) = true := by simp [hl]
    obtain ⟨b, hbb⟩ : ∃ q, (xb == 1) = q := ⟨_, rfl⟩
    rcases uw with _ | _
    · have HST : Hid ((⟨ui, ua, ug, us, b⟩ : Use) = (⟨ui, ua, ug, us, false⟩ : Use).step ⟨xn, xb, xl, xv⟩ i j) := by
        show _ = _
        rw [← hbb]
        simp only [Use.step, hl, if_true, Bool.false_or]
        by_cases hq : xb = 1 <;> simp [hq]
      clear hl
      have hgD : W0.grownBy (W0.setCell ⟨w.heap.size, 4, none⟩ (.bool b)) (some w.heap.size) := (only_put' 4 _)
      have hUD := (HU.put 4 (.bool b))
      have hBD := (HB.setCell (p := ⟨w.heap.size, 4, none⟩) (Nat.le_refl _) (.bool b))
      have hRD := HR.grown hgD (by intro e; injection e with e; omega)
      have hMD := HM.grown hgD (by intro e; injection e with e; omega)
      have hAD := HA.grown hgD (by intro e; injection e with e; omega)
      obtain ⟨D, hWD⟩ : ∃ q, (W0.setCell ⟨w.heap.size, 4, none⟩ (.bool b)) = q := ⟨_, rfl⟩
      rw [hWD] at hUD hBD hRD hMD hAD
      have HWD := hidden hWD
      have x0 := HU.cell 0
      have x1 := HU.cell 1
      have x2 := HU.cell 2
      have x3 := HU.cell 3
      have x4 := HU.cell 4
      have g0 := HU.free 0
      have g1 := HU.free 1
      have g2 := HU.free 2
      have g3 := HU.free 3
      have g4 := HU.free 4
      clear hgD hWD HU HR HB HM HA
      go_upto_region 9 with fail
      rw [HWD.out]
      clear HWD x0 x1 x2 x3 x4 g0 g1 g2 g3 g4 y0 y1 y2 a0 a1
      have HU := hUD
      have HB := hBD
      have HR := hRD
      have HM := hMD
      have HA := hAD
      clear hUD hBD hRD hMD hAD
      have hF : Has (((((D.setCell ⟨w.heap.size + 3, 0, none⟩ (.int .i64 ui)).setCell ⟨w.heap.size + 3, 1, none⟩ (.int .i64 ua)).setCell ⟨w.heap.size + 3, 2, none⟩ (.bool ug)).setCell ⟨w.heap.size + 3, 3, none⟩ (.int .i64 us)).setCell ⟨w.heap.size + 3, 4, none⟩ (.bool b)) (w.heap.size + 3) 62 #[.int .i64 ui, .int .i64 ua, .bool ug, .int .i64 us, .bool b] := (((((HR).put 0 _).put 1 _).put 2 _).put 3 _).put 4 _
      have hG : Below w.heap.size w (((((D.setCell ⟨w.heap.size + 3, 0, none⟩ (.int .i64 ui)).setCell ⟨w.heap.size + 3, 1, none⟩ (.int .i64 ua)).setCell ⟨w.heap.size + 3, 2, none⟩ (.bool ug)).setCell ⟨w.heap.size + 3, 3, none⟩ (.int .i64 us)).setCell ⟨w.heap.size + 3, 4, none⟩ (.bool b)) := ((((HB.setCell (p := ⟨w.heap.size + 3, 0, none⟩) (by show w.heap.size ≤ w.heap.size + 3; omega) _).setCell (p := ⟨w.heap.size + 3, 1, none⟩) (by show w.heap.size ≤ w.heap.size + 3; omega) _).setCell (p := ⟨w.heap.size + 3, 2, none⟩) (by show w.heap.size ≤ w.heap.size + 3; omega) _).setCell (p := ⟨w.heap.size + 3, 3, none⟩) (by show w.heap.size ≤ w.heap.size + 3; omega) _).setCell (p := ⟨w.heap.size + 3, 4, none⟩) (by show w.heap.size ≤ w.heap.size + 3; omega) _
      have c0 : D.cell? ⟨w.heap.size, 0, none⟩ = some (.int .i64 ui) := HU.cell 0
      have c1 : D.cell? ⟨w.heap.size, 1, none⟩ = some (.int .i64 ua) := HU.cell 1
      have c2 : D.cell? ⟨w.heap.size, 2, none⟩ = some (.bool ug) := HU.cell 2
      have c3 : D.cell? ⟨w.heap.size, 3, none⟩ = some (.int .i64 us) := HU.cell 3
      have c4 : D.cell? ⟨w.heap.size, 4, none⟩ = some (.bool b) := HU.cell 4
      have r0 : D.cell? ⟨w.heap.size + 3, 0, none⟩ = some (.int .i64 0) := HR.cell 0
      have f0 : D.frozen? ⟨w.heap.size + 3, 0, none⟩ = false := HR.free 0
      have r1 : D.cell? ⟨w.heap.size + 3, 1, none⟩ = some (.int .i64 0) := HR.cell 1
      have f1 : D.frozen? ⟨w.heap.size + 3, 1, none⟩ = false := HR.free 1
      have r2 : D.cell? ⟨w.heap.size + 3, 2, none⟩ = some (.bool false) := HR.cell 2
      have f2 : D.frozen? ⟨w.heap.size + 3, 2, none⟩ = false := HR.free 2
      have r3 : D.cell? ⟨w.heap.size + 3, 3, none⟩ = some (.int .i64 0) := HR.cell 3
      have f3 : D.frozen? ⟨w.heap.size + 3, 3, none⟩ = false := HR.free 3
      have r4 : D.cell? ⟨w.heap.size + 3, 4, none⟩ = some (.bool false) := HR.cell 4
      have f4 : D.frozen? ⟨w.heap.size + 3, 4, none⟩ = false := HR.free 4
      have HF := hidden hF
      have HG := hidden hG
      clear hF hG HU HR HB HM HA
      go_wp21
      refine bodyPost_ret (results_cell_row rfl _ _ (w.heap.size + 3) 62 #[.int .i64 ui, .int .i64 ua, .bool ug, .int .i64 us, .bool b] (0, 0) _ rfl HF.out Try.underlying62 rfl (by kernel_rfl)) rfl ?_
      exact ⟨by rw [← HST.out], HG.out⟩
    · have HST : Hid ((⟨ui, ua, ug, us, true⟩ : Use) = (⟨ui, ua, ug, us, true⟩ : Use).step ⟨xn, xb, xl, xv⟩ i j) := by
        show _ = _
        simp [Use.step, hl]
      clear hl
      have hgD : W0.grownBy (W0.setCell ⟨w.heap.size, 4, none⟩ (.bool true)) (some w.heap.size) := (only_put' 4 _)
      have hUD := (HU.put 4 (.bool true))
      have hBD := (HB.setCell (p := ⟨w.heap.size, 4, none⟩) (Nat.le_refl _) (.bool true))
      have hRD := HR.grown hgD (by intro e; injection e with e; omega)
      have hMD := HM.grown hgD (by intro e; injection e with e; omega)
      have hAD := HA.grown hgD (by intro e; injection e with e; omega)
      obtain ⟨D, hWD⟩ : ∃ q, (W0.setCell ⟨w.heap.size, 4, none⟩ (.bool true)) = q := ⟨_, rfl⟩
      rw [hWD] at hUD hBD hRD hMD hAD
      have HWD := hidden hWD
      have x0 := HU.cell 0
      have x1 := HU.cell 1
      have x2 := HU.cell 2
      have x3 := HU.cell 3
      have x4 := HU.cell 4
      have g0 := HU.free 0
      have g1 := HU.free 1
      have g2 := HU.free 2
      have g3 := HU.free 3
      have g4 := HU.free 4
      clear hgD hWD HU HR HB HM HA
      go_upto_region 9 with fail
      rw [HWD.out]
      clear HWD x0 x1 x2 x3 x4 g0 g1 g2 g3 g4 y0 y1 y2 a0 a1
      have HU := hUD
      have HB := hBD
      have HR := hRD
      have HM := hMD
      have HA := hAD
      clear hUD hBD hRD hMD hAD
      have hF : Has (((((D.setCell ⟨w.heap.size + 3, 0, none⟩ (.int .i64 ui)).setCell ⟨w.heap.size + 3, 1, none⟩ (.int .i64 ua)).setCell ⟨w.heap.size + 3, 2, none⟩ (.bool ug)).setCell ⟨w.heap.size + 3, 3, none⟩ (.int .i64 us)).setCell ⟨w.heap.size + 3, 4, none⟩ (.bool true)) (w.heap.size + 3) 62 #[.int .i64 ui, .int .i64 ua, .bool ug, .int .i64 us, .bool true] := (((((HR).put 0 _).put 1 _).put 2 _).put 3 _).put 4 _
      have hG : Below w.heap.size w (((((D.setCell ⟨w.heap.size + 3, 0, none⟩ (.int .i64 ui)).setCell ⟨w.heap.size + 3, 1, none⟩ (.int .i64 ua)).setCell ⟨w.heap.size + 3, 2, none⟩ (.bool ug)).setCell ⟨w.heap.size + 3, 3, none⟩ (.int .i64 us)).setCell ⟨w.heap.size + 3, 4, none⟩ (.bool true)) := ((((HB.setCell (p := ⟨w.heap.size + 3, 0, none⟩) (by show w.heap.size ≤ w.heap.size + 3; omega) _).setCell (p := ⟨w.heap.size + 3, 1, none⟩) (by show w.heap.size ≤ w.heap.size + 3; omega) _).setCell (p := ⟨w.heap.size + 3, 2, none⟩) (by show w.heap.size ≤ w.heap.size + 3; omega) _).setCell (p := ⟨w.heap.size + 3, 3, none⟩) (by show w.heap.size ≤ w.heap.size + 3; omega) _).setCell (p := ⟨w.heap.size + 3, 4, none⟩) (by show w.heap.size ≤ w.heap.size + 3; omega) _
      have c0 : D.cell? ⟨w.heap.size, 0, none⟩ = some (.int .i64 ui) := HU.cell 0
      have c1 : D.cell? ⟨w.heap.size, 1, none⟩ = some (.int .i64 ua) := HU.cell 1
      have c2 : D.cell? ⟨w.heap.size, 2, none⟩ = some (.bool ug) := HU.cell 2
      have c3 : D.cell? ⟨w.heap.size, 3, none⟩ = some (.int .i64 us) := HU.cell 3
      have c4 : D.cell? ⟨w.heap.size, 4, none⟩ = some (.bool true) := HU.cell 4
      have r0 : D.cell? ⟨w.heap.size + 3, 0, none⟩ = some (.int .i64 0) := HR.cell 0
      have f0 : D.frozen? ⟨w.heap.size + 3, 0, none⟩ = false := HR.free 0
      have r1 : D.cell? ⟨w.heap.size + 3, 1, none⟩ = some (.int .i64 0) := HR.cell 1
      have f1 : D.frozen? ⟨w.heap.size + 3, 1, none⟩ = false := HR.free 1
      have r2 : D.cell? ⟨w.heap.size + 3, 2, none⟩ = some (.bool false) := HR.cell 2
      have f2 : D.frozen? ⟨w.heap.size + 3, 2, none⟩ = false := HR.free 2
      have r3 : D.cell? ⟨w.heap.size + 3, 3, none⟩ = some (.int .i64 0) := HR.cell 3
      have f3 : D.frozen? ⟨w.heap.size + 3, 3, none⟩ = false := HR.free 3
      have r4 : D.cell? ⟨w.heap.size + 3, 4, none⟩ = some (.bool false) := HR.cell 4
      have f4 : D.frozen? ⟨w.heap.size + 3, 4, none⟩ = false := HR.free 4
      have HF := hidden hF
      have HG := hidden hG
      clear hF hG HU HR HB HM HA
      go_wp21
      refine bodyPost_ret (results_cell_row rfl _ _ (w.heap.size + 3) 62 #[.int .i64 ui, .int .i64 ua, .bool ug, .int .i64 us, .bool true] (0, 0) _ rfl HF.out Try.underlying62 rfl (by kernel_rfl)) rfl ?_
      exact ⟨by rw [← HST.out], HG.out⟩
  have e1 : (xl == -1) = false := by simp [hl]
  by_cases hb1 : xb = 1
  · have e2 : (xb == 1) = true := by simp [hb1]
    by_cases hs0 : us = 0
    · have e3 : (us == 0) = true := by simp [hs0]
      have HST : Hid ((⟨i, j, true, us + 1, uw⟩ : Use) = (⟨ui, ua, ug, us, uw⟩ : Use).step ⟨xn, xb, xl, xv⟩ i j) := by
        show _ = _
        simp [Use.step, hl, hb1, hs0]
      clear hs0 hb1 hl
      have hgD : W0.grownBy (((W0.setCell ⟨w.heap.size, 0, none⟩ (.int .i64 i)).setCell ⟨w.heap.size, 1, none⟩ (.int .i64 j)).setCell ⟨w.heap.size, 2, none⟩ (.bool true)) (some w.heap.size) := (only_trans (only_trans (only_put' 0 _) (only_put' 1 _)) (only_put' 2 _))
      have hUD := (((HU.put 0 (.int .i64 i)).put 1 (.int .i64 j)).put 2 (.bool true))
      have hBD := (((HB.setCell (p := ⟨w.heap.size, 0, none⟩) (Nat.le_refl _) (.int .i64 i)).setCell (p := ⟨w.heap.size, 1, none⟩) (Nat.le_refl _) (.int .i64 j)).setCell (p := ⟨w.heap.size, 2, none⟩) (Nat.le_refl _) (.bool true))
      have hRD := HR.grown hgD (by intro e; injection e with e; omega)
      have hMD := HM.grown hgD (by intro e; injection e with e; omega)
      have hAD := HA.grown hgD (by intro e; injection e with e; omega)
      obtain ⟨D, hWD⟩ : ∃ q, (((W0.setCell ⟨w.heap.size, 0, none⟩ (.int .i64 i)).setCell ⟨w.heap.size, 1, none⟩ (.int .i64 j)).setCell ⟨w.heap.size, 2, none⟩ (.bool true)) = q := ⟨_, rfl⟩
      rw [hWD] at hUD hBD hRD hMD hAD
      have HWD := hidden hWD
      have x0 := HU.cell 0
      have x1 := HU.cell 1
      have x2 := HU.cell 2
      have x3 := HU.cell 3
      have x4 := HU.cell 4
      have g0 := HU.free 0
      have g1 := HU.free 1
      have g2 := HU.free 2
      have g3 := HU.free 3
      have g4 := HU.free 4
      clear hgD hWD HU HR HB HM HA
      go_upto_region 6 with fail
      rw [HWD.out]
      clear HWD x0 x1 x2 x3 x4 g0 g1 g2 g3 g4 y0 y1 y2 a0 a1
      have HU := hUD
      have HB := hBD
      have HR := hRD
      have HM := hMD
      have HA := hAD
      clear hUD hBD hRD hMD hAD
      have y0 : D.cell? ⟨w.heap.size + 1, 0, none⟩ = some (.string xn) := HM.cell 0
      have y1 : D.cell? ⟨w.heap.size + 1, 1, none⟩ = some (.int .i64 xb) := HM.cell 1
      have y2 : D.cell? ⟨w.heap.size + 1, 2, none⟩ = some (.int .i64 xl) := HM.cell 2
      have a0 : D.cell? ⟨w.heap.size + 2, 0, none⟩ = some (.int .i64 i) := HA.cell 0
      have a1 : D.cell? ⟨w.heap.size + 2, 1, none⟩ = some (.int .i64 j) := HA.cell 1
      have hgE : D.grownBy (D.setCell ⟨w.heap.size, 3, none⟩ (.int .i64 (us + 1))) (some w.heap.size) := (only_put' 3 _)
      have hUE := (HU.put 3 (.int .i64 (us + 1)))
      have hBE := (HB.setCell (p := ⟨w.heap.size, 3, none⟩) (Nat.le_refl _) (.int .i64 (us + 1)))
      have hRE := HR.grown hgE (by intro e; injection e with e; omega)
      have hME := HM.grown hgE (by intro e; injection e with e; omega)
      have hAE := HA.grown hgE (by intro e; injection e with e; omega)
      obtain ⟨E, hWE⟩ : ∃ q, (D.setCell ⟨w.heap.size, 3, none⟩ (.int .i64 (us + 1))) = q := ⟨_, rfl⟩
      rw [hWE] at hUE hBE hRE hME hAE
      have HWE := hidden hWE
      have x0 := HU.cell 0
      have x1 := HU.cell 1
      have x2 := HU.cell 2
      have x3 := HU.cell 3
      have x4 := HU.cell 4
      have g0 := HU.free 0
      have g1 := HU.free 1
      have g2 := HU.free 2
      have g3 := HU.free 3
      have g4 := HU.free 4
      clear hgE hWE HU HR HB HM HA
      go_upto_region 9 with fail
      rw [HWE.out]
      clear HWE x0 x1 x2 x3 x4 g0 g1 g2 g3 g4 y0 y1 y2 a0 a1
      have HU := hUE
      have HB := hBE
      have HR := hRE
      have HM := hME
      have HA := hAE
      clear hUE hBE hRE hME hAE
      have hF : Has (((((E.setCell ⟨w.heap.size + 3, 0, none⟩ (.int .i64 i)).setCell ⟨w.heap.size + 3, 1, none⟩ (.int .i64 j)).setCell ⟨w.heap.size + 3, 2, none⟩ (.bool true)).setCell ⟨w.heap.size + 3, 3, none⟩ (.int .i64 (us + 1))).setCell ⟨w.heap.size + 3, 4, none⟩ (.bool uw)) (w.heap.size + 3) 62 #[.int .i64 i, .int .i64 j, .bool true, .int .i64 (us + 1), .bool uw] := (((((HR).put 0 _).put 1 _).put 2 _).put 3 _).put 4 _
      have hG : Below w.heap.size w (((((E.setCell ⟨w.heap.size + 3, 0, none⟩ (.int .i64 i)).setCell ⟨w.heap.size + 3, 1, none⟩ (.int .i64 j)).setCell ⟨w.heap.size + 3, 2, none⟩ (.bool true)).setCell ⟨w.heap.size + 3, 3, none⟩ (.int .i64 (us + 1))).setCell ⟨w.heap.size + 3, 4, none⟩ (.bool uw)) := ((((HB.setCell (p := ⟨w.heap.size + 3, 0, none⟩) (by show w.heap.size ≤ w.heap.size + 3; omega) _).setCell (p := ⟨w.heap.size + 3, 1, none⟩) (by show w.heap.size ≤ w.heap.size + 3; omega) _).setCell (p := ⟨w.heap.size + 3, 2, none⟩) (by show w.heap.size ≤ w.heap.size + 3; omega) _).setCell (p := ⟨w.heap.size + 3, 3, none⟩) (by show w.heap.size ≤ w.heap.size + 3; omega) _).setCell (p := ⟨w.heap.size + 3, 4, none⟩) (by show w.heap.size ≤ w.heap.size + 3; omega) _
      have c0 : E.cell? ⟨w.heap.size, 0, none⟩ = some (.int .i64 i) := HU.cell 0
      have c1 : E.cell? ⟨w.heap.size, 1, none⟩ = some (.int .i64 j) := HU.cell 1
      have c2 : E.cell? ⟨w.heap.size, 2, none⟩ = some (.bool true) := HU.cell 2
      have c3 : E.cell? ⟨w.heap.size, 3, none⟩ = some (.int .i64 (us + 1)) := HU.cell 3
      have c4 : E.cell? ⟨w.heap.size, 4, none⟩ = some (.bool uw) := HU.cell 4
      have r0 : E.cell? ⟨w.heap.size + 3, 0, none⟩ = some (.int .i64 0) := HR.cell 0
      have f0 : E.frozen? ⟨w.heap.size + 3, 0, none⟩ = false := HR.free 0
      have r1 : E.cell? ⟨w.heap.size + 3, 1, none⟩ = some (.int .i64 0) := HR.cell 1
      have f1 : E.frozen? ⟨w.heap.size + 3, 1, none⟩ = false := HR.free 1
      have r2 : E.cell? ⟨w.heap.size + 3, 2, none⟩ = some (.bool false) := HR.cell 2
      have f2 : E.frozen? ⟨w.heap.size + 3, 2, none⟩ = false := HR.free 2
      have r3 : E.cell? ⟨w.heap.size + 3, 3, none⟩ = some (.int .i64 0) := HR.cell 3
      have f3 : E.frozen? ⟨w.heap.size + 3, 3, none⟩ = false := HR.free 3
      have r4 : E.cell? ⟨w.heap.size + 3, 4, none⟩ = some (.bool false) := HR.cell 4
      have f4 : E.frozen? ⟨w.heap.size + 3, 4, none⟩ = false := HR.free 4
      have HF := hidden hF
      have HG := hidden hG
      clear hF hG HU HR HB HM HA
      go_wp21
      refine bodyPost_ret (results_cell_row rfl _ _ (w.heap.size + 3) 62 #[.int .i64 i, .int .i64 j, .bool true, .int .i64 (us + 1), .bool uw] (0, 0) _ rfl HF.out Try.underlying62 rfl (by kernel_rfl)) rfl ?_
      exact ⟨by rw [← HST.out], HG.out⟩
    have e3 : (us == 0) = false := by simp [hs0]
    have HST : Hid ((⟨ui, ua, ug, us + 1, uw⟩ : Use) = (⟨ui, ua, ug, us, uw⟩ : Use).step ⟨xn, xb, xl, xv⟩ i j) := by
      show _ = _
      simp [Use.step, hl, hb1, hs0]
    clear hs0 hb1 hl
    have hgD : W0.grownBy (W0.setCell ⟨w.heap.size, 3, none⟩ (.int .i64 (us + 1))) (some w.heap.size) := (only_put' 3 _)
    have hUD := (HU.put 3 (.int .i64 (us + 1)))
    have hBD := (HB.setCell (p := ⟨w.heap.size, 3, none⟩) (Nat.le_refl _) (.int .i64 (us + 1)))
    have hRD := HR.grown hgD (by intro e; injection e with e; omega)
    have hMD := HM.grown hgD (by intro e; injection e with e; omega)
    have hAD := HA.grown hgD (by intro e; injection e with e; omega)
    obtain ⟨D, hWD⟩ : ∃ q, (W0.setCell ⟨w.heap.size, 3, none⟩ (.int .i64 (us + 1))) = q := ⟨_, rfl⟩
    rw [hWD] at hUD hBD hRD hMD hAD
    have HWD := hidden hWD
    have x0 := HU.cell 0
    have x1 := HU.cell 1
    have x2 := HU.cell 2
    have x3 := HU.cell 3
    have x4 := HU.cell 4
    have g0 := HU.free 0
    have g1 := HU.free 1
    have g2 := HU.free 2
    have g3 := HU.free 3
    have g4 := HU.free 4
    clear hgD hWD HU HR HB HM HA
    go_upto_region 9 with fail
    rw [HWD.out]
    clear HWD x0 x1 x2 x3 x4 g0 g1 g2 g3 g4 y0 y1 y2 a0 a1
    have HU := hUD
    have HB := hBD
    have HR := hRD
    have HM := hMD
    have HA := hAD
    clear hUD hBD hRD hMD hAD
    have hF : Has (((((D.setCell ⟨w.heap.size + 3, 0, none⟩ (.int .i64 ui)).setCell ⟨w.heap.size + 3, 1, none⟩ (.int .i64 ua)).setCell ⟨w.heap.size + 3, 2, none⟩ (.bool ug)).setCell ⟨w.heap.size + 3, 3, none⟩ (.int .i64 (us + 1))).setCell ⟨w.heap.size + 3, 4, none⟩ (.bool uw)) (w.heap.size + 3) 62 #[.int .i64 ui, .int .i64 ua, .bool ug, .int .i64 (us + 1), .bool uw] := (((((HR).put 0 _).put 1 _).put 2 _).put 3 _).put 4 _
    have hG : Below w.heap.size w (((((D.setCell ⟨w.heap.size + 3, 0, none⟩ (.int .i64 ui)).setCell ⟨w.heap.size + 3, 1, none⟩ (.int .i64 ua)).setCell ⟨w.heap.size + 3, 2, none⟩ (.bool ug)).setCell ⟨w.heap.size + 3, 3, none⟩ (.int .i64 (us + 1))).setCell ⟨w.heap.size + 3, 4, none⟩ (.bool uw)) := ((((HB.setCell (p := ⟨w.heap.size + 3, 0, none⟩) (by show w.heap.size ≤ w.heap.size + 3; omega) _).setCell (p := ⟨w.heap.size + 3, 1, none⟩) (by show w.heap.size ≤ w.heap.size + 3; omega) _).setCell (p := ⟨w.heap.size + 3, 2, none⟩) (by show w.heap.size ≤ w.heap.size + 3; omega) _).setCell (p := ⟨w.heap.size + 3, 3, none⟩) (by show w.heap.size ≤ w.heap.size + 3; omega) _).setCell (p := ⟨w.heap.size + 3, 4, none⟩) (by show w.heap.size ≤ w.heap.size + 3; omega) _
    have c0 : D.cell? ⟨w.heap.size, 0, none⟩ = some (.int .i64 ui) := HU.cell 0
    have c1 : D.cell? ⟨w.heap.size, 1, none⟩ = some (.int .i64 ua) := HU.cell 1
    have c2 : D.cell? ⟨w.heap.size, 2, none⟩ = some (.bool ug) := HU.cell 2
    have c3 : D.cell? ⟨w.heap.size, 3, none⟩ = some (.int .i64 (us + 1)) := HU.cell 3
    have c4 : D.cell? ⟨w.heap.size, 4, none⟩ = some (.bool uw) := HU.cell 4
    have r0 : D.cell? ⟨w.heap.size + 3, 0, none⟩ = some (.int .i64 0) := HR.cell 0
    have f0 : D.frozen? ⟨w.heap.size + 3, 0, none⟩ = false := HR.free 0
    have r1 : D.cell? ⟨w.heap.size + 3, 1, none⟩ = some (.int .i64 0) := HR.cell 1
    have f1 : D.frozen? ⟨w.heap.size + 3, 1, none⟩ = false := HR.free 1
    have r2 : D.cell? ⟨w.heap.size + 3, 2, none⟩ = some (.bool false) := HR.cell 2
    have f2 : D.frozen? ⟨w.heap.size + 3, 2, none⟩ = false := HR.free 2
    have r3 : D.cell? ⟨w.heap.size + 3, 3, none⟩ = some (.int .i64 0) := HR.cell 3
    have f3 : D.frozen? ⟨w.heap.size + 3, 3, none⟩ = false := HR.free 3
    have r4 : D.cell? ⟨w.heap.size + 3, 4, none⟩ = some (.bool false) := HR.cell 4
    have f4 : D.frozen? ⟨w.heap.size + 3, 4, none⟩ = false := HR.free 4
    have HF := hidden hF
    have HG := hidden hG
    clear hF hG HU HR HB HM HA
    go_wp21
    refine bodyPost_ret (results_cell_row rfl _ _ (w.heap.size + 3) 62 #[.int .i64 ui, .int .i64 ua, .bool ug, .int .i64 (us + 1), .bool uw] (0, 0) _ rfl HF.out Try.underlying62 rfl (by kernel_rfl)) rfl ?_
    exact ⟨by rw [← HST.out], HG.out⟩
  have e2 : (xb == 1) = false := by simp [hb1]
  by_cases hb2 : xb = 2
  · have e4 : (xb == 2) = true := by simp [hb2]
    rcases ug with _ | _
    · have HST : Hid ((⟨i, j, true, us, uw⟩ : Use) = (⟨ui, ua, false, us, uw⟩ : Use).step ⟨xn, xb, xl, xv⟩ i j) := by
        show _ = _
        simp [Use.step, hl, hb2]
      clear hb2 hb1 hl
      have hgD : W0.grownBy (((W0.setCell ⟨w.heap.size, 0, none⟩ (.int .i64 i)).setCell ⟨w.heap.size, 1, none⟩ (.int .i64 j)).setCell ⟨w.heap.size, 2, none⟩ (.bool true)) (some w.heap.size) := (only_trans (only_trans (only_put' 0 _) (only_put' 1 _)) (only_put' 2 _))
      have hUD := (((HU.put 0 (.int .i64 i)).put 1 (.int .i64 j)).put 2 (.bool true))
      have hBD := (((HB.setCell (p := ⟨w.heap.size, 0, none⟩) (Nat.le_refl _) (.int .i64 i)).setCell (p := ⟨w.heap.size, 1, none⟩) (Nat.le_refl _) (.int .i64 j)).setCell (p := ⟨w.heap.size, 2, none⟩) (Nat.le_refl _) (.bool true))
      have hRD := HR.grown hgD (by intro e; injection e with e; omega)
      have hMD := HM.grown hgD (by intro e; injection e with e; omega)
      have hAD := HA.grown hgD (by intro e; injection e with e; omega)
      obtain ⟨D, hWD⟩ : ∃ q, (((W0.setCell ⟨w.heap.size, 0, none⟩ (.int .i64 i)).setCell ⟨w.heap.size, 1, none⟩ (.int .i64 j)).setCell ⟨w.heap.size, 2, none⟩ (.bool true)) = q := ⟨_, rfl⟩
      rw [hWD] at hUD hBD hRD hMD hAD
      have HWD := hidden hWD
      have x0 := HU.cell 0
      have x1 := HU.cell 1
      have x2 := HU.cell 2
      have x3 := HU.cell 3
      have x4 := HU.cell 4
      have g0 := HU.free 0
      have g1 := HU.free 1
      have g2 := HU.free 2
      have g3 := HU.free 3
      have g4 := HU.free 4
      clear hgD hWD HU HR HB HM HA
      go_upto_region 9 with fail
      rw [HWD.out]
      clear HWD x0 x1 x2 x3 x4 g0 g1 g2 g3 g4 y0 y1 y2 a0 a1
      have HU := hUD
      have HB := hBD
      have HR := hRD
      have HM := hMD
      have HA := hAD
      clear hUD hBD hRD hMD hAD
      have hF : Has (((((D.setCell ⟨w.heap.size + 3, 0, none⟩ (.int .i64 i)).setCell ⟨w.heap.size + 3, 1, none⟩ (.int .i64 j)).setCell ⟨w.heap.size + 3, 2, none⟩ (.bool true)).setCell ⟨w.heap.size + 3, 3, none⟩ (.int .i64 us)).setCell ⟨w.heap.size + 3, 4, none⟩ (.bool uw)) (w.heap.size + 3) 62 #[.int .i64 i, .int .i64 j, .bool true, .int .i64 us, .bool uw] := (((((HR).put 0 _).put 1 _).put 2 _).put 3 _).put 4 _
      have hG : Below w.heap.size w (((((D.setCell ⟨w.heap.size + 3, 0, none⟩ (.int .i64 i)).setCell ⟨w.heap.size + 3, 1, none⟩ (.int .i64 j)).setCell ⟨w.heap.size + 3, 2, none⟩ (.bool true)).setCell ⟨w.heap.size + 3, 3, none⟩ (.int .i64 us)).setCell ⟨w.heap.size + 3, 4, none⟩ (.bool uw)) := ((((HB.setCell (p := ⟨w.heap.size + 3, 0, none⟩) (by show w.heap.size ≤ w.heap.size + 3; omega) _).setCell (p := ⟨w.heap.size + 3, 1, none⟩) (by show w.heap.size ≤ w.heap.size + 3; omega) _).setCell (p := ⟨w.heap.size + 3, 2, none⟩) (by show w.heap.size ≤ w.heap.size + 3; omega) _).setCell (p := ⟨w.heap.size + 3, 3, none⟩) (by show w.heap.size ≤ w.heap.size + 3; omega) _).setCell (p := ⟨w.heap.size + 3, 4, none⟩) (by show w.heap.size ≤ w.heap.size + 3; omega) _
      have c0 : D.cell? ⟨w.heap.size, 0, none⟩ = some (.int .i64 i) := HU.cell 0
      have c1 : D.cell? ⟨w.heap.size, 1, none⟩ = some (.int .i64 j) := HU.cell 1
      have c2 : D.cell? ⟨w.heap.size, 2, none⟩ = some (.bool true) := HU.cell 2
      have c3 : D.cell? ⟨w.heap.size, 3, none⟩ = some (.int .i64 us) := HU.cell 3
      have c4 : D.cell? ⟨w.heap.size, 4, none⟩ = some (.bool uw) := HU.cell 4
      have r0 : D.cell? ⟨w.heap.size + 3, 0, none⟩ = some (.int .i64 0) := HR.cell 0
      have f0 : D.frozen? ⟨w.heap.size + 3, 0, none⟩ = false := HR.free 0
      have r1 : D.cell? ⟨w.heap.size + 3, 1, none⟩ = some (.int .i64 0) := HR.cell 1
      have f1 : D.frozen? ⟨w.heap.size + 3, 1, none⟩ = false := HR.free 1
      have r2 : D.cell? ⟨w.heap.size + 3, 2, none⟩ = some (.bool false) := HR.cell 2
      have f2 : D.frozen? ⟨w.heap.size + 3, 2, none⟩ = false := HR.free 2
      have r3 : D.cell? ⟨w.heap.size + 3, 3, none⟩ = some (.int .i64 0) := HR.cell 3
      have f3 : D.frozen? ⟨w.heap.size + 3, 3, none⟩ = false := HR.free 3
      have r4 : D.cell? ⟨w.heap.size + 3, 4, none⟩ = some (.bool false) := HR.cell 4
      have f4 : D.frozen? ⟨w.heap.size + 3, 4, none⟩ = false := HR.free 4
      have HF := hidden hF
      have HG := hidden hG
      clear hF hG HU HR HB HM HA
      go_wp21
      refine bodyPost_ret (results_cell_row rfl _ _ (w.heap.size + 3) 62 #[.int .i64 i, .int .i64 j, .bool true, .int .i64 us, .bool uw] (0, 0) _ rfl HF.out Try.underlying62 rfl (by kernel_rfl)) rfl ?_
      exact ⟨by rw [← HST.out], HG.out⟩
    · have HST : Hid ((⟨ui, ua, true, us, uw⟩ : Use) = (⟨ui, ua, true, us, uw⟩ : Use).step ⟨xn, xb, xl, xv⟩ i j) := by
        show _ = _
        simp [Use.step, hl, hb2]
      clear hb2 hb1 hl
      have hF : Has (((((W0.setCell ⟨w.heap.size + 3, 0, none⟩ (.int .i64 ui)).setCell ⟨w.heap.size + 3, 1, none⟩ (.int .i64 ua)).setCell ⟨w.heap.size + 3, 2, none⟩ (.bool true)).setCell ⟨w.heap.size + 3, 3, none⟩ (.int .i64 us)).setCell ⟨w.heap.size + 3, 4, none⟩ (.bool uw)) (w.heap.size + 3) 62 #[.int .i64 ui, .int .i64 ua, .bool true, .int .i64 us, .bool uw] := (((((HR).put 0 _).put 1 _).put 2 _).put 3 _).put 4 _
      have hG : Below w.heap.size w (((((W0.setCell ⟨w.heap.size + 3, 0, none⟩ (.int .i64 ui)).setCell ⟨w.heap.size + 3, 1, none⟩ (.int .i64 ua)).setCell ⟨w.heap.size + 3, 2, none⟩ (.bool true)).setCell ⟨w.heap.size + 3, 3, none⟩ (.int .i64 us)).setCell ⟨w.heap.size + 3, 4, none⟩ (.bool uw)) := ((((HB.setCell (p := ⟨w.heap.size + 3, 0, none⟩) (by show w.heap.size ≤ w.heap.size + 3; omega) _).setCell (p := ⟨w.heap.size + 3, 1, none⟩) (by show w.heap.size ≤ w.heap.size + 3; omega) _).setCell (p := ⟨w.heap.size + 3, 2, none⟩) (by show w.heap.size ≤ w.heap.size + 3; omega) _).setCell (p := ⟨w.heap.size + 3, 3, none⟩) (by show w.heap.size ≤ w.heap.size + 3; omega) _).setCell (p := ⟨w.heap.size + 3, 4, none⟩) (by show w.heap.size ≤ w.heap.size + 3; omega) _
      have c0 : W0.cell? ⟨w.heap.size, 0, none⟩ = some (.int .i64 ui) := HU.cell 0
      have c1 : W0.cell? ⟨w.heap.size, 1, none⟩ = some (.int .i64 ua) := HU.cell 1
      have c2 : W0.cell? ⟨w.heap.size, 2, none⟩ = some (.bool true) := HU.cell 2
      have c3 : W0.cell? ⟨w.heap.size, 3, none⟩ = some (.int .i64 us) := HU.cell 3
      have c4 : W0.cell? ⟨w.heap.size, 4, none⟩ = some (.bool uw) := HU.cell 4
      have r0 : W0.cell? ⟨w.heap.size + 3, 0, none⟩ = some (.int .i64 0) := HR.cell 0
      have f0 : W0.frozen? ⟨w.heap.size + 3, 0, none⟩ = false := HR.free 0
      have r1 : W0.cell? ⟨w.heap.size + 3, 1, none⟩ = some (.int .i64 0) := HR.cell 1
      have f1 : W0.frozen? ⟨w.heap.size + 3, 1, none⟩ = false := HR.free 1
      have r2 : W0.cell? ⟨w.heap.size + 3, 2, none⟩ = some (.bool false) := HR.cell 2
      have f2 : W0.frozen? ⟨w.heap.size + 3, 2, none⟩ = false := HR.free 2
      have r3 : W0.cell? ⟨w.heap.size + 3, 3, none⟩ = some (.int .i64 0) := HR.cell 3
      have f3 : W0.frozen? ⟨w.heap.size + 3, 3, none⟩ = false := HR.free 3
      have r4 : W0.cell? ⟨w.heap.size + 3, 4, none⟩ = some (.bool false) := HR.cell 4
      have f4 : W0.frozen? ⟨w.heap.size + 3, 4, none⟩ = false := HR.free 4
      have HF := hidden hF
      have HG := hidden hG
      clear hF hG HU HR HB HM HA
      go_wp21
      refine bodyPost_ret (results_cell_row rfl _ _ (w.heap.size + 3) 62 #[.int .i64 ui, .int .i64 ua, .bool true, .int .i64 us, .bool uw] (0, 0) _ rfl HF.out Try.underlying62 rfl (by kernel_rfl)) rfl ?_
      exact ⟨by rw [← HST.out], HG.out⟩
  have e4 : (xb == 2) = false := by simp [hb2]
  have HST : Hid ((⟨ui, ua, ug, us, uw⟩ : Use) = (⟨ui, ua, ug, us, uw⟩ : Use).step ⟨xn, xb, xl, xv⟩ i j) := by
    show _ = _
    simp [Use.step, hl, hb1, hb2]
  clear hb2 hb1 hl
  have hF : Has (((((W0.setCell ⟨w.heap.size + 3, 0, none⟩ (.int .i64 ui)).setCell ⟨w.heap.size + 3, 1, none⟩ (.int .i64 ua)).setCell ⟨w.heap.size + 3, 2, none⟩ (.bool ug)).setCell ⟨w.heap.size + 3, 3, none⟩ (.int .i64 us)).setCell ⟨w.heap.size + 3, 4, none⟩ (.bool uw)) (w.heap.size + 3) 62 #[.int .i64 ui, .int .i64 ua, .bool ug, .int .i64 us, .bool uw] := (((((HR).put 0 _).put 1 _).put 2 _).put 3 _).put 4 _
  have hG : Below w.heap.size w (((((W0.setCell ⟨w.heap.size + 3, 0, none⟩ (.int .i64 ui)).setCell ⟨w.heap.size + 3, 1, none⟩ (.int .i64 ua)).setCell ⟨w.heap.size + 3, 2, none⟩ (.bool ug)).setCell ⟨w.heap.size + 3, 3, none⟩ (.int .i64 us)).setCell ⟨w.heap.size + 3, 4, none⟩ (.bool uw)) := ((((HB.setCell (p := ⟨w.heap.size + 3, 0, none⟩) (by show w.heap.size ≤ w.heap.size + 3; omega) _).setCell (p := ⟨w.heap.size + 3, 1, none⟩) (by show w.heap.size ≤ w.heap.size + 3; omega) _).setCell (p := ⟨w.heap.size + 3, 2, none⟩) (by show w.heap.size ≤ w.heap.size + 3; omega) _).setCell (p := ⟨w.heap.size + 3, 3, none⟩) (by show w.heap.size ≤ w.heap.size + 3; omega) _).setCell (p := ⟨w.heap.size + 3, 4, none⟩) (by show w.heap.size ≤ w.heap.size + 3; omega) _
  have c0 : W0.cell? ⟨w.heap.size, 0, none⟩ = some (.int .i64 ui) := HU.cell 0
  have c1 : W0.cell? ⟨w.heap.size, 1, none⟩ = some (.int .i64 ua) := HU.cell 1
  have c2 : W0.cell? ⟨w.heap.size, 2, none⟩ = some (.bool ug) := HU.cell 2
  have c3 : W0.cell? ⟨w.heap.size, 3, none⟩ = some (.int .i64 us) := HU.cell 3
  have c4 : W0.cell? ⟨w.heap.size, 4, none⟩ = some (.bool uw) := HU.cell 4
  have r0 : W0.cell? ⟨w.heap.size + 3, 0, none⟩ = some (.int .i64 0) := HR.cell 0
  have f0 : W0.frozen? ⟨w.heap.size + 3, 0, none⟩ = false := HR.free 0
  have r1 : W0.cell? ⟨w.heap.size + 3, 1, none⟩ = some (.int .i64 0) := HR.cell 1
  have f1 : W0.frozen? ⟨w.heap.size + 3, 1, none⟩ = false := HR.free 1
  have r2 : W0.cell? ⟨w.heap.size + 3, 2, none⟩ = some (.bool false) := HR.cell 2
  have f2 : W0.frozen? ⟨w.heap.size + 3, 2, none⟩ = false := HR.free 2
  have r3 : W0.cell? ⟨w.heap.size + 3, 3, none⟩ = some (.int .i64 0) := HR.cell 3
  have f3 : W0.frozen? ⟨w.heap.size + 3, 3, none⟩ = false := HR.free 3
  have r4 : W0.cell? ⟨w.heap.size + 3, 4, none⟩ = some (.bool false) := HR.cell 4
  have f4 : W0.frozen? ⟨w.heap.size + 3, 4, none⟩ = false := HR.free 4
  have HF := hidden hF
  have HG := hidden hG
  clear hF hG HU HR HB HM HA
  go_wp21
  refine bodyPost_ret (results_cell_row rfl _ _ (w.heap.size + 3) 62 #[.int .i64 ui, .int .i64 ua, .bool ug, .int .i64 us, .bool uw] (0, 0) _ rfl HF.out Try.underlying62 rfl (by kernel_rfl)) rfl ?_
  exact ⟨by rw [← HST.out], HG.out⟩

end Go.Proofs.Ytjakkiidedmifaa

/-
  The walk of FnExactPutHeader, over what is wanted of the program.
-/
import Derived.Test.YtplkhpkbfhpjeaaLawH1
import Derived.Test.YtplkhpkbfhpjeaaMarks
namespace Go.Proofs.Ytplkhpkbfhpjeaa
open Go.RowKit

set_option maxHeartbeats 2000000 in
theorem law_ExactPutHeader (hW : WantPutHeader) (w : World) (h : Hd) (hf : h.fits) :
    Calls Try.prog 6 #[h.agg] w fun e w' => e = .returned (.bool true) ∧ Below w.heap.size w w' := by
  have HT := hidden (fun W => toHeader_any W h)
  have HS := hidden (fun W => putHeader'_any W h)
  have HI := hidden (fun W => hW W h hf)
  have hl10 := putHd_short h
  have HWF := hidden (putHd_wf h)
  obtain ⟨l, hl⟩ : ∃ l, putHd h = l := ⟨_, rfl⟩
  rw [hl] at HS HI hl10 HWF
  obtain ⟨k, hk⟩ : ∃ k, k = l.length := ⟨_, rfl⟩
  rw [← hk] at hl10 HS
  have HK := hidden hk
  obtain ⟨a, b, c, d⟩ := h
  unfold Hd.agg at *
  clear hl hW hf hk
  have hb0 : Below w.heap.size w (w.alloc (.cells #[.int .i64 a, .int .i64 b, .int .i64 c, .int .i64 d] 34)) := (Below.refl _ _).alloc (Nat.le_refl _) _
  have hx0 : Has (w.alloc (.cells #[.int .i64 a, .int .i64 b, .int .i64 c, .int .i64 d] 34)) w.heap.size 34 #[.int .i64 a, .int .i64 b, .int .i64 c, .int .i64 d] := Has.new _ _ _
  have hs0 : w.heap.size < (w.alloc (.cells #[.int .i64 a, .int .i64 b, .int .i64 c, .int .i64 d] 34)).heap.size := by simp
  go_enter Try.func6, Try.ntmps6
  go_wp2_with fail
  refine (HT.out _).mono ?_
  rintro e w1 ⟨rfl, hb1⟩
  have hB1 := hb0.trans (hb1.mono hb0.size)
  have hx1 := hx0.below hb1 hs0
  have hs1 : w.heap.size < w1.heap.size := Nat.lt_of_lt_of_le hs0 hb1.size
  clear hb1 hx0 hb0 hs0
  go_wp2_with fail
  refine (HS.out _).mono ?_
  clear HS
  rintro e w2 ⟨a2, c2, rfl, hc2, hm2, hi2, hb2⟩
  have hB2 := hB1.trans (hb2.mono hB1.size)
  have hx2 := hx1.below hb2 hs1
  have hs2 : w.heap.size < w2.heap.size := Nat.lt_of_lt_of_le hs1 hb2.size
  have q0 : w2.cell? ⟨w.heap.size, 0, none⟩ = some (.int .i64 a) := hx2.cell 0
  have q1 : w2.cell? ⟨w.heap.size, 1, none⟩ = some (.int .i64 b) := hx2.cell 1
  have q2 : w2.cell? ⟨w.heap.size, 2, none⟩ = some (.int .i64 c) := hx2.cell 2
  have q3 : w2.cell? ⟨w.heap.size, 3, none⟩ = some (.int .i64 d) := hx2.cell 3
  have HI2 := hidden (fun (W : World) (hW : Below w2.heap.size w2 W) => hi2.below hW)
  have HX2 := hidden hx2
  clear hb2 hx1 hB1 hs1 hx2 hi2 hc2 hm2
  go_wp2_with fail
  refine (HT.out _).mono ?_
  clear q0 q1 q2 q3
  rintro e w3 ⟨rfl, hb3⟩
  go_wp2_with fail
  refine (HI.out w3).mono ?_
  intro e w4 hr4
  obtain ⟨a4, c4, g, rfl, hc4, hm4, hi4, hg4, hrow4, hb4⟩ := hr4.parts HWF.out
  have hb24 : Below w2.heap.size w2 w4 := hb3.trans (hb4.mono hb3.size)
  have hB4 := hB2.trans (hb24.mono hB2.size)
  have s24 := hb24.size
  have s3 := hb3.size
  have hgl : Hid (0 < k → g < w4.heap.size) := fun hkp => by
    rw [HK.out] at hkp
    obtain ⟨_, cs, hcs, _⟩ := hrow4 hkp
    exact hcs.lt
  have HR4 := hidden hrow4
  have heq := eqByteS_yes w4 w4.heap.size w2.heap.size a4 a2 c4 c2 l hi4 (HI2.out w4 hb24) (by rw [← HK.out]; omega)
  rw [← HK.out] at heq
  have HEQ := hidden heq
  rw [← HK.out]
  clear heq hr4 hrow4 hi4 hb3 hb4 hc4 hm4
  go_wp2_with fail
  refine HEQ.out.mono ?_
  clear HEQ
  rintro e _ ⟨rfl, m1, rfl⟩
  have hmb := hidden (mark_wide (w4.drewN m1) g k c4 a4 1 (fun hkp => by
    have hkl := hkp
    rw [HK.out] at hkl
    obtain ⟨ha, cs, hcs, hsz⟩ := HR4.out hkl
    exact ⟨ha, cs, hcs.drewN m1, by rw [HK.out]; exact hsz⟩) (by omega) (by omega))
  go_wp2_with fail
  refine hmb.out.mono ?_
  clear hmb
  rintro e w8 ⟨rfl, hmk, hg8⟩
  have hg8' : w4.grownBy w8 (some g) := ⟨hg8.os, hg8.tape, hg8.output, hg8.size, hg8.block⟩
  have s8 := hg8'.size
  have hb28 : Below w2.heap.size w2 w8 := hb24.grown hg8' s24 (fun q hq => by injection hq with hq; omega)
  have hB8 := hB2.trans (hb28.mono hB2.size)
  have HX8 := hidden (HX2.out.below hb28 hs2)
  have hmark : Hid (0 < k → a4 = some ⟨g, 0, none⟩ ∧ g < w8.heap.size ∧ ∀ j, j < k → w8.cell? ⟨g, j, none⟩ = some (.int .u8 ((1 + (j : Nat)) % 256))) := fun hkp => by
    obtain ⟨cs, hcs, hj⟩ := hmk hkp
    exact ⟨(HR4.out (by rw [← HK.out]; exact hkp)).1, hcs.lt, fun j hjk => by rw [hcs.cell]; exact hj j hjk⟩
  have hhb := hidden (held_wide w8 g k c4 a4 1 (fun hkp => ⟨(hmark.out hkp).1, (hmark.out hkp).2.2⟩) (by omega) (by omega))
  have hk2 : ¬ ((1 : Int) + (k : Int) < 0) := by omega
  have hk3 : (((1 : Int) + (k : Int)) != ((1 : Int) + (k : Int))) = false := by simp
  have q0 : w8.cell? ⟨w.heap.size, 0, none⟩ = some (.int .i64 a) := HX8.out.cell 0
  have q1 : w8.cell? ⟨w.heap.size, 1, none⟩ = some (.int .i64 b) := HX8.out.cell 1
  have q2 : w8.cell? ⟨w.heap.size, 2, none⟩ = some (.int .i64 c) := HX8.out.cell 2
  have q3 : w8.cell? ⟨w.heap.size, 3, none⟩ = some (.int .i64 d) := HX8.out.cell 3
  clear hmk hg8 hg8' HR4 hgl hB4 hb24
  go_wp2_with fail
  refine hhb.out.mono ?_
  clear hhb
  rintro e _ ⟨rfl, rfl⟩
  go_wp2_with fail
  refine (HT.out _).mono ?_
  clear HT q0 q1 q2 q3
  rintro e w9 ⟨rfl, hb9⟩
  go_wp2_with fail
  refine (HI.out w9).mono ?_
  clear HI
  intro e w10 hr10
  obtain ⟨a10, c10, g10, rfl, _, _, hi10, _, _, hb10⟩ := hr10.parts HWF.out
  have hb8_10 : Below w8.heap.size w8 w10 := hb9.trans (hb10.mono hb9.size)
  have hb210 : Below w2.heap.size w2 w10 := hb28.trans (hb8_10.mono (by omega))
  have hB10 := hB2.trans (hb210.mono hB2.size)
  have heq := eqByteS_yes w10 w10.heap.size w2.heap.size a10 a2 c10 c2 l hi10 (HI2.out w10 hb210) (by rw [← HK.out]; omega)
  rw [← HK.out] at heq
  have HEQ := hidden heq
  rw [← HK.out]
  clear heq hr10 hi10 hb9 hb10
  go_wp2_with fail
  refine HEQ.out.mono ?_
  clear HEQ
  rintro e _ ⟨rfl, m4, rfl⟩
  have hhb := hidden (held_wide (w10.drewN m4) g k c4 a4 1 (fun hkp => ⟨(hmark.out hkp).1, fun j hj => (hb8_10.cell (p := ⟨g, j, none⟩) (hmark.out hkp).2.1).trans ((hmark.out hkp).2.2 j hj)⟩) (by omega) (by omega))
  have hfin := hidden (below_drewN hB10 m4)
  clear hb210 hB10 hb8_10
  go_wp2_with fail
  refine hhb.out.mono ?_
  clear hhb
  rintro e _ ⟨rfl, rfl⟩
  go_wp2_with fail
  go_ret
  exact ⟨rfl, hfin.out⟩

end Go.Proofs.Ytplkhpkbfhpjeaa

import Derived.Test.YtjcfjpoodahlfaaGreatDoorBentR
import Derived.Test.YtjcfjpoodahlfaaGreatDoorCurB
import Derived.Test.YtjcfjpoodahlfaaGreatDoorReadS
namespace Go.Proofs.YtjcfjpoodahlfaaGreatDoor
open Go.RowKit
set_option maxRecDepth 100000 in
set_option maxHeartbeats 4000000 in
theorem law_ReadObject (hR : WantReadObject) (hV : WantObjectValid) (hW : WantWriteObject) (w : World) (hE : Errs w) (a0 : Option Addr) (len cap : Nat) (h : Came w a0 len cap) :
    Calls Tryz.prog 4 #[.slice a0 len cap] w fun e w' => e = .returned (.bool true) ∧ Below w.heap.size w w' := by
  obtain ⟨l0, h, rfl, hcap, hmax⟩ := h
  by_cases hbig : 1048576 < l0.length
  · have hd : (1048576 : Int) < (l0.length : Int) := by omega
    go_enter Tryz.func4, Tryz.ntmps4
    go_wp2
    go_ret
    exact ⟨rfl, Below.refl _ _⟩
  have hd : ¬ (1048576 : Int) < (l0.length : Int) := by omega
  have HD := hidden (drawReadObject_any w a0 cap l0 h hcap hmax)
  clear h
  go_enter Tryz.func4, Tryz.ntmps4
  go_wp2_with fail
  refine HD.out.mono ?_
  clear HD
  rintro e w1 ⟨tb, tc, t, rfl, ht, htc, htm, hi1, hb1⟩
  have htm2 : tc ≤ 9223372036854775807 := by unfold maxLen at htm; omega
  have HRI := hidden (fun (W : World) (hB : Below w1.heap.size w1 W) => hR W w1.heap.size tb tc t (hE.below (hb1.trans (hB.mono hb1.size)) hE.lt) (hi1.below hB) hB.size (by omega) htc htm2)
  have HRS := hidden (fun (W : World) (hB : Below w1.heap.size w1 W) => readObject'_any W w1.heap.size tb tc t.length t rfl (hi1.below hB) hB.size (by omega) htc htm2)
  have HI1 := hidden hi1
  obtain ⟨n, hn⟩ : ∃ q, t.length = q := ⟨_, rfl⟩
  rw [hn] at HRI HRS ht htc ⊢
  have HN := hidden hn
  have hC1 : Below w1.heap.size w1 w1 := Below.refl _ _
  have HB1 := hidden hb1
  have HV := hidden hV
  have HW := hidden hW
  clear hi1 hn hR hV hW hb1 hE
  go_wp2_with fail
  refine (HRI.out w1 hC1).mono ?_
  clear HRI
  intro e w2 hr
  obtain ⟨ok1, ss1, ms1, a1, a2, c1, c2, he, hy1, hn1, hs1, hm1, hw1, hb2⟩ := hr.told
  subst he
  obtain ⟨k1, hk1⟩ : ∃ q, ss1.length = q := ⟨_, rfl⟩
  obtain ⟨j1, hj1⟩ : ∃ q, ms1.length = q := ⟨_, rfl⟩
  rw [hk1, hj1]
  have HX2 : Hid (Has (w2.alloc (.cells #[.slice a1 k1 c1, .slice a2 j1 c2] 26)) w2.heap.size 26 #[.slice a1 k1 c1, .slice a2 j1 c2]) := Has.new _ _ _
  have hC2 : Below w1.heap.size w1 (w2.alloc (.cells #[.slice a1 k1 c1, .slice a2 j1 c2] 26)) := hb2.alloc hb2.size _
  have HC2 := hidden hC2
  have HS1 := hidden hs1
  have HM1 := hidden hm1
  have HY1 := hidden hy1
  have HN1 := hidden hn1
  have HW1 := hidden hw1
  have HK1 := hidden hk1
  have HJ1 := hidden hj1
  clear hr hb2 hs1 hm1 hy1 hn1 hw1 hk1 hj1 hC1
  go_wp2_with fail
  refine (HRS.out _ hC2).mono ?_
  clear HRS hC2
  intro e w3 hr
  obtain ⟨ok2, ss2, ms2, e1, e2, g1, g2, he, hy2, hn2, hs2, hm2, hw2, hb3⟩ := hr.told
  subst he
  obtain rfl : ok1 = ok2 := by
    rcases ok1 with _ | _ <;> rcases ok2 with _ | _
    · rfl
    · have q1 := (HN1.out rfl).1; have q2 := hy2 rfl; rw [q1] at q2; cases q2
    · have q1 := HY1.out rfl; have q2 := (hn2 rfl).1; rw [q1] at q2; cases q2
    · rfl
  have hsame : ss1.map Sp.s = ss2.map Sp.s ∧ ms1 = ms2 := by
    rcases ok1 with _ | _
    · obtain ⟨_, r1, r2⟩ := HN1.out rfl
      obtain ⟨_, r3, r4⟩ := hn2 rfl
      rw [r1, r2, r3, r4]; exact ⟨rfl, rfl⟩
    · have q1 := HY1.out rfl
      have q2 := hy2 rfl
      rw [q1] at q2
      injection q2 with q2
      injection q2 with q2 q3
      exact ⟨q2, q3⟩
  obtain ⟨hsm, rfl⟩ := hsame
  have hk2 : ss2.length = k1 := by have := congrArg List.length hsm; rw [List.length_map, List.length_map] at this; rw [← this]; exact HK1.out
  rw [hk2, HJ1.out]
  have hfit : (∀ y ∈ ss1, y.s.fits) ∧ ∀ x ∈ ms1, x.fits := by
    rcases ok1 with _ | _
    · obtain ⟨_, r1, r2⟩ := HN1.out rfl
      rw [r1, r2]; exact ⟨by simp, by simp⟩
    · exact ok_fits (rd_some (HY1.out rfl)).1
  have hk8 : k1 ≤ 8 ∧ j1 ≤ 12 := by
    rcases ok1 with _ | _
    · obtain ⟨_, r1, r2⟩ := HN1.out rfl
      rw [← HK1.out, ← HJ1.out, r1, r2]; exact ⟨by simp, by simp⟩
    · have ht := objOk_told (rd_some (HY1.out rfl)).1
      rw [← HK1.out, ← HJ1.out]; exact ⟨ht.secs, ht.syms⟩
  have hC3 : Below w2.heap.size w2 w3 := ((Below.refl _ _).alloc (Nat.le_refl _) _).trans (hb3.mono (by simp))
  have HX3 := hidden ((HX2.out.below hb3 HX2.out.lt).alloc (.cells #[.slice e1 k1 g1, .slice e2 j1 g2] 26))
  have HZ3 : Hid (Has (w3.alloc (.cells #[.slice e1 k1 g1, .slice e2 j1 g2] 26)) w3.heap.size 26 #[.slice e1 k1 g1, .slice e2 j1 g2]) := Has.new _ _ _
  have hD3 : Below w3.heap.size w3 (w3.alloc (.cells #[.slice e1 k1 g1, .slice e2 j1 g2] 26)) := (Below.refl _ _).alloc (Nat.le_refl _) _
  have hE3 := HC2.out.trans ((hb3.trans (hD3.mono hb3.size)).mono HC2.out.size)
  obtain ⟨w4, hw4⟩ : ∃ q, w3.alloc (.cells #[.slice e1 k1 g1, .slice e2 j1 g2] 26) = q := ⟨_, rfl⟩
  rw [hw4] at HX3 HZ3 hD3 hE3
  have HSO := hidden (sameObject_yes w4 w4.heap.size a1 e1 a2 e2 c1 g1 c2 g2 k1 j1 ss1 ss2 ms1 hsm HK1.out.symm HJ1.out.symm ((HS1.out.below (hC3.trans (hD3.mono hC3.size))).more (Nat.le_trans hC3.size hD3.size)) ((hs2.below hD3).more hD3.size) ((HM1.out.below (hC3.trans (hD3.mono hC3.size))).more (Nat.le_trans hC3.size hD3.size)) ((hm2.below hD3).more hD3.size) (Nat.le_refl _) (by omega) (by omega) (fun y hy => (hfit.1 y hy).lens))
  have HF := hidden hfit
  have HE3 := hidden hE3
  have HD3 := hidden (hC3.trans (hD3.mono hC3.size))
  clear hr hb3 hy2 hn2 hs2 hm2 hw2 hsm hk2 hC3 hD3 hE3 hfit
  go_upto_region 6 with fail
  try rw [hw4]
  clear hw4
  have q0 : w4.cell? ⟨w2.heap.size, 0, none⟩ = some (.slice a1 k1 c1) := HX3.out.cell 0
  have q1 : w4.cell? ⟨w2.heap.size, 1, none⟩ = some (.slice a2 j1 c2) := HX3.out.cell 1
  have q2 : w4.cell? ⟨w3.heap.size, 0, none⟩ = some (.slice e1 k1 g1) := HZ3.out.cell 0
  have q3 : w4.cell? ⟨w3.heap.size, 1, none⟩ = some (.slice e2 j1 g2) := HZ3.out.cell 1
  have hrr : (ok1 != ok1) = false := by simp
  go_wp2_with fail
  refine HSO.out.mono ?_
  clear HSO q0 q1 q2 q3
  rintro e w5 ⟨rfl, hb5⟩
  have HX5 := hidden (HX3.out.below hb5 HX3.out.lt)
  have HC5 := hidden (HE3.out.trans (hb5.mono HE3.out.size))
  have HD5 := hidden (HD3.out.trans (hb5.mono HD3.out.size))
  have q0 : w5.cell? ⟨w2.heap.size, 0, none⟩ = some (.slice a1 k1 c1) := HX5.out.cell 0
  have q1 : w5.cell? ⟨w2.heap.size, 1, none⟩ = some (.slice a2 j1 c2) := HX5.out.cell 1
  have HFIN := hidden (HB1.out.trans (HC5.out.mono HB1.out.size))
  clear hb5 HX3 HZ3 HE3 HD3 HC2
  rcases ok1 with _ | _
  · obtain ⟨_, r1, r2⟩ := HN1.out rfl
    have hk0 : k1 = 0 := by rw [← HK1.out, r1]; rfl
    have hj0 : j1 = 0 := by rw [← HJ1.out, r2]; rfl
    subst hk0 hj0
    clear r1 r2
    go_wp2_with (go_at_call 11; refine (alive_any _).mono ?_; rintro e _ ⟨rfl, rfl⟩)
    go_ret
    exact ⟨rfl, HFIN.out⟩
  · obtain ⟨hokk, hwob⟩ := rd_some (HY1.out rfl)
    have HOV := hidden (HV.out w5 w5.heap.size a1 a2 c1 c2 ss1 ms1 ((HS1.out.below HD5.out).more HD5.out.size) ((HM1.out.below HD5.out).more HD5.out.size) (Nat.le_refl _) (by have := HK1.out; omega) (by have := HJ1.out; omega) HF.out.1 HF.out.2)
    rw [hokk, HK1.out, HJ1.out] at HOV
    have HWB : Hid (writeObj ss1 ms1 = t) := (writeObj_wobj ss1 ms1).trans hwob
    clear hokk hwob
    go_wp2_with fail
    refine HOV.out.mono ?_
    clear HOV q0 q1
    rintro e w6 ⟨rfl, hb6⟩
    have hD6 := HD5.out.trans (hb6.mono HD5.out.size)
    have HWO := hidden (HW.out w6 w6.heap.size a1 a2 c1 c2 ss1 ms1 ((HS1.out.below hD6).more hD6.size) ((HM1.out.below hD6).more hD6.size) (Nat.le_refl _) (by have := HK1.out; omega) (by have := HJ1.out; omega) HF.out.1 HF.out.2)
    rw [HK1.out, HJ1.out, HWB.out] at HWO
    have HX6 := HX5.out.below hb6 HX5.out.lt
    have q0 : w6.cell? ⟨w2.heap.size, 0, none⟩ = some (.slice a1 k1 c1) := HX6.cell 0
    have q1 : w6.cell? ⟨w2.heap.size, 1, none⟩ = some (.slice a2 j1 c2) := HX6.cell 1
    have HC6 := hidden (HC5.out.trans (hb6.mono HC5.out.size))
    clear hb6 hD6 HX6
    go_wp2_with fail
    refine HWO.out.mono ?_
    clear HWO q0 q1
    intro e w7 hr
    obtain ⟨a7, c7, g7, he, hc7, hm7, hi7, -, -, hb7⟩ := hr.parts HI1.out.1
    subst he
    have hC7 := HC6.out.trans (hb7.mono HC6.out.size)
    have HSB := hidden (sameBytes_yes w7 w7.heap.size w1.heap.size a7 tb c7 tc t hi7 (HI1.out.below hC7) (by have := HN.out; omega))
    rw [HN.out] at HSB
    try rw [HN.out]
    have HFIN7 := hidden (HB1.out.trans (hC7.mono HB1.out.size))
    clear hr hb7 hi7 hc7 hm7 hC7
    go_wp2_with fail
    refine HSB.out.mono ?_
    rintro e _ ⟨rfl, m, rfl⟩
    go_wp2_with fail
    go_ret
    exact ⟨rfl, below_drewN HFIN7.out _⟩

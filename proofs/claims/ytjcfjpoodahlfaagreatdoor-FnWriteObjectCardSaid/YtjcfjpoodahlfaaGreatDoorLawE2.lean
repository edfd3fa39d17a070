import Derived.Test.YtjcfjpoodahlfaaGreatDoorDrawE7
import Derived.Test.YtjcfjpoodahlfaaGreatDoorCurB
import Derived.Test.YtjcfjpoodahlfaaGreatDoorSamE
namespace Go.Proofs.YtjcfjpoodahlfaaGreatDoor
open Go.RowKit
set_option maxRecDepth 100000 in
set_option maxHeartbeats 4000000 in
theorem law_WriteObject (hR : WantReadObject) (hW : WantWriteObject) (hO : WantObjectLength) (w : World) (hE : Errs w) (a0 : Option Addr) (len cap : Nat) (h : Came w a0 len cap) :
    Calls Tryz.prog 3 #[.slice a0 len cap] w fun e w' => e = .returned (.bool true) ∧ Below w.heap.size w w' := by
  obtain ⟨l0, h, rfl, hcap, hmax⟩ := h
  by_cases hbig : 1048576 < l0.length
  · have hd : (1048576 : Int) < (l0.length : Int) := by omega
    go_enter Tryz.func3, Tryz.ntmps3
    go_wp2
    go_ret
    exact ⟨rfl, Below.refl _ _⟩
  have hd : ¬ (1048576 : Int) < (l0.length : Int) := by omega
  have HD := hidden (drawWriteObject_any w a0 cap l0 h hcap hmax)
  clear h
  go_enter Tryz.func3, Tryz.ntmps3
  go_wp2_with fail
  refine HD.out.mono ?_
  clear HD
  rintro e w1 ⟨ss, ms, a1, a2, c1, c2, rfl, h8, h20, hsm, hmm, hs1, hm1, -, hb1⟩
  have hsf : ∀ y ∈ ss, y.s.fits := fun y hy => (hsm y hy).fits'
  have hmf : ∀ x ∈ ms, x.fits := fun x hx => (hmm x hx).fits
  have HWI := hidden (fun (W : World) (hB : Below w1.heap.size w1 W) => hW W w1.heap.size a1 a2 c1 c2 ss ms (hs1.below hB) (hm1.below hB) hB.size (by omega) (by omega) hsf hmf)
  have HWS := hidden (fun (W : World) (hB : Below w1.heap.size w1 W) => writeObject'_row W w1.heap.size a1 a2 c1 c2 ss.length ms.length ss ms rfl rfl (hs1.below hB) (hm1.below hB) hB.size (by omega) (by omega) (fun y hy => (hsf y hy).lens) (fun x hx => (hmf x hx).name))
  have HOV := hidden (fun (W : World) (hB : Below w1.heap.size w1 W) => objectValid'_any W w1.heap.size a1 a2 c1 c2 ss.length ms.length ss ms rfl rfl (hs1.below hB) (hm1.below hB) hB.size (by omega) (by omega) (fun y hy => (hsf y hy).lens) (fun x hx => (hmf x hx).name))
  have HOL := hidden (fun (W : World) (hB : Below w1.heap.size w1 W) => hO W w1.heap.size a1 a2 c1 c2 ss ms (hs1.below hB) (hm1.below hB) hB.size (by omega) (by omega) hsf hmf)
  have HLW : Hid (∀ x ∈ writeObj ss ms, (Lit.int .u8 x).wf = true) := writeObj_u8 ss ms (fun y hy => (hsm y hy).wf)
  have hLs := writeObj_short ss ms
  have HRY : Hid (objOk (ss.map Sp.s) ms = true → rd (writeObj ss ms) = some (ss.map Sp.s, ms)) := fun e => by rw [writeObj_wobj]; exact rd_w e
  have HRM : Hid (objOk (ss.map Sp.s) ms = true → rd (writeObj ss ms ++ [0]) = none) := fun e => by rw [writeObj_wobj]; exact rd_more e 0 []
  have HL0 : Hid (objOk (ss.map Sp.s) ms = false → writeObj ss ms = []) := fun e => by unfold writeObj; rw [e]; rfl
  have hol := writeObj_length ss ms
  rw [← hol] at HOL
  obtain ⟨L, hL⟩ : ∃ q, writeObj ss ms = q := ⟨_, rfl⟩
  obtain ⟨ok, hok⟩ : ∃ q, objOk (ss.map Sp.s) ms = q := ⟨_, rfl⟩
  rw [hL] at HWI HWS HOL HLW hLs HRY HRM HL0
  rw [hok] at HOV HRY HRM HL0
  obtain ⟨ns, hns⟩ : ∃ q, ss.length = q := ⟨_, rfl⟩
  obtain ⟨nm, hnm⟩ : ∃ q, ms.length = q := ⟨_, rfl⟩
  rw [hns, hnm] at HWI HWS HOV HOL
  rw [hns, hnm]
  have HNS := hidden hns
  have HNM := hidden hnm
  have HS1 := hidden hs1
  have HM1 := hidden hm1
  have HSF := hidden hsf
  have HB1 := hidden hb1
  have HR := hidden hR
  have HE := hidden (fun (W : World) (hW : Below w.heap.size w W) => hE.below hW hE.lt)
  obtain ⟨Ln, hLn⟩ : ∃ q, L.length = q := ⟨_, rfl⟩
  rw [hLn] at HWS HOL hLs
  have HLN := hidden hLn
  have hx1 : Has (w1.alloc (.cells #[.slice a1 ns c1, .slice a2 nm c2] 26)) w1.heap.size 26 #[.slice a1 ns c1, .slice a2 nm c2] := Has.new _ _ _
  have hC1 : Below w1.heap.size w1 (w1.alloc (.cells #[.slice a1 ns c1, .slice a2 nm c2] 26)) := (Below.refl _ _).alloc (Nat.le_refl _) _
  have HX1 := hidden hx1
  have HC1 := hidden hC1
  clear hsm hmm hs1 hm1 hsf hmf hb1 hol hL hok hns hnm hLn hR hW hO hx1 hC1 hE
  go_wp2_with fail
  refine (HWI.out _ HC1.out).mono ?_
  clear HWI
  intro e w2 hr
  obtain ⟨b4, c4, g4, he, hc4, hm4, hi2, -, -, hb2⟩ := hr.parts HLW.out
  rw [HLN.out] at he hc4
  subst he
  have HX2 := hidden (HX1.out.below hb2 (by simp))
  have HC2 := hidden (HC1.out.trans (hb2.mono HC1.out.size))
  have HI2 := hidden (fun (W : World) (hB : Below w2.heap.size w2 W) => hi2.below hB)
  have q0 : w2.cell? ⟨w1.heap.size, 0, none⟩ = some (.slice a1 ns c1) := HX2.out.cell 0
  have q1 : w2.cell? ⟨w1.heap.size, 1, none⟩ = some (.slice a2 nm c2) := HX2.out.cell 1
  have hc4m : c4 ≤ 9223372036854775807 := by unfold maxLen at hm4; omega
  clear hr hi2 hb2 HX1 HC1 hm4
  go_wp2_with fail
  refine (HWS.out w2 HC2.out).mono ?_
  clear HWS q0 q1
  rintro e w3 ⟨v3, rfl, hrow, hb3⟩
  have hrow' : w3.ownsRow w2.heap.size 5 1 v3 L.length (L.map (Value.int .u8)) := by rw [HLN.out]; exact hrow
  obtain ⟨b5, c5, rfl, -, -, hi3⟩ := ints_of_own3 hrow' HLW.out
  have HX3 := hidden (HX2.out.below hb3 HX2.out.lt)
  have HD3 := hidden hb3
  have HSB := hidden (sameBytes_yes w3 w2.heap.size w3.heap.size b4 b5 c4 c5 L (HI2.out w3 hb3) hi3 (by have := HLN.out; omega))
  rw [HLN.out] at HSB
  try rw [HLN.out]
  clear hrow hrow' hi3 hb3 HX2
  go_wp2_with fail
  refine HSB.out.mono ?_
  clear HSB
  rintro e w4 ⟨rfl, m4, hw4⟩
  have hb4 : Below w3.heap.size w3 w4 := by rw [hw4]; exact below_drewN (Below.refl _ _) m4
  have HX4 := hidden (HX3.out.below hb4 HX3.out.lt)
  have HD4 := hidden (HD3.out.trans (hb4.mono HD3.out.size))
  have HC4 := hidden (HC2.out.trans (HD4.out.mono HC2.out.size))
  have q0 : w4.cell? ⟨w1.heap.size, 0, none⟩ = some (.slice a1 ns c1) := HX4.out.cell 0
  have q1 : w4.cell? ⟨w1.heap.size, 1, none⟩ = some (.slice a2 nm c2) := HX4.out.cell 1
  clear hw4 hb4 HX3 HD3
  go_wp2_with fail
  refine (HOV.out w4 HC4.out).mono ?_
  clear HOV q0 q1
  rintro e w5 ⟨rfl, hb5⟩
  have HX5 := hidden (HX4.out.below hb5 HX4.out.lt)
  have HD5 := hidden (HD4.out.trans (hb5.mono HD4.out.size))
  have HC5 := hidden (HC4.out.trans (hb5.mono HC4.out.size))
  clear hb5 HX4 HD4 HC4
  rcases ok with _ | _
  · have hl0 : Ln = 0 := by rw [← HLN.out, HL0.out rfl]; rfl
    subst hl0
    have HF5 := hidden (HB1.out.trans (HC5.out.mono HB1.out.size))
    go_wp2_with (go_at_call 11; refine (alive_any _).mono ?_; rintro e _ ⟨rfl, rfl⟩)
    go_ret
    exact ⟨rfl, HF5.out⟩
  have HRY1 := hidden (HRY.out rfl)
  have HRM1 := hidden (HRM.out rfl)
  have HRD := hidden (HR.out w5 w2.heap.size b4 c4 L (HE.out w5 (HB1.out.trans (HC5.out.mono HB1.out.size))) (HI2.out w5 HD5.out) HD5.out.size (by have := HLN.out; omega) (by have := HLN.out; omega) hc4m)
  rw [HLN.out] at HRD
  go_wp2_with fail
  refine HRD.out.mono ?_
  clear HRD
  intro e w6 hr
  obtain ⟨ok1, ss1, ms1, d1, d2, f1, f2, he, hy1, hn1, hs6, hm6, hw6, hb6⟩ := hr.told
  subst he
  obtain rfl : ok1 = true := by
    rcases ok1 with _ | _
    · have q2 := (hn1 rfl).1; rw [HRY1.out] at q2; cases q2
    · rfl
  have hsame : ss1.map Sp.s = ss.map Sp.s ∧ ms1 = ms := by
    have q2 := hy1 rfl
    rw [HRY1.out] at q2
    injection q2 with q2
    injection q2 with q2 q3
    exact ⟨q2.symm, q3.symm⟩
  obtain ⟨hse, rfl⟩ := hsame
  have hk1 : ss1.length = ns := by have := congrArg List.length hse; rw [List.length_map, List.length_map] at this; rw [this]; exact HNS.out
  rw [hk1, HNM.out]
  have hl1 : ∀ y ∈ ss1, y.s.lens := fun y hy => (fits_same hse HSF.out y hy).lens
  have HX6 := hidden ((HX5.out.below hb6 HX5.out.lt).alloc (.cells #[.slice d1 ns f1, .slice d2 nm f2] 26))
  have HZ6 : Hid (Has (w6.alloc (.cells #[.slice d1 ns f1, .slice d2 nm f2] 26)) w6.heap.size 26 #[.slice d1 ns f1, .slice d2 nm f2]) := Has.new _ _ _
  have hE6 : Below w6.heap.size w6 (w6.alloc (.cells #[.slice d1 ns f1, .slice d2 nm f2] 26)) := (Below.refl _ _).alloc (Nat.le_refl _) _
  have HE6 := hidden hE6
  have HD6 := hidden (HD5.out.trans ((hb6.trans (hE6.mono hb6.size)).mono HD5.out.size))
  have HC6 := hidden (HC5.out.trans ((hb6.trans (hE6.mono hb6.size)).mono HC5.out.size))
  have HS6 := hidden hs6
  have HM6 := hidden hm6
  have HK1 := hidden hk1
  have HL1 := hidden hl1
  have HSE := hidden hse
  clear hr hy1 hn1 hs6 hm6 hw6 hb6 hE6 HX5 HD5 HC5 hk1 hl1 hse
  go_upto_region 10 with fail
  obtain ⟨w7, hw7⟩ : ∃ q, w6.alloc (.cells #[.slice d1 ns f1, .slice d2 nm f2] 26) = q := ⟨_, rfl⟩
  rw [hw7] at HX6 HZ6 HE6 HD6 HC6
  try rw [hw7]
  clear hw7
  have HOW : Hid (RowI (w7.alloc (.cells #[] 5)) w7.heap.size (.slice (some ⟨w7.heap.size, 0, none⟩) 0 0) 0 []) := World.ownsRow_lit (base := w7.heap.size) (e := 5) (size := 1) w7 #[] 0 (Nat.le_refl _) (by unfold maxLen; omega) rfl
  have hA7 : Below w7.heap.size w7 (w7.alloc (.cells #[] 5)) := (Below.refl _ _).alloc (Nat.le_refl _) _
  have HI7 := hidden (HI2.out _ (HD6.out.trans (hA7.mono HD6.out.size)))
  have HA7 := hidden hA7
  have hst7 : w7.heap.size ≤ (w7.alloc (.cells #[] 5)).heap.size := hA7.size
  clear hA7
  go_wp2_with (at_builtin; refine wpList_append_ints _ rfl _ _ rfl w7.heap.size _ 0 [] rfl HOW.out b4 Ln c4 w2.heap.size L HLN.out.symm rfl HI7.out (by omega) hst7 ?_)
  intro v8 w8 hrow8 hg8
  have hb8 : Below w7.heap.size w7 w8 := HA7.out.grown hg8 hst7 (fun q hq => (World.ownsRow.lt HOW.out q hq).1)
  have HROW8 : Hid (RowI (w8.alloc (.cells #[.int .u8 0] 5)) w7.heap.size v8 Ln L) := by
    have := hrow8.alloc (.cells #[.int .u8 0] 5)
    show RowI _ _ _ _ _
    simpa using this
  have hA8 : Below w7.heap.size w7 (w8.alloc (.cells #[.int .u8 0] 5)) := hb8.alloc hb8.size _
  have HA8 := hidden hA8
  have HZ8 : Hid (Ints (w8.alloc (.cells #[.int .u8 0] 5)) .u8 (w8.alloc (.cells #[.int .u8 0] 5)).heap.size (some ⟨w8.heap.size, 0, none⟩) [0]) := Ints.ofHas (Has.new _ _ _) rfl (by simp; exact wf_u8.mpr ⟨by omega, by omega⟩) (by simp)
  have hst8 : w7.heap.size ≤ (w8.alloc (.cells #[.int .u8 0] 5)).heap.size := hA8.size
  obtain ⟨b8, c8, rfl⟩ := own_shape hrow8
  clear hrow8 hg8 hb8 hA8 HOW HI7
  try simp only [Nat.zero_add] at HROW8 ⊢
  go_wp2_with (at_builtin; refine wpList_append_ints _ rfl _ _ rfl w7.heap.size _ Ln L rfl HROW8.out (some ⟨w8.heap.size, 0, none⟩) 1 1 (w8.alloc (.cells #[.int .u8 0] 5)).heap.size [0] rfl rfl HZ8.out (by omega) hst8 ?_)
  intro v9 w9 hrow9 hg9
  have hb9 : Below w7.heap.size w7 w9 := HA8.out.grown hg9 hst8 (fun q hq => (World.ownsRow.lt HROW8.out q hq).1)
  have hlm : (L ++ [0]).length = Ln + 1 := by rw [List.length_append, HLN.out]; rfl
  have hrow9' : w9.ownsRow w7.heap.size 5 1 v9 (L ++ [0]).length ((L ++ [0]).map (Value.int .u8)) := by rw [hlm]; exact hrow9
  obtain ⟨b9, c9, rfl, hc9, hm9, hi9⟩ := ints_of_own3 hrow9' (fun x hx => by
    rcases List.mem_append.1 hx with h' | h'
    · exact HLW.out x h'
    · simp at h'; subst h'; exact wf_u8.mpr ⟨by omega, by omega⟩)
  have HRD := hidden (HR.out w9 w9.heap.size b9 c9 (L ++ [0]) (HE.out w9 (HB1.out.trans ((HC6.out.trans (hb9.mono HC6.out.size)).mono HB1.out.size))) hi9 (Nat.le_refl _) (by omega) hc9 (by unfold maxLen at hm9; omega))
  rw [hlm] at HRD
  try rw [hlm]
  have HB9 := hidden hb9
  clear hrow9 hg9 hrow9' hi9 hc9 hm9 hlm hb9 HROW8 HZ8 HA8 HA7
  go_wp2_with fail
  refine HRD.out.mono ?_
  clear HRD
  intro e w10 hr
  obtain ⟨ok2, ss2, ms2, x1, x2, y1, y2, he, hy2, hn2, -, -, -, hb10⟩ := hr.told
  subst he
  obtain rfl : ok2 = false := by
    rcases ok2 with _ | _
    · rfl
    · have q2 := hy2 rfl; rw [HRM1.out] at q2; cases q2
  have hB10 := HB9.out.trans (hb10.mono HB9.out.size)
  obtain ⟨k2, hk2⟩ : ∃ q, ss2.length = q := ⟨_, rfl⟩
  obtain ⟨j2, hj2⟩ : ∃ q, ms2.length = q := ⟨_, rfl⟩
  rw [hk2, hj2]
  have hE10 : Below w7.heap.size w7 (w10.alloc (.cells #[.slice x1 k2 y1, .slice x2 j2 y2] 26)) := hB10.alloc hB10.size _
  have HE10 := hidden hE10
  clear hr hy2 hn2 hb10 hB10 hk2 hj2 hE10
  go_upto_region 11 with fail
  obtain ⟨w11, hw11⟩ : ∃ q, w10.alloc (.cells #[.slice x1 k2 y1, .slice x2 j2 y2] 26) = q := ⟨_, rfl⟩
  rw [hw11] at HE10
  try rw [hw11]
  clear hw11
  have q0 : w11.cell? ⟨w1.heap.size, 0, none⟩ = some (.slice a1 ns c1) := (HX6.out.below HE10.out HX6.out.lt).cell 0
  have q1 : w11.cell? ⟨w1.heap.size, 1, none⟩ = some (.slice a2 nm c2) := (HX6.out.below HE10.out HX6.out.lt).cell 1
  have q2 : w11.cell? ⟨w6.heap.size, 0, none⟩ = some (.slice d1 ns f1) := (HZ6.out.below HE10.out HZ6.out.lt).cell 0
  have q3 : w11.cell? ⟨w6.heap.size, 1, none⟩ = some (.slice d2 nm f2) := (HZ6.out.below HE10.out HZ6.out.lt).cell 1
  have hC11 := HC6.out.trans (HE10.out.mono HC6.out.size)
  have hE11 := HE6.out.trans (HE10.out.mono HE6.out.size)
  have HSO := hidden (sameObject_yes w11 w11.heap.size d1 a1 d2 a2 f1 c1 f2 c2 ns nm ss1 ss ms1 HSE.out HK1.out.symm HNM.out.symm ((HS6.out.below hE11).more hE11.size) ((HS1.out.below hC11).more hC11.size) ((HM6.out.below hE11).more hE11.size) ((HM1.out.below hC11).more hC11.size) (Nat.le_refl _) (by have := HNS.out; omega) (by have := HNM.out; omega) HL1.out)
  have HC11 := hidden hC11
  have HX11 := hidden (HX6.out.below HE10.out HX6.out.lt)
  clear hC11 hE11
  go_wp2_with fail
  refine HSO.out.mono ?_
  clear HSO q0 q1 q2 q3
  rintro e w12 ⟨rfl, hb12⟩
  have q0 : w12.cell? ⟨w1.heap.size, 0, none⟩ = some (.slice a1 ns c1) := (HX11.out.below hb12 HX11.out.lt).cell 0
  have q1 : w12.cell? ⟨w1.heap.size, 1, none⟩ = some (.slice a2 nm c2) := (HX11.out.below hb12 HX11.out.lt).cell 1
  have HC12 := hidden (HC11.out.trans (hb12.mono HC11.out.size))
  clear hb12 HX11
  go_wp2_with fail
  refine (HOL.out w12 HC12.out).mono ?_
  clear HOL q0 q1
  rintro e w13 ⟨rfl, hb13⟩
  have HF13 := hidden (HB1.out.trans ((HC12.out.trans (hb13.mono HC12.out.size)).mono HB1.out.size))
  clear hb13
  have hee : ((Ln : Int) == (Ln : Int)) = true := beq_self_eq_true _
  go_wp2_with fail
  go_ret
  exact ⟨rfl, HF13.out⟩

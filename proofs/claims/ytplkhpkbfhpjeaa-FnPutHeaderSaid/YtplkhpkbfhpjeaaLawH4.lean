/-
  The walk of FnPutHeader, over what is wanted of the program.
-/
import Derived.Test.YtplkhpkbfhpjeaaLawH3
namespace Go.Proofs.Ytplkhpkbfhpjeaa
open Go.RowKit

theorem addr_row2 (b off j : Nat) : (⟨b, off, none⟩ : Addr).add j = ⟨b, off + j, none⟩ := by unfold Addr.add; split <;> simp_all
set_option maxRecDepth 100000 in
set_option maxHeartbeats 2000000 in
theorem law_PutHeader (hG : WantGetHeader) (hP : WantPutHeader) (w : World) (a0 : Option Addr) (len cap : Nat) (h : Came w a0 len cap) :
    Calls Try.prog 3 #[.slice a0 len cap] w fun e w' => e = .returned (.bool true) ∧ Below w.heap.size w w' := by
  obtain ⟨l0, h, rfl, hcap, hmax⟩ := h
  by_cases hbig : 1048576 < l0.length
  · have hd : (1048576 : Int) < (l0.length : Int) := by omega
    go_enter Try.func3, Try.ntmps3
    go_wp2
    go_ret
    exact ⟨rfl, Below.refl _ _⟩
  have hd : ¬ (1048576 : Int) < (l0.length : Int) := by omega
  obtain ⟨i0, hi, hz0, hz1, hz2⟩ := info_parts Try.info_u8
  have HD := hidden (drawPutHeader_any w a0 cap l0 h hcap hmax)
  clear h
  go_enter Try.func3, Try.ntmps3
  go_wp2_with fail
  refine HD.out.mono ?_
  clear HD
  rintro e w1 ⟨m, he, hm, hb1⟩
  have HPI := hidden (fun (W : World) => hP W m hm.fits)
  have HPS := hidden (fun (W : World) => putHeader'_any W m)
  have HHV := hidden (fun (W : World) => headerValid'_any W m)
  have HPW := hidden (putHd_wf m)
  have HBK : Hid (hdOk m = true → isHd (putHd m ++ [7, 8, 9]) = true ∧ getHd (putHd m ++ [7, 8, 9]) = m) := putHd_back
  have HL10 : Hid (hdOk m = true → (putHd m).length = 10) := fun e => by unfold putHd; rw [if_pos e]; rfl
  have HL0 : Hid (hdOk m = false → (putHd m).length = 0) := fun e => by unfold putHd; rw [e]; rfl
  obtain ⟨l, hl⟩ : ∃ q, putHd m = q := ⟨_, rfl⟩
  obtain ⟨ok, hok⟩ : ∃ q, hdOk m = q := ⟨_, rfl⟩
  rw [hl] at HPI HPS HPW
  rw [hl, hok] at HBK HL10 HL0
  rw [hok] at HHV
  obtain ⟨k, hk⟩ : ∃ q, l.length = q := ⟨_, rfl⟩
  rw [hk] at HPS HL10 HL0
  have HK := hidden hk
  have hk10 : k ≤ 10 := by rw [← hk, ← hl]; exact putHd_short m
  obtain ⟨a, b, c, d⟩ := m
  unfold Hd.agg at he HPI HPS HHV
  subst he
  have hx1 : Has (w1.alloc (.cells #[.int .i64 a, .int .i64 b, .int .i64 c, .int .i64 d] 24)) w1.heap.size 24 #[.int .i64 a, .int .i64 b, .int .i64 c, .int .i64 d] := Has.new _ _ _
  have hs1 : w1.heap.size < (w1.alloc (.cells #[.int .i64 a, .int .i64 b, .int .i64 c, .int .i64 d] 24)).heap.size := by simp
  have hB1 : Below w.heap.size w (w1.alloc (.cells #[.int .i64 a, .int .i64 b, .int .i64 c, .int .i64 d] 24)) := hb1.alloc hb1.size _
  clear hl hok hk hP hb1 hm
  go_wp2_with fail
  refine (HPI.out _).mono ?_
  clear HPI
  intro e w2 hr
  obtain ⟨a2, c2, g2, he, hc2, hm2, hi2, hg2, hrow2, hb2⟩ := hr.parts HPW.out
  rw [HK.out] at he
  obtain rfl := he
  have hB2 := hB1.trans (hb2.mono hB1.size)
  have hx2 := hx1.below hb2 hs1
  have HI2 := hidden (fun (W : World) (hW : Below w2.heap.size w2 W) => hi2.below hW)
  have q0 : w2.cell? ⟨w1.heap.size, 0, none⟩ = some (.int .i64 a) := hx2.cell 0
  have q1 : w2.cell? ⟨w1.heap.size, 1, none⟩ = some (.int .i64 b) := hx2.cell 1
  have q2 : w2.cell? ⟨w1.heap.size, 2, none⟩ = some (.int .i64 c) := hx2.cell 2
  have q3 : w2.cell? ⟨w1.heap.size, 3, none⟩ = some (.int .i64 d) := hx2.cell 3
  have HX2 := hidden hx2
  have hlt2 := hx2.lt
  have HR2 := hidden hrow2
  clear hr hx1 hs1 hB1 hb2 hx2 hi2 hrow2
  go_wp2_with fail
  refine (HPS.out w2).mono ?_
  clear HPS q0 q1 q2 q3
  rintro e w3 ⟨a3, c3, rfl, hc3, hm3, hi3, hb3⟩
  have hB3 := hB2.trans (hb3.mono hB2.size)
  have HE3 := hidden (sameBytes_n w3 w2.heap.size w3.heap.size a2 a3 c2 c3 k l HK.out.symm (HI2.out w3 hb3) hi3 (by omega))
  have HX3 := hidden (HX2.out.below hb3 hlt2)
  have HB23 := hidden hb3
  clear hi3 hb3 hB2 HX2
  go_wp2_with fail
  refine HE3.out.mono ?_
  clear HE3
  rintro e _ ⟨rfl, m1, rfl⟩
  have q0 : (w3.drewN m1).cell? ⟨w1.heap.size, 0, none⟩ = some (.int .i64 a) := (HX3.out.drewN m1).cell 0
  have q1 : (w3.drewN m1).cell? ⟨w1.heap.size, 1, none⟩ = some (.int .i64 b) := (HX3.out.drewN m1).cell 1
  have q2 : (w3.drewN m1).cell? ⟨w1.heap.size, 2, none⟩ = some (.int .i64 c) := (HX3.out.drewN m1).cell 2
  have q3 : (w3.drewN m1).cell? ⟨w1.heap.size, 3, none⟩ = some (.int .i64 d) := (HX3.out.drewN m1).cell 3
  go_wp2_with fail
  refine (HHV.out _).mono ?_
  clear HHV q0 q1 q2 q3
  rintro e w4 ⟨rfl, hb4⟩
  have hb34 : Below w3.heap.size w3 w4 := ⟨hb4.os, hb4.tape, hb4.output, hb4.size, hb4.block⟩
  have HB4 := hidden (hB3.trans (hb34.mono hB3.size))
  have HB24 := hidden (HB23.out.trans (hb34.mono HB23.out.size))
  have HX4 := hidden (HX3.out.below hb34 HX3.out.lt)
  clear hb4 hb34 hB3 HX3 HB23
  rcases ok with _ | _
  · have hk0 : k = 0 := HL0.out rfl
    subst hk0
    go_wp2_with (go_at_call 13; refine (alive_any _).mono ?_; rintro e _ ⟨rfl, rfl⟩)
    go_ret
    exact ⟨rfl, HB4.out⟩
  · have hk0 : k = 10 := HL10.out rfl
    subst hk0
    obtain ⟨hbk1, hbk2⟩ := HBK.out rfl
    obtain ⟨rfl, -⟩ := HR2.out (by rw [HK.out]; decide)
    have hlm : (l.map (Value.int .u8)).length = 10 := by rw [List.length_map, HK.out]
    have HLM := hidden hlm
    have HW13 : Hid (∀ x ∈ l ++ [7, 8, 9], (Lit.int .u8 x).wf = true) := fun x hx => by
      rcases List.mem_append.1 hx with hx | hx
      · exact HPW.out x hx
      · simp at hx; rcases hx with rfl | rfl | rfl <;> decide
    have HGI : Hid (∀ (W : World) (q : Option Addr) (cc : Nat), Ints W .u8 W.heap.size q (l ++ [7, 8, 9]) → 13 ≤ cc → Calls Try.prog 14 #[.slice q 13 cc] W fun e w' => e = .returned (.tuple #[.agg #[.int .i64 a, .int .i64 b, .int .i64 c, .int .i64 d], .bool true]) ∧ Below W.heap.size W w') := fun W q cc hi hcc => by
      have := hG W W.heap.size q cc (l ++ [7, 8, 9]) hi (Nat.le_refl _) (by rw [List.length_append, HK.out]; decide) (by rw [List.length_append, HK.out]; exact hcc)
      rw [hbk1, hbk2, List.length_append, HK.out] at this
      exact this
    have HO := hidden (World.ownsRow_lit (base := w4.heap.size) (e := 5) (size := 1) w4 #[] 0 (Nat.le_refl _) (by unfold maxLen; omega) rfl)
    have HCS : Hid (∀ j u, (l.map (Value.int .u8))[j]? = some u → (w4.alloc (.cells #[] 5)).cell? ((⟨g2, 0, none⟩ : Addr).add j) = some u) := fun j u hu => by
      rw [addr_row2]
      rw [List.getElem?_map] at hu
      rcases hj : l[j]? with _ | y
      · rw [hj] at hu; cases hu
      · rw [hj] at hu
        injection hu with hu
        obtain ⟨hjl, hjy⟩ := List.getElem?_eq_some_iff.1 hj
        obtain ⟨b', o', e, hb', hcc⟩ := (HI2.out w4 HB24.out).2 (by omega)
        injection e with e; injection e with e1 e2; subst e1; subst e2
        have := hcc j hjl
        rw [List.getD_eq_getElem?_getD, hj, Option.getD_some] at this
        rw [World.cell?_alloc_lt _ _ _ (by show g2 < w4.heap.size; have := HB24.out.size; omega), ← hu]
        exact this
    have hone := hidden (show ∀ u ∈ l.map (Value.int .u8), u.oneCell' = true from fun u hu => by obtain ⟨x, _, rfl⟩ := List.mem_map.1 hu; rfl)
    clear hbk1 hbk2 hlm HR2 HBK
    go_wp2_with (at_builtin; refine wpList_append_own _ rfl _ _ 22 rfl w4.heap.size 5 i0 (.int .u8 0) 1 1 Try.underlying22 hi hz0 hz1 hz2 rfl (by decide) _ 0 [] rfl HO.out ⟨g2, 0, none⟩ 10 c2 (l.map (Value.int .u8)) rfl HLM.out HCS.out hone.out (by decide) (by decide) (by simp) ?_)
    intro v5 w5 hown5 hg5 _
    have hB5 := hidden ((HB4.out.alloc HB4.out.size (.cells #[] 5)).grown hg5 (by have := HB4.out.size; simp; omega) (fun q hq => by have := (HO.out.lt q hq).1; have := HB4.out.size; omega))
    have hrow5 := hidden (hown5.alloc (.cells #[.int .u8 7, .int .u8 8, .int .u8 9] 5))
    have hs5 : w4.heap.size + 1 ≤ w5.heap.size := by have := hg5.size; simpa using this
    have hv5 : ∀ q, v5.ownBlock = some q → w4.heap.size ≤ q := fun q hq => (hown5.lt q hq).1
    have hxb : w1.heap.size < w4.heap.size := HX4.out.lt
    have HX5 := hidden (((HX4.out.alloc (.cells #[] 5)).grown hg5 (fun e => by have := (HO.out.lt _ e.symm).1; omega)).alloc (.cells #[.int .u8 7, .int .u8 8, .int .u8 9] 5))
    clear hown5 hg5 HO HCS hone HX4
    go_wp2_with (at_builtin; refine wpList_append_own _ rfl _ _ 22 rfl w4.heap.size 5 i0 (.int .u8 0) 1 1 Try.underlying22 hi hz0 hz1 hz2 rfl (by decide) _ _ _ rfl hrow5.out ⟨w5.heap.size, 0, none⟩ 3 3 [.int .u8 7, .int .u8 8, .int .u8 9] rfl rfl (fun t u ht => by
        rw [addr_row2]
        match t, ht with
        | 0, ht => simp at ht; subst ht; simp
        | 1, ht => simp at ht; subst ht; simp
        | 2, ht => simp at ht; subst ht; simp) (by intro u hu; simp at hu; rcases hu with rfl | rfl | rfl <;> rfl) (by decide) (by decide) (by simp; omega) ?_)
    intro v6 w6 hown6 hg6 _
    have hB6 := hB5.out.alloc hB5.out.size (.cells #[.int .u8 7, .int .u8 8, .int .u8 9] 5)
    have hB6' := hB6.grown hg6 hB6.size (fun q hq => by have := hv5 q hq; have := HB4.out.size; omega)
    have hx6 := HX5.out.grown hg6 (fun e => by have := hv5 _ e.symm; omega)
    have hown7 : w6.ownsRow w4.heap.size 5 1 v6 (l ++ [7, 8, 9]).length ((l ++ [7, 8, 9]).map (Value.int .u8)) := by
      rw [List.length_append, HK.out, List.map_append]
      simpa using hown6
    obtain ⟨a7, c7, hv7, hc7, hm7, hi7⟩ := ints_of_own3 hown7 HW13.out
    rw [List.length_append, HK.out] at hv7
    have hv7' : v6 = .slice a7 13 c7 := hv7
    subst hv7'
    rw [List.length_append, HK.out] at hc7
    have HI7 := hidden (HGI.out w6 a7 c7 hi7 hc7)
    have HX6 := hidden hx6
    have HB6 := hidden hB6'
    clear hown6 hg6 hown7 hv7 hi7 hrow5 hB5 hB6 hB6' hx6 HX5 hc7 hm7 hv5 HGI
    go_wp2_with fail
    refine HI7.out.mono ?_
    clear HI7
    rintro e w7 ⟨rfl, hb7⟩
    have hB7 := HB6.out.trans (hb7.mono HB6.out.size)
    have hB8 : Below w.heap.size w (w7.alloc (.cells #[.int .i64 a, .int .i64 b, .int .i64 c, .int .i64 d] 24)) := hB7.alloc hB7.size _
    have hx8 := (HX6.out.below hb7 HX6.out.lt).alloc (.cells #[.int .i64 a, .int .i64 b, .int .i64 c, .int .i64 d] 24)
    have q0 : (w7.alloc (.cells #[.int .i64 a, .int .i64 b, .int .i64 c, .int .i64 d] 24)).cell? ⟨w1.heap.size, 0, none⟩ = some (.int .i64 a) := hx8.cell 0
    have q1 : (w7.alloc (.cells #[.int .i64 a, .int .i64 b, .int .i64 c, .int .i64 d] 24)).cell? ⟨w1.heap.size, 1, none⟩ = some (.int .i64 b) := hx8.cell 1
    have q2 : (w7.alloc (.cells #[.int .i64 a, .int .i64 b, .int .i64 c, .int .i64 d] 24)).cell? ⟨w1.heap.size, 2, none⟩ = some (.int .i64 c) := hx8.cell 2
    have q3 : (w7.alloc (.cells #[.int .i64 a, .int .i64 b, .int .i64 c, .int .i64 d] 24)).cell? ⟨w1.heap.size, 3, none⟩ = some (.int .i64 d) := hx8.cell 3
    have HB8 := hidden hB8
    clear hb7 hB7 hB8 hx8 HX6 HB6
    go_wp2_with fail
    go_ret
    exact ⟨rfl, HB8.out⟩

end Go.Proofs.Ytplkhpkbfhpjeaa

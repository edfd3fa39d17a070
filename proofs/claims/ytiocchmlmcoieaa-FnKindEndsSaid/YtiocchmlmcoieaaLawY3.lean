/-
  The walk of FnKindEnds.
-/
import Derived.Test.YtiocchmlmcoieaaLayM
import Derived.Test.YtiocchmlmcoieaaLayW
import Derived.Test.YtiocchmlmcoieaaIntS
import Derived.Test.YtiocchmlmcoieaaDrawY1
namespace Go.Proofs.Ytiocchmlmcoieaa
open Go.RowKit

theorem Oj.few.shortK {y : Oj} (h : y.few) : y.short := ⟨⟨by have := h.n1; omega, fun z hz => by
  have := (h.secs z hz).name
  have := (h.secs z hz).bytes
  have := (h.secs z hz).count
  exact ⟨by omega, by omega, by omega⟩⟩, by have := h.n2; omega, fun m hm => by have := (h.syms m hm).name; omega⟩
/-- Where a kind begins and ends. -/
theorem kind_told {Ss : List (List Sx)} {base : Int} (h : Fine Ss base) {m : Nat} (hm : m < 3) : (layK Ss base m).e ≤ upTo (layK Ss base m).e 8 ∧ upTo (layK Ss base m).e 8 ≤ (layK Ss base (m + 1)).e ∧ upTo (layK Ss base m).e 8 % 8 = 0 ∧ 0 ≤ upTo (layK Ss base m).e 8 ∧ (layK Ss base (m + 1)).e ≤ 100000 := by
  have L := h.laid m (by omega)
  have L2 := h.laid (m + 1) (by omega)
  have R := h.ran hm L
  have h1 := h.b0
  have h2 := h.b1
  have h3 := L.e0
  have h4 := L.e1
  have h5 := L2.e1
  obtain ⟨u1, u2, u3⟩ := upTo_is (n := (layK Ss base m).e) (d := 8) (.inr (.inr (.inr rfl))) (by omega) (by omega)
  exact ⟨u1, R.low, u3, by omega, by omega⟩
set_option maxRecDepth 100000 in
set_option maxHeartbeats 16000000 in
theorem law_KindEnds (w : World) (a0 : Option Addr) (len cap : Nat) (h : Came w a0 len cap) :
    Calls Try.prog 5 #[.slice a0 len cap] w fun e w' => e = .returned (.bool true) ∧ Below w.heap.size w w' := by
  obtain ⟨l0, h, rfl, hcap, hmax⟩ := h
  by_cases hbig : 1048576 < l0.length
  · have hd : (1048576 : Int) < (l0.length : Int) := by omega
    go_enter Try.func5, Try.ntmps5
    go_wp2
    go_ret
    exact ⟨rfl, Below.refl _ _⟩
  have hd : ¬ (1048576 : Int) < (l0.length : Int) := by omega
  have HD := hidden (drawKindEnds_any w a0 cap l0 h hcap hmax)
  clear h
  go_enter Try.func5, Try.ntmps5
  go_wp2_with fail
  refine HD.out.mono ?_
  clear HD
  rintro e w1 ⟨a, c, L, base, rfl, hL5, hfew, -, hO, hb1⟩
  obtain ⟨n, hn⟩ : ∃ q, L.length = q := ⟨_, rfl⟩
  obtain ⟨P, hP⟩ : ∃ x, (laidL L base).pl = x := ⟨_, rfl⟩
  obtain ⟨N, hN⟩ : ∃ x, P.length = x := ⟨_, rfl⟩
  obtain ⟨E, hE⟩ : ∃ x, (laidL L base).e = x := ⟨_, rfl⟩
  obtain ⟨ok, hok⟩ : ∃ x, layOk L base = x := ⟨_, rfl⟩
  obtain ⟨K, hK⟩ : ∃ x, endsL L base = x := ⟨_, rfl⟩
  obtain ⟨M, hM⟩ : ∃ x, K.length = x := ⟨_, rfl⟩
  have hX : laidL L base = ⟨P, E⟩ := by rw [← hP, ← hE]
  have hft : ∀ y ∈ L, y.fits := fun y hy => (hfew y hy).fits
  have HIM : Hid (Calls Try.prog 18 #[.slice a n c, .int .i64 base] w1 (RowsE w1 K M)) := by
    have := kindEnds_any w1 w1.heap.size a c n L base hn.symm hO (Nat.le_refl _) (by omega) hft M (by rw [hK]; exact hM)
    rwa [hK] at this
  have HSP : Hid (∀ W, Below w1.heap.size w1 W → Calls Try.prog 19 #[.slice a n c, .int .i64 base] W (RowsE W K M)) := fun W hB => by
    have := kindEnds'_any W w1.heap.size a c n L base hn.symm (hO.below hB) hB.size (by omega) (fun y hy => (hfew y hy).shortK) M (by rw [hK]; exact hM)
    rwa [hK] at this
  have HPS : Hid (∀ W, Below w1.heap.size w1 W → Calls Try.prog 13 #[.slice a n c, .int .i64 base] W (PlacesE W ⟨P, E⟩ N ok)) := fun W hB => by
    have := placeSections_any W w1.heap.size a c n L base hn.symm (hO.below hB) hB.size (by omega) hft N (by rw [hP]; exact hN)
    rwa [hX, hok] at this
  have HO := hidden hO
  have HB1 := hidden hb1
  have HNL := hidden hn
  have HPL := hidden hP
  have HEE := hidden hE
  have HNN := hidden hN
  have HOK := hidden hok
  have HKK := hidden hK
  have HMM := hidden hM
  have HFT := hidden hft
  have hn5 : n ≤ 5 := by omega
  have hMMe : ((M : Int) != (M : Int)) = false := by simp
  rw [hn]
  unfold RowsE at HIM HSP
  unfold PlacesE at HPS
  dsimp only at HPS
  clear hft hfew hO hb1 hn hL5 hP hN hE hok hX hd hbig hK hM
  go_wp2_with fail
  refine HIM.out.mono ?_
  clear HIM
  rintro e w2 ⟨xa, xc, rfl, xs, hxs, -, hRX, hb2⟩
  have HS2 := hidden (HSP.out w2 hb2)
  have HRX := hidden hRX
  have HXS := hidden hxs
  have HB2 := hidden hb2
  clear hxs hRX hb2 HSP
  go_wp2_with fail
  refine HS2.out.mono ?_
  clear HS2
  rintro e w3 ⟨ya, yc, rfl, ys, hys, -, hRY, hb3⟩
  have HB3 := hidden (HB2.out.trans (hb3.mono HB2.out.size))
  have HRX3 := hidden (HRX.out.only hb3)
  have HRY := hidden hRY
  have HYS := hidden hys
  have HF3 : Hid (Below w.heap.size w w3) := HB1.out.trans (HB3.out.mono HB1.out.size)
  clear hys hRY hb3 HB2 HRX
  rcases ok with _ | _
  · have hK0 : K = [] := by rw [← HKK.out]; unfold endsL; rw [HOK.out]; rfl
    have hM0 : M = 0 := by rw [← HMM.out, hK0]; rfl
    clear HXS HYS HRX3 HRY HB3 hK0 HPS
    subst hM0
    go_wp2_with (go_at_call 11; refine (alive_any _).mono ?_; rintro e _ ⟨rfl, rfl⟩)
    go_ret
    exact ⟨rfl, HF3.out⟩
  have hfine := fine_ok HOK.out
  obtain ⟨Ss, hSs⟩ : ∃ q, secsOf L = q := ⟨_, rfl⟩
  rw [hSs] at hfine
  have HFI := hidden hfine
  have hPl : P = (layK Ss base 3).pl := by rw [← HPL.out, laid_yes HOK.out, hSs]
  have hEl : E = (layK Ss base 3).e := by rw [← HEE.out, laid_yes HOK.out, hSs]
  have hKl : K = endsK Ss base := by rw [← HKK.out]; unfold endsL; rw [if_pos HOK.out, hSs]
  have hM3 : M = 3 := by rw [← HMM.out, hKl]; unfold endsK; simp
  subst hM3
  have HPP := hidden hPl
  have HEL := hidden hEl
  have HLAY := hidden (hfine.laid 3 (Nat.le_refl _))
  have hb0 := hfine.b0
  have hb1 := hfine.b1
  have HSN : Hid (Ss.length = n) := by show _ = _; rw [← hSs]; unfold secsOf; rw [List.length_map]; exact HNL.out
  have hNn : N = n := by
    have h1 := congrArg List.length (layK_lens Ss base 3)
    rw [List.length_map, List.length_map, HSN.out, ← hPl, HNN.out] at h1
    exact h1
  subst hNn
  -- the pairs
  have HROW : Hid (∀ m, m < 3 → ∃ (xq yq xg yg : Nat), xa = some ⟨xq, 0, none⟩ ∧ ya = some ⟨yq, 0, none⟩ ∧ ∀ W, Below w3.heap.size w3 W → (W.cell? ⟨xq, m, none⟩ = some (.slice (some ⟨xg, 0, none⟩) 2 2) ∧ W.cell? ⟨yq, m, none⟩ = some (.slice (some ⟨yg, 0, none⟩) 2 2)) ∧ (W.cell? ⟨xg, 0, none⟩ = some (.int .i64 (upTo (layK Ss base m).e 8)) ∧ W.cell? ⟨xg, 1, none⟩ = some (.int .i64 (layK Ss base (m + 1)).e)) ∧
      (Calls Try.prog 15 #[.slice (some ⟨xg, 0, none⟩) 2 2, .slice (some ⟨yg, 0, none⟩) 2 2] W fun e w' => e = .returned (.bool true) ∧ ∃ n, w' = W.drewN n)) := fun m hm => by
    obtain ⟨xr, hxr⟩ : ∃ x, xs[m]? = some x := ⟨_, List.getElem?_eq_getElem (by
      have h1 := congrArg List.length HXS.out
      rw [List.length_map, HMM.out] at h1
      omega)⟩
    obtain ⟨yr, hyr⟩ : ∃ x, ys[m]? = some x := ⟨_, List.getElem?_eq_getElem (by
      have h1 := congrArg List.length HYS.out
      rw [List.length_map, HMM.out] at h1
      omega)⟩
    have hKm : K[m]? = some [upTo (layK Ss base m).e 8, (layK Ss base (m + 1)).e] := by rw [hKl]; unfold endsK; rw [List.getElem?_map, List.getElem?_range hm]; rfl
    have hx1 : xr.r = [upTo (layK Ss base m).e 8, (layK Ss base (m + 1)).e] := by
      rw [← HXS.out, List.getElem?_map, hxr] at hKm
      simpa using hKm
    have hy1 : yr.r = [upTo (layK Ss base m).e 8, (layK Ss base (m + 1)).e] := by
      rw [← HYS.out, List.getElem?_map, hyr] at hKm
      simpa using hKm
    have hxy : yr.r = xr.r := by rw [hx1, hy1]
    have hl2 : xr.r.length = 2 := by rw [hx1]; rfl
    have hwf : ∀ z ∈ xr.r, (Lit.int .i64 z).wf = true := fun z hz => wf_small (small_ends L base xr.r (by rw [HKK.out, ← HXS.out]; exact List.mem_map_of_mem (List.mem_of_getElem? hxr)) z hz)
    obtain ⟨xq, hxa, _, _⟩ := HRX3.out.at_ hxr
    obtain ⟨yq, hya, _, _⟩ := HRY.out.at_ hyr
    refine ⟨xq, yq, xr.g, yr.g, hxa, hya, fun W hW => ?_⟩
    have k1 := HRX3.out.only hW
    have k2 := HRY.out.only hW
    obtain ⟨q1, hq1, _, e1⟩ := k1.at_ hxr
    obtain ⟨q2, hq2, _, e2⟩ := k2.at_ hyr
    rw [hxa] at hq1
    rw [hya] at hq2
    injection hq1 with hq1
    injection hq1 with hq1
    injection hq2 with hq2
    injection hq2 with hq2
    subst hq1
    subst hq2
    rw [hl2] at e1
    rw [hxy, hl2] at e2
    have hc := sameInts_yes W W.heap.size W.heap.size (some ⟨xr.g, 0, none⟩) (some ⟨yr.g, 0, none⟩) xr.r.length xr.r.length xr.r (k1.ints hxr hwf) (by have := k2.ints hyr (by rw [hxy]; exact hwf); rwa [hxy] at this) (by omega)
    rw [hl2] at hc
    exact ⟨⟨e1, e2⟩, ⟨(k1.num hxr (j := 0) (by rw [hx1]; rfl)).1, (k1.num hxr (j := 1) (by rw [hx1]; rfl)).1⟩, hc⟩
  have HLST : Hid (∀ k, k < N → ∃ (b off : Nat) (y : Oj), a = some ⟨b, off, none⟩ ∧ L[k]? = some y ∧ Ss[k]? = some (y.l.map Sp.s) ∧ ∀ W, Below w1.heap.size w1 W → W.cell? ⟨b, off + k * 2, none⟩ = some (.slice y.a1 y.l.length y.c1) ∧ Sects W w1.heap.size y.a1 y.l) := fun k hk => by
    have hkl : k < L.length := by rw [HNL.out]; exact hk
    obtain ⟨b, off, ha, hb, p0, _⟩ := HO.out.at_ hkl
    have hy : L[k]? = some L[k] := List.getElem?_eq_getElem hkl
    refine ⟨b, off, L[k], ha, hy, ?_, fun W hW => ⟨(hW.cell (by show b < _; exact hb)).trans p0, (HO.out.below hW).secs _ (List.mem_of_getElem? hy)⟩⟩
    rw [← hSs]
    unfold secsOf
    rw [List.getElem?_map, hy]
    rfl
  have HPS3 := hidden (fun W (hW : Below w3.heap.size w3 W) => HPS.out W (HB3.out.trans (hW.mono HB3.out.size)))
  have HA0 : Hid ((layK Ss base 0).e = base) := rfl
  clear hfine hPl hEl hKl hSs HXS HYS HRX3 HRY HPS HO
  go_wp2_with fail
  clear hMMe
  go_loopw [7, 8] (fun av i wr => ∃ (m : Nat) (A : Int), i = .int .i64 m ∧ av = .int .i64 A ∧ m ≤ 3 ∧ Hid ((layK Ss base m).e = A) ∧ Hid (Below w3.heap.size w3 wr)) (fun _ i _ => 3 - (intOf i).toNat)
  case atStart => exact ⟨0, base, rfl, rfl, by omega, HA0, Below.refl _ _⟩
  case round =>
    clear HA0
    obtain ⟨m, A, rfl, rfl, hm, hA, hb⟩ := hrel
    by_cases hlt : m < 3
    · have hmi : (m : Int) < 3 := by omega
      obtain ⟨xq, yq, xg, yg, hxa, hya, hW⟩ := HROW.out m hlt
      obtain ⟨t1, t2, t3, t4, t5⟩ := kind_told HFI.out hlt
      obtain ⟨F, hF⟩ : ∃ q, upTo (layK Ss base m).e 8 = q := ⟨_, rfl⟩
      obtain ⟨G, hG⟩ : ∃ q, (layK Ss base (m + 1)).e = q := ⟨_, rfl⟩
      rw [hF, hA.out] at t1
      rw [hF, hG] at t2
      rw [hF] at t3 t4
      rw [hF, hG] at hW
      have HC : Hid (∀ W, Below wr.heap.size wr W → (W.cell? ⟨xq, m, none⟩ = some (.slice (some ⟨xg, 0, none⟩) 2 2) ∧ W.cell? ⟨yq, m, none⟩ = some (.slice (some ⟨yg, 0, none⟩) 2 2)) ∧ (W.cell? ⟨xg, 0, none⟩ = some (.int .i64 F) ∧ W.cell? ⟨xg, 1, none⟩ = some (.int .i64 G)) ∧
        (Calls Try.prog 15 #[.slice (some ⟨xg, 0, none⟩) 2 2, .slice (some ⟨yg, 0, none⟩) 2 2] W fun e w' => e = .returned (.bool true) ∧ ∃ n, w' = W.drewN n)) := fun W hb2 => hW W (hb.out.trans (hb2.mono hb.out.size))
      have hrem : F.tmod 8 = 0 := by rw [Int.tmod_eq_emod_of_nonneg t4]; exact t3
      have h1 : ¬ F < A := by omega
      have h2 : ¬ G < F := by omega
      have HG := hidden hG
      have HLT := hidden hlt
      subst hxa
      subst hya
      clear hW hF hG t1 t2 t3 t4 t5 hlt hm hA
      go_upto_region 14 with fail
      refine wp_region_seq (by kernel_rfl) (fun W' => Below wr.heap.size wr W') (by kernel_rfl) (Below.refl _ _).drew ?_
      refine SeqV.step (.slice (some ⟨xq, 0, none⟩) 3 xc) (by rfl) (fun W hW => ?_) ?_
      · unfold Oper.wp
        simp [go_sem]
        try exact hW
      simp only [Act.put, List.setIfInBounds_toArray, List.set_cons_succ, List.set_cons_zero]
      refine SeqV.step (.int .i64 (m : Int)) (by rfl) (fun W hW => ?_) ?_
      · unfold Oper.wp
        simp [go_sem]
        try exact hW
      simp only [Act.put, List.setIfInBounds_toArray, List.set_cons_succ, List.set_cons_zero]
      refine SeqV.step (.pointer (some ⟨xq, m, none⟩)) (by rfl) (fun W hW => ?_) ?_
      · have q := hmi
        unfold Oper.wp
        simp [go_sem, q]
        try exact hW
      simp only [Act.put, List.setIfInBounds_toArray, List.set_cons_succ, List.set_cons_zero]
      refine SeqV.step (.slice (some ⟨xg, 0, none⟩) 2 2) (by rfl) (fun W hW => ?_) ?_
      · obtain ⟨⟨q, _⟩, _, _⟩ := HC.out W hW
        unfold Oper.wp
        simp [go_sem, q]
        try exact hW
      simp only [Act.put, List.setIfInBounds_toArray, List.set_cons_succ, List.set_cons_zero]
      refine SeqV.step (.slice (some ⟨yq, 0, none⟩) 3 yc) (by rfl) (fun W hW => ?_) ?_
      · unfold Oper.wp
        simp [go_sem]
        try exact hW
      simp only [Act.put, List.setIfInBounds_toArray, List.set_cons_succ, List.set_cons_zero]
      refine SeqV.step (.int .i64 (m : Int)) (by rfl) (fun W hW => ?_) ?_
      · unfold Oper.wp
        simp [go_sem]
        try exact hW
      simp only [Act.put, List.setIfInBounds_toArray, List.set_cons_succ, List.set_cons_zero]
      refine SeqV.step (.pointer (some ⟨yq, m, none⟩)) (by rfl) (fun W hW => ?_) ?_
      · have q := hmi
        unfold Oper.wp
        simp [go_sem, q]
        try exact hW
      simp only [Act.put, List.setIfInBounds_toArray, List.set_cons_succ, List.set_cons_zero]
      refine SeqV.step (.slice (some ⟨yg, 0, none⟩) 2 2) (by rfl) (fun W hW => ?_) ?_
      · obtain ⟨⟨_, q⟩, _, _⟩ := HC.out W hW
        unfold Oper.wp
        simp [go_sem, q]
        try exact hW
      simp only [Act.put, List.setIfInBounds_toArray, List.set_cons_succ, List.set_cons_zero]
      refine SeqV.step (.bool true) (by rfl) (fun W hW => ?_) ?_
      · obtain ⟨_, _, hc⟩ := HC.out W hW
        unfold Oper.wp
        simp [go_sem]
        refine hc.mono ?_
        rintro e w' ⟨rfl, n, rfl⟩
        exact ⟨rfl, below_drewN hW n⟩
      simp only [Act.put, List.setIfInBounds_toArray, List.set_cons_succ, List.set_cons_zero]
      refine SeqV.step (.bool false) (by rfl) (fun W hW => ?_) ?_
      · unfold Oper.wp
        simp [go_sem]
        try exact hW
      simp only [Act.put, List.setIfInBounds_toArray, List.set_cons_succ, List.set_cons_zero]
      refine SeqV.step (.bool false) (by rfl) (fun W hW => ?_) ?_
      · unfold Oper.wp
        simp [go_sem]
        try exact hW
      simp only [Act.put, List.setIfInBounds_toArray, List.set_cons_succ, List.set_cons_zero]
      refine SeqV.step (.slice (some ⟨xq, 0, none⟩) 3 xc) (by rfl) (fun W hW => ?_) ?_
      · unfold Oper.wp
        simp [go_sem]
        try exact hW
      simp only [Act.put, List.setIfInBounds_toArray, List.set_cons_succ, List.set_cons_zero]
      refine SeqV.step (.int .i64 (m : Int)) (by rfl) (fun W hW => ?_) ?_
      · unfold Oper.wp
        simp [go_sem]
        try exact hW
      simp only [Act.put, List.setIfInBounds_toArray, List.set_cons_succ, List.set_cons_zero]
      refine SeqV.step (.pointer (some ⟨xq, m, none⟩)) (by rfl) (fun W hW => ?_) ?_
      · have q := hmi
        unfold Oper.wp
        simp [go_sem, q]
        try exact hW
      simp only [Act.put, List.setIfInBounds_toArray, List.set_cons_succ, List.set_cons_zero]
      refine SeqV.step (.slice (some ⟨xg, 0, none⟩) 2 2) (by rfl) (fun W hW => ?_) ?_
      · obtain ⟨⟨q, _⟩, _, _⟩ := HC.out W hW
        unfold Oper.wp
        simp [go_sem, q]
        try exact hW
      simp only [Act.put, List.setIfInBounds_toArray, List.set_cons_succ, List.set_cons_zero]
      refine SeqV.step (.int .i64 2) (by rfl) (fun W hW => ?_) ?_
      · unfold Oper.wp
        simp [go_sem]
        try exact hW
      simp only [Act.put, List.setIfInBounds_toArray, List.set_cons_succ, List.set_cons_zero]
      refine SeqV.step (.bool false) (by rfl) (fun W hW => ?_) ?_
      · unfold Oper.wp
        simp [go_sem]
        try exact hW
      simp only [Act.put, List.setIfInBounds_toArray, List.set_cons_succ, List.set_cons_zero]
      refine SeqV.step (.bool false) (by rfl) (fun W hW => ?_) ?_
      · unfold Oper.wp
        simp [go_sem]
        try exact hW
      simp only [Act.put, List.setIfInBounds_toArray, List.set_cons_succ, List.set_cons_zero]
      refine SeqV.step (.bool false) (by rfl) (fun W hW => ?_) ?_
      · unfold Oper.wp
        simp [go_sem]
        try exact hW
      simp only [Act.put, List.setIfInBounds_toArray, List.set_cons_succ, List.set_cons_zero]
      refine SeqV.step (.slice (some ⟨xq, 0, none⟩) 3 xc) (by rfl) (fun W hW => ?_) ?_
      · unfold Oper.wp
        simp [go_sem]
        try exact hW
      simp only [Act.put, List.setIfInBounds_toArray, List.set_cons_succ, List.set_cons_zero]
      refine SeqV.step (.int .i64 (m : Int)) (by rfl) (fun W hW => ?_) ?_
      · unfold Oper.wp
        simp [go_sem]
        try exact hW
      simp only [Act.put, List.setIfInBounds_toArray, List.set_cons_succ, List.set_cons_zero]
      refine SeqV.step (.pointer (some ⟨xq, m, none⟩)) (by rfl) (fun W hW => ?_) ?_
      · have q := hmi
        unfold Oper.wp
        simp [go_sem, q]
        try exact hW
      simp only [Act.put, List.setIfInBounds_toArray, List.set_cons_succ, List.set_cons_zero]
      refine SeqV.step (.slice (some ⟨xg, 0, none⟩) 2 2) (by rfl) (fun W hW => ?_) ?_
      · obtain ⟨⟨q, _⟩, _, _⟩ := HC.out W hW
        unfold Oper.wp
        simp [go_sem, q]
        try exact hW
      simp only [Act.put, List.setIfInBounds_toArray, List.set_cons_succ, List.set_cons_zero]
      refine SeqV.step (.pointer (some ⟨xg, 0, none⟩)) (by rfl) (fun W hW => ?_) ?_
      · unfold Oper.wp
        simp [go_sem]
        try exact hW
      simp only [Act.put, List.setIfInBounds_toArray, List.set_cons_succ, List.set_cons_zero]
      refine SeqV.step (.int .i64 F) (by rfl) (fun W hW => ?_) ?_
      · obtain ⟨_, ⟨q, _⟩, _⟩ := HC.out W hW
        unfold Oper.wp
        simp [go_sem, q]
        try exact hW
      simp only [Act.put, List.setIfInBounds_toArray, List.set_cons_succ, List.set_cons_zero]
      refine SeqV.step (.int .i64 A) (by rfl) (fun W hW => ?_) ?_
      · unfold Oper.wp
        simp [go_sem]
        try exact hW
      simp only [Act.put, List.setIfInBounds_toArray, List.set_cons_succ, List.set_cons_zero]
      refine SeqV.step (.bool false) (by rfl) (fun W hW => ?_) ?_
      · have q := h1
        unfold Oper.wp
        simp [go_sem, q]
        try exact hW
      simp only [Act.put, List.setIfInBounds_toArray, List.set_cons_succ, List.set_cons_zero]
      refine SeqV.step (.bool false) (by rfl) (fun W hW => ?_) ?_
      · unfold Oper.wp
        simp [go_sem]
        try exact hW
      simp only [Act.put, List.setIfInBounds_toArray, List.set_cons_succ, List.set_cons_zero]
      refine SeqV.step (.bool false) (by rfl) (fun W hW => ?_) ?_
      · unfold Oper.wp
        simp [go_sem]
        try exact hW
      simp only [Act.put, List.setIfInBounds_toArray, List.set_cons_succ, List.set_cons_zero]
      refine SeqV.step (.slice (some ⟨xq, 0, none⟩) 3 xc) (by rfl) (fun W hW => ?_) ?_
      · unfold Oper.wp
        simp [go_sem]
        try exact hW
      simp only [Act.put, List.setIfInBounds_toArray, List.set_cons_succ, List.set_cons_zero]
      refine SeqV.step (.int .i64 (m : Int)) (by rfl) (fun W hW => ?_) ?_
      · unfold Oper.wp
        simp [go_sem]
        try exact hW
      simp only [Act.put, List.setIfInBounds_toArray, List.set_cons_succ, List.set_cons_zero]
      refine SeqV.step (.pointer (some ⟨xq, m, none⟩)) (by rfl) (fun W hW => ?_) ?_
      · have q := hmi
        unfold Oper.wp
        simp [go_sem, q]
        try exact hW
      simp only [Act.put, List.setIfInBounds_toArray, List.set_cons_succ, List.set_cons_zero]
      refine SeqV.step (.slice (some ⟨xg, 0, none⟩) 2 2) (by rfl) (fun W hW => ?_) ?_
      · obtain ⟨⟨q, _⟩, _, _⟩ := HC.out W hW
        unfold Oper.wp
        simp [go_sem, q]
        try exact hW
      simp only [Act.put, List.setIfInBounds_toArray, List.set_cons_succ, List.set_cons_zero]
      refine SeqV.step (.pointer (some ⟨xg, 1, none⟩)) (by rfl) (fun W hW => ?_) ?_
      · unfold Oper.wp
        simp [go_sem]
        try exact hW
      simp only [Act.put, List.setIfInBounds_toArray, List.set_cons_succ, List.set_cons_zero]
      refine SeqV.step (.int .i64 G) (by rfl) (fun W hW => ?_) ?_
      · obtain ⟨_, ⟨_, q⟩, _⟩ := HC.out W hW
        unfold Oper.wp
        simp [go_sem, q]
        try exact hW
      simp only [Act.put, List.setIfInBounds_toArray, List.set_cons_succ, List.set_cons_zero]
      refine SeqV.step (.slice (some ⟨xq, 0, none⟩) 3 xc) (by rfl) (fun W hW => ?_) ?_
      · unfold Oper.wp
        simp [go_sem]
        try exact hW
      simp only [Act.put, List.setIfInBounds_toArray, List.set_cons_succ, List.set_cons_zero]
      refine SeqV.step (.int .i64 (m : Int)) (by rfl) (fun W hW => ?_) ?_
      · unfold Oper.wp
        simp [go_sem]
        try exact hW
      simp only [Act.put, List.setIfInBounds_toArray, List.set_cons_succ, List.set_cons_zero]
      refine SeqV.step (.pointer (some ⟨xq, m, none⟩)) (by rfl) (fun W hW => ?_) ?_
      · have q := hmi
        unfold Oper.wp
        simp [go_sem, q]
        try exact hW
      simp only [Act.put, List.setIfInBounds_toArray, List.set_cons_succ, List.set_cons_zero]
      refine SeqV.step (.slice (some ⟨xg, 0, none⟩) 2 2) (by rfl) (fun W hW => ?_) ?_
      · obtain ⟨⟨q, _⟩, _, _⟩ := HC.out W hW
        unfold Oper.wp
        simp [go_sem, q]
        try exact hW
      simp only [Act.put, List.setIfInBounds_toArray, List.set_cons_succ, List.set_cons_zero]
      refine SeqV.step (.pointer (some ⟨xg, 0, none⟩)) (by rfl) (fun W hW => ?_) ?_
      · unfold Oper.wp
        simp [go_sem]
        try exact hW
      simp only [Act.put, List.setIfInBounds_toArray, List.set_cons_succ, List.set_cons_zero]
      refine SeqV.step (.int .i64 F) (by rfl) (fun W hW => ?_) ?_
      · obtain ⟨_, ⟨q, _⟩, _⟩ := HC.out W hW
        unfold Oper.wp
        simp [go_sem, q]
        try exact hW
      simp only [Act.put, List.setIfInBounds_toArray, List.set_cons_succ, List.set_cons_zero]
      refine SeqV.step (.bool false) (by rfl) (fun W hW => ?_) ?_
      · have q := h2
        unfold Oper.wp
        simp [go_sem, q]
        try exact hW
      simp only [Act.put, List.setIfInBounds_toArray, List.set_cons_succ, List.set_cons_zero]
      refine SeqV.step (.bool false) (by rfl) (fun W hW => ?_) ?_
      · unfold Oper.wp
        simp [go_sem]
        try exact hW
      simp only [Act.put, List.setIfInBounds_toArray, List.set_cons_succ, List.set_cons_zero]
      refine SeqV.step (.bool false) (by rfl) (fun W hW => ?_) ?_
      · unfold Oper.wp
        simp [go_sem]
        try exact hW
      simp only [Act.put, List.setIfInBounds_toArray, List.set_cons_succ, List.set_cons_zero]
      refine SeqV.step (.slice (some ⟨xq, 0, none⟩) 3 xc) (by rfl) (fun W hW => ?_) ?_
      · unfold Oper.wp
        simp [go_sem]
        try exact hW
      simp only [Act.put, List.setIfInBounds_toArray, List.set_cons_succ, List.set_cons_zero]
      refine SeqV.step (.int .i64 (m : Int)) (by rfl) (fun W hW => ?_) ?_
      · unfold Oper.wp
        simp [go_sem]
        try exact hW
      simp only [Act.put, List.setIfInBounds_toArray, List.set_cons_succ, List.set_cons_zero]
      refine SeqV.step (.pointer (some ⟨xq, m, none⟩)) (by rfl) (fun W hW => ?_) ?_
      · have q := hmi
        unfold Oper.wp
        simp [go_sem, q]
        try exact hW
      simp only [Act.put, List.setIfInBounds_toArray, List.set_cons_succ, List.set_cons_zero]
      refine SeqV.step (.slice (some ⟨xg, 0, none⟩) 2 2) (by rfl) (fun W hW => ?_) ?_
      · obtain ⟨⟨q, _⟩, _, _⟩ := HC.out W hW
        unfold Oper.wp
        simp [go_sem, q]
        try exact hW
      simp only [Act.put, List.setIfInBounds_toArray, List.set_cons_succ, List.set_cons_zero]
      refine SeqV.step (.pointer (some ⟨xg, 0, none⟩)) (by rfl) (fun W hW => ?_) ?_
      · unfold Oper.wp
        simp [go_sem]
        try exact hW
      simp only [Act.put, List.setIfInBounds_toArray, List.set_cons_succ, List.set_cons_zero]
      refine SeqV.step (.int .i64 F) (by rfl) (fun W hW => ?_) ?_
      · obtain ⟨_, ⟨q, _⟩, _⟩ := HC.out W hW
        unfold Oper.wp
        simp [go_sem, q]
        try exact hW
      simp only [Act.put, List.setIfInBounds_toArray, List.set_cons_succ, List.set_cons_zero]
      refine SeqV.step (.int .i64 0) (by rfl) (fun W hW => ?_) ?_
      · have q := hrem
        unfold Oper.wp
        simp [go_sem, q]
        try exact hW
      simp only [Act.put, List.setIfInBounds_toArray, List.set_cons_succ, List.set_cons_zero]
      refine SeqV.step (.bool false) (by rfl) (fun W hW => ?_) ?_
      · unfold Oper.wp
        simp [go_sem]
        try exact hW
      simp only [Act.put, List.setIfInBounds_toArray, List.set_cons_succ, List.set_cons_zero]
      refine SeqV.step (.bool false) (by rfl) (fun W hW => ?_) ?_
      · unfold Oper.wp
        simp [go_sem]
        try exact hW
      simp only [Act.put, List.setIfInBounds_toArray, List.set_cons_succ, List.set_cons_zero]
      intro W4 hW4
      obtain ⟨⟨c0, -⟩, ⟨-, c1⟩, -⟩ := HC.out W4 hW4
      have HB4 := hidden (hb.out.trans (hW4.mono hb.out.size))
      clear hW4 HC hb hrem h1 h2
      go_wp2_with fail
      go_roundw
      case rel => exact ⟨m + 1, G, by go_num, rfl, HLT.out, HG, HB4⟩
      case measure => have := HLT.out; simp [intOf]; omega
    · have hmi : ¬ (m : Int) < 3 := by omega
      have hm3 : m = 3 := by omega
      have hAE : A = E := by rw [HEL.out, ← hA.out, hm3]
      subst hAE
      have HPW := hidden (HPS3.out wr hb.out)
      have HBr := hidden hb.out
      clear hm hm3 hA hlt HPS3 hb
      go_wp2_with fail
      refine HPW.out.mono ?_
      clear HPW
      rintro e w5 ⟨pa, pc, rfl, ps, hps, -, hRP, hb5⟩
      have HB5 := hidden (HBr.out.trans (hb5.mono HBr.out.size))
      have HRP := hidden hRP
      have HPSS := hidden hps
      clear hps hRP hb5 HBr
      have HPR : Hid (∀ k, k < N → ∃ (pq : Nat) (pr : Rn), pa = some ⟨pq, 0, none⟩ ∧ ∀ (ss : List Sx), Ss[k]? = some ss → pr.r.length = ss.length ∧ ∀ W, Below w5.heap.size w5 W → W.cell? ⟨pq, k, none⟩ = some (.slice (some ⟨pr.g, 0, none⟩) ss.length ss.length) ∧ ∀ j, j < ss.length → W.cell? ⟨pr.g, j, none⟩ = some (.int .i64 (at2 P k j))) := fun k hk => by
        obtain ⟨pr, hpr⟩ : ∃ x, ps[k]? = some x := ⟨_, List.getElem?_eq_getElem (by
          have h1 := congrArg List.length HPSS.out
          rw [List.length_map, HNN.out] at h1
          omega)⟩
        obtain ⟨pq, hpa, _, _⟩ := HRP.out.at_ hpr
        refine ⟨pq, pr, hpa, fun ss hss => ?_⟩
        have hPk : P[k]? = some pr.r := by rw [← HPSS.out, List.getElem?_map, hpr]; rfl
        have hql : pr.r.length = ss.length := by
          have h1 := congrArg (fun l : List Nat => l[k]?) (layK_lens Ss base 3)
          simp only [List.getElem?_map] at h1
          rw [← HPP.out, hPk, hss] at h1
          simpa using h1
        refine ⟨hql, fun W hW => ?_⟩
        have k1 := HRP.out.only hW
        obtain ⟨q1, hq1, _, e1⟩ := k1.at_ hpr
        rw [hpa] at hq1
        injection hq1 with hq1
        injection hq1 with hq1
        subst hq1
        rw [hql] at e1
        refine ⟨e1, fun j hj => ?_⟩
        obtain ⟨v0, hv0⟩ : ∃ v, pr.r[j]? = some v := ⟨_, List.getElem?_eq_getElem (by omega)⟩
        rw [(k1.num hpr hv0).1]
        unfold at2
        rw [List.getD_eq_getElem?_getD, List.getD_eq_getElem?_getD, hPk]
        show _ = some (Value.int .i64 ((pr.r[j]?).getD 0))
        rw [hv0]
        rfl
      go_wp2_with fail
      go_loopw [12] (fun i wr => ∃ k : Nat, i = .int .i64 k ∧ k ≤ N ∧ Hid (Below w5.heap.size w5 wr)) (fun i _ => N - (intOf i).toNat)
      case atStart => exact ⟨0, rfl, Nat.zero_le _, Below.refl _ _⟩
      case round =>
        obtain ⟨k, rfl, hk, hb⟩ := hrel
        by_cases hlt : k < N
        · have hki : (k : Int) < (N : Int) := by omega
          obtain ⟨b, off, y, ha, hy, hss, hW1⟩ := HLST.out k hlt
          obtain ⟨pq, pr, hpa, hW2'⟩ := HPR.out k hlt
          obtain ⟨hprl, hW2⟩ := hW2' _ hss
          rw [List.length_map] at hprl hW2
          obtain ⟨ql, hql⟩ : ∃ q, y.l.length = q := ⟨_, rfl⟩
          rw [hql] at hprl hW2 hW1
          have hq8 : ql ≤ 8 := by have := HFI.out.each _ (List.mem_of_getElem? hss); rw [List.length_map] at this; omega
          have HWW : Hid (∀ W, Below w5.heap.size w5 W → ((W.cell? ⟨b, off + k * 2, none⟩ = some (.slice y.a1 ql y.c1) ∧ Sects W w1.heap.size y.a1 y.l) ∧ W.cell? ⟨pq, k, none⟩ = some (.slice (some ⟨pr.g, 0, none⟩) ql ql)) ∧ ∀ j, j < ql → W.cell? ⟨pr.g, j, none⟩ = some (.int .i64 (at2 P k j))) := fun W hW => by
            obtain ⟨h3, h4⟩ := hW2 W hW
            have h13 : Below w1.heap.size w1 W := (HB3.out.trans (HB5.out.mono HB3.out.size)).trans (hW.mono (Nat.le_trans HB3.out.size HB5.out.size))
            exact ⟨⟨hW1 W h13, h3⟩, h4⟩
          have HSS := hidden hss
          have HQL := hidden hql
          have HLT := hidden hlt
          have HYM := hidden (List.mem_of_getElem? hy)
          have HB0 := hb
          subst ha
          subst hpa
          clear hy hss hW1 hW2 hW2' hprl hql hlt hk hb
          go_wp2_with fail
          go_loopw [13] (fun i wr => ∃ j : Nat, i = .int .i64 j ∧ j ≤ ql ∧ Hid (Below w5.heap.size w5 wr)) (fun i _ => ql - (intOf i).toNat)
          case atStart => exact ⟨0, rfl, Nat.zero_le _, HB0⟩
          case round =>
            clear HB0
            obtain ⟨j, rfl, hj, hb⟩ := hrel
            obtain ⟨⟨⟨p0, hsec⟩, ex⟩, hnum⟩ := HWW.out wr hb.out
            by_cases hjl : j < ql
            · have hij : (j : Int) < (ql : Int) := by omega
              have hjy : j < y.l.length := by rw [HQL.out]; exact hjl
              obtain ⟨b2, off2, ha1, _, t0, t1, t2, t3, t4, t5⟩ := hsec.at_ hjy
              obtain ⟨z, hz⟩ : ∃ z, y.l[j] = z := ⟨_, rfl⟩
              rw [hz] at t0 t1 t2 t3 t4 t5
              have hsj : (y.l.map Sp.s)[j]? = some z.s := by rw [List.getElem?_map, List.getElem?_eq_getElem hjy, hz]; rfl
              have hzm : z ∈ y.l := by rw [← hz]; exact List.getElem_mem hjy
              have hzok := HFI.out.ok _ (List.mem_of_getElem? HSS.out) _ (List.mem_of_getElem? hsj)
              have hzf := (HFT.out y HYM.out).2.2.1 z hzm
              have HSZ : Hid (∀ W, Below w5.heap.size w5 W → Calls Try.prog 16 #[z.s.agg z.a1 z.c1 z.a2 z.c2] W fun e w' => e = .returned (.int .i64 z.s.long) ∧ Below W.heap.size W w') := fun W hW => by
                obtain ⟨⟨⟨_, hs⟩, _⟩, _⟩ := HWW.out W hW
                exact wantSectionSize W w1.heap.size z.s z.a1 z.c1 z.a2 z.c2 (hs.bytes z hzm) (hs.fixs z hzm) (Nat.le_trans HB3.out.size (Nat.le_trans HB5.out.size hW.size)) hzf
              have hmp : (⟨k, j, z.s⟩ : Pk) ∈ pksUp Ss Ss.length := mem_pksUp.2 ⟨by rw [HSN.out]; exact HLT.out, _, HSS.out, hsj⟩
              obtain ⟨kk, hkk⟩ : ∃ kk : Nat, z.s.kind = (kk : Int) + 1 := ⟨(z.s.kind - 1).toNat, by have := hzok.2.2.1; omega⟩
              have hkk3 : kk < 3 := by have := hzok.2.2.2; omega
              obtain ⟨i1, i2⟩ := HFI.out.between hmp (m := kk) hkk
              change _ ≤ at2 (layK Ss base 3).pl k j at i1
              change at2 (layK Ss base 3).pl k j + z.s.long ≤ _ at i2
              rw [← HPP.out] at i1 i2
              obtain ⟨xq, yq, xg, yg, hxa, hya, hW⟩ := HROW.out kk hkk3
              obtain ⟨u1, u2, u3, u4, u5⟩ := kind_told HFI.out hkk3
              obtain ⟨F, hF⟩ : ∃ q, upTo (layK Ss base kk).e 8 = q := ⟨_, rfl⟩
              obtain ⟨G, hG⟩ : ∃ q, (layK Ss base (kk + 1)).e = q := ⟨_, rfl⟩
              rw [hF] at i1 u4
              rw [hG] at i2 u5
              rw [hF, hG] at hW
              obtain ⟨lg, hlg⟩ : ∃ lg : Nat, z.s.long = (lg : Int) := ⟨z.s.long.toNat, by have := hzok.2.1.1; omega⟩
              obtain ⟨v, hv⟩ : ∃ v, at2 P k j = v := ⟨_, rfl⟩
              have HNUM : Hid (∀ W, Below w5.heap.size w5 W → ((W.cell? ⟨pq, k, none⟩ = some (.slice (some ⟨pr.g, 0, none⟩) ql ql)) ∧ W.cell? ⟨pr.g, j, none⟩ = some (.int .i64 v)) ∧ (W.cell? ⟨xq, kk, none⟩ = some (.slice (some ⟨xg, 0, none⟩) 2 2)) ∧ W.cell? ⟨xg, 0, none⟩ = some (.int .i64 F) ∧ W.cell? ⟨xg, 1, none⟩ = some (.int .i64 G)) := fun W hW' => by
                obtain ⟨⟨_, h1⟩, h2⟩ := HWW.out W hW'
                obtain ⟨⟨h3, _⟩, ⟨h4, h5⟩, _⟩ := hW W (HB5.out.trans (hW'.mono HB5.out.size))
                exact ⟨⟨h1, by rw [h2 j hjl, hv]⟩, h3, h4, h5⟩
              rw [hv] at i1 i2
              rw [hlg] at i2
              unfold Sx.agg at HSZ
              rw [hlg] at HSZ
              obtain ⟨⟨nm, kd, al, bs, sz, fs⟩, z1, d1, z2, d2⟩ := z
              dsimp only at t0 t1 t2 t3 t4 t5 HSZ hkk
              obtain ⟨nb, hnb⟩ : ∃ q, bs.length = q := ⟨_, rfl⟩
              obtain ⟨nf, hnf⟩ : ∃ q, fs.length = q := ⟨_, rfl⟩
              rw [hnb] at t3 HSZ
              rw [hnf] at t5 HSZ
              have HJL := hidden hjl
              rw [ha1] at p0
              have hk1 : ¬ kd < 1 := by omega
              have hk3 : ¬ (3 : Int) < kd := by omega
              have hkm : IntKind.i64.wrap (kd - 1) = (kk : Int) := by
                have h1 : kd - 1 = (kk : Int) := by omega
                rw [h1]
                exact IntWalk.i64_in _ (by omega)
              have hkk3i : (kk : Int) < 3 := by omega
              have hvF : ¬ v < F := by omega
              have hvG : ¬ G < v + (lg : Int) := by omega
              have hw1 : IntKind.i64.wrap (v + (lg : Int)) = v + (lg : Int) := IntWalk.i64_in _ (by omega)
              obtain ⟨W2, hW2⟩ : ∃ q, wr.alloc (.cells #[.string nm, .int .i64 kd, .int .i64 al, .slice z1 nb d1, .int .i64 sz, .slice z2 nf d2] 42) = q := ⟨_, rfl⟩
              obtain ⟨bx, hbx⟩ : ∃ q, wr.heap.size = q := ⟨_, rfl⟩
              have hBa := hb.out.alloc hb.out.size (.cells #[.string nm, .int .i64 kd, .int .i64 al, .slice z1 nb d1, .int .i64 sz, .slice z2 nf d2] 42)
              have hSa : Has (wr.alloc (.cells #[.string nm, .int .i64 kd, .int .i64 al, .slice z1 nb d1, .int .i64 sz, .slice z2 nf d2] 42)) wr.heap.size 42 #[.string nm, .int .i64 kd, .int .i64 al, .slice z1 nb d1, .int .i64 sz, .slice z2 nf d2] := Has.new _ _ _
              rw [hW2] at hBa
              rw [hW2, hbx] at hSa
              have hsz2 : w5.heap.size ≤ W2.heap.size := hBa.size
              have HC : Hid (∀ W, Below W2.heap.size W2 W → ((((W.cell? ⟨pq, k, none⟩ = some (.slice (some ⟨pr.g, 0, none⟩) ql ql)) ∧ W.cell? ⟨pr.g, j, none⟩ = some (.int .i64 v)) ∧ (W.cell? ⟨xq, kk, none⟩ = some (.slice (some ⟨xg, 0, none⟩) 2 2)) ∧ W.cell? ⟨xg, 0, none⟩ = some (.int .i64 F) ∧ W.cell? ⟨xg, 1, none⟩ = some (.int .i64 G)) ∧ Has W bx 42 #[.string nm, .int .i64 kd, .int .i64 al, .slice z1 nb d1, .int .i64 sz, .slice z2 nf d2]) ∧ Below w5.heap.size w5 W) := fun W hW' => ⟨⟨HNUM.out W (hBa.trans (hW'.mono hsz2)), hSa.below hW' hSa.lt⟩, hBa.trans (hW'.mono hsz2)⟩
              have HW2 := hidden hW2
              have HBX := hidden hbx
              clear hya
              subst hxa
              clear hjy hz hsj hzm hzok hzf hmp hlg hv hnb hnf hjl ha1 i1 i2 u1 u2 u3 u4 u5 hF hG hW hW2 hbx hBa hSa hsz2 hb hsec hnum hkk hkk3 HNUM
              go_upto_region 25 with fail
              rw [HW2.out, HBX.out]
              clear HW2 HBX t0 t1 t2 t3 t4 t5 p0 ex
              refine wp_region_seq (by kernel_rfl) (fun W' => Below W2.heap.size W2 W') (by kernel_rfl) (Below.refl _ _).drew ?_
              refine SeqV.step (.pointer (some ⟨bx, 1, none⟩)) (by rfl) (fun W hW => ?_) ?_
              · unfold Oper.wp
                simp [go_sem]
                try exact hW
              simp only [Act.put, List.setIfInBounds_toArray, List.set_cons_succ, List.set_cons_zero]
              refine SeqV.step (.int .i64 kd) (by rfl) (fun W hW => ?_) ?_
              · obtain ⟨⟨_, hs⟩, _⟩ := HC.out W hW
                have q := hs.cell 1
                unfold Oper.wp
                simp [go_sem, q]
                try exact hW
              simp only [Act.put, List.setIfInBounds_toArray, List.set_cons_succ, List.set_cons_zero]
              refine SeqV.step (.bool false) (by rfl) (fun W hW => ?_) ?_
              · have q := hk1
                unfold Oper.wp
                simp [go_sem, q]
                try exact hW
              simp only [Act.put, List.setIfInBounds_toArray, List.set_cons_succ, List.set_cons_zero]
              refine SeqV.step (.bool false) (by rfl) (fun W hW => ?_) ?_
              · unfold Oper.wp
                simp [go_sem]
                try exact hW
              simp only [Act.put, List.setIfInBounds_toArray, List.set_cons_succ, List.set_cons_zero]
              refine SeqV.step (.pointer (some ⟨bx, 1, none⟩)) (by rfl) (fun W hW => ?_) ?_
              · unfold Oper.wp
                simp [go_sem]
                try exact hW
              simp only [Act.put, List.setIfInBounds_toArray, List.set_cons_succ, List.set_cons_zero]
              refine SeqV.step (.int .i64 kd) (by rfl) (fun W hW => ?_) ?_
              · obtain ⟨⟨_, hs⟩, _⟩ := HC.out W hW
                have q := hs.cell 1
                unfold Oper.wp
                simp [go_sem, q]
                try exact hW
              simp only [Act.put, List.setIfInBounds_toArray, List.set_cons_succ, List.set_cons_zero]
              refine SeqV.step (.slice (some ⟨xq, 0, none⟩) 3 xc) (by rfl) (fun W hW => ?_) ?_
              · unfold Oper.wp
                simp [go_sem]
                try exact hW
              simp only [Act.put, List.setIfInBounds_toArray, List.set_cons_succ, List.set_cons_zero]
              refine SeqV.step (.int .i64 3) (by rfl) (fun W hW => ?_) ?_
              · unfold Oper.wp
                simp [go_sem]
                try exact hW
              simp only [Act.put, List.setIfInBounds_toArray, List.set_cons_succ, List.set_cons_zero]
              refine SeqV.step (.bool false) (by rfl) (fun W hW => ?_) ?_
              · have q := hk3
                unfold Oper.wp
                simp [go_sem, q]
                try exact hW
              simp only [Act.put, List.setIfInBounds_toArray, List.set_cons_succ, List.set_cons_zero]
              refine SeqV.step (.bool false) (by rfl) (fun W hW => ?_) ?_
              · unfold Oper.wp
                simp [go_sem]
                try exact hW
              simp only [Act.put, List.setIfInBounds_toArray, List.set_cons_succ, List.set_cons_zero]
              refine SeqV.step (.bool false) (by rfl) (fun W hW => ?_) ?_
              · unfold Oper.wp
                simp [go_sem]
                try exact hW
              simp only [Act.put, List.setIfInBounds_toArray, List.set_cons_succ, List.set_cons_zero]
              refine SeqV.step (.slice (some ⟨pq, 0, none⟩) N pc) (by rfl) (fun W hW => ?_) ?_
              · unfold Oper.wp
                simp [go_sem]
                try exact hW
              simp only [Act.put, List.setIfInBounds_toArray, List.set_cons_succ, List.set_cons_zero]
              refine SeqV.step (.int .i64 (k : Int)) (by rfl) (fun W hW => ?_) ?_
              · unfold Oper.wp
                simp [go_sem]
                try exact hW
              simp only [Act.put, List.setIfInBounds_toArray, List.set_cons_succ, List.set_cons_zero]
              refine SeqV.step (.pointer (some ⟨pq, k, none⟩)) (by rfl) (fun W hW => ?_) ?_
              · have q := hki
                unfold Oper.wp
                simp [go_sem, q]
                try exact hW
              simp only [Act.put, List.setIfInBounds_toArray, List.set_cons_succ, List.set_cons_zero]
              refine SeqV.step (.slice (some ⟨pr.g, 0, none⟩) ql ql) (by rfl) (fun W hW => ?_) ?_
              · obtain ⟨⟨⟨⟨q, _⟩, _⟩, _⟩, _⟩ := HC.out W hW
                unfold Oper.wp
                simp [go_sem, q]
                try exact hW
              simp only [Act.put, List.setIfInBounds_toArray, List.set_cons_succ, List.set_cons_zero]
              refine SeqV.step (.int .i64 (j : Int)) (by rfl) (fun W hW => ?_) ?_
              · unfold Oper.wp
                simp [go_sem]
                try exact hW
              simp only [Act.put, List.setIfInBounds_toArray, List.set_cons_succ, List.set_cons_zero]
              refine SeqV.step (.pointer (some ⟨pr.g, j, none⟩)) (by rfl) (fun W hW => ?_) ?_
              · have q := hij
                unfold Oper.wp
                simp [go_sem, q]
                try exact hW
              simp only [Act.put, List.setIfInBounds_toArray, List.set_cons_succ, List.set_cons_zero]
              refine SeqV.step (.int .i64 v) (by rfl) (fun W hW => ?_) ?_
              · obtain ⟨⟨⟨⟨_, q⟩, _⟩, _⟩, _⟩ := HC.out W hW
                unfold Oper.wp
                simp [go_sem, q]
                try exact hW
              simp only [Act.put, List.setIfInBounds_toArray, List.set_cons_succ, List.set_cons_zero]
              refine SeqV.step (.slice (some ⟨xq, 0, none⟩) 3 xc) (by rfl) (fun W hW => ?_) ?_
              · unfold Oper.wp
                simp [go_sem]
                try exact hW
              simp only [Act.put, List.setIfInBounds_toArray, List.set_cons_succ, List.set_cons_zero]
              refine SeqV.step (.pointer (some ⟨bx, 1, none⟩)) (by rfl) (fun W hW => ?_) ?_
              · unfold Oper.wp
                simp [go_sem]
                try exact hW
              simp only [Act.put, List.setIfInBounds_toArray, List.set_cons_succ, List.set_cons_zero]
              refine SeqV.step (.int .i64 kd) (by rfl) (fun W hW => ?_) ?_
              · obtain ⟨⟨_, hs⟩, _⟩ := HC.out W hW
                have q := hs.cell 1
                unfold Oper.wp
                simp [go_sem, q]
                try exact hW
              simp only [Act.put, List.setIfInBounds_toArray, List.set_cons_succ, List.set_cons_zero]
              refine SeqV.step (.int .i64 (kk : Int)) (by rfl) (fun W hW => ?_) ?_
              · have q := hkm
                unfold Oper.wp
                simp [go_sem, q]
                try exact hW
              simp only [Act.put, List.setIfInBounds_toArray, List.set_cons_succ, List.set_cons_zero]
              refine SeqV.step (.pointer (some ⟨xq, kk, none⟩)) (by rfl) (fun W hW => ?_) ?_
              · have q := hkk3i
                unfold Oper.wp
                simp [go_sem, q]
                try exact hW
              simp only [Act.put, List.setIfInBounds_toArray, List.set_cons_succ, List.set_cons_zero]
              refine SeqV.step (.slice (some ⟨xg, 0, none⟩) 2 2) (by rfl) (fun W hW => ?_) ?_
              · obtain ⟨⟨⟨_, q, _⟩, _⟩, _⟩ := HC.out W hW
                unfold Oper.wp
                simp [go_sem, q]
                try exact hW
              simp only [Act.put, List.setIfInBounds_toArray, List.set_cons_succ, List.set_cons_zero]
              refine SeqV.step (.pointer (some ⟨xg, 0, none⟩)) (by rfl) (fun W hW => ?_) ?_
              · unfold Oper.wp
                simp [go_sem]
                try exact hW
              simp only [Act.put, List.setIfInBounds_toArray, List.set_cons_succ, List.set_cons_zero]
              refine SeqV.step (.int .i64 F) (by rfl) (fun W hW => ?_) ?_
              · obtain ⟨⟨⟨_, _, q, _⟩, _⟩, _⟩ := HC.out W hW
                unfold Oper.wp
                simp [go_sem, q]
                try exact hW
              simp only [Act.put, List.setIfInBounds_toArray, List.set_cons_succ, List.set_cons_zero]
              refine SeqV.step (.bool false) (by rfl) (fun W hW => ?_) ?_
              · have q := hvF
                unfold Oper.wp
                simp [go_sem, q]
                try exact hW
              simp only [Act.put, List.setIfInBounds_toArray, List.set_cons_succ, List.set_cons_zero]
              refine SeqV.step (.bool false) (by rfl) (fun W hW => ?_) ?_
              · unfold Oper.wp
                simp [go_sem]
                try exact hW
              simp only [Act.put, List.setIfInBounds_toArray, List.set_cons_succ, List.set_cons_zero]
              refine SeqV.step (.bool false) (by rfl) (fun W hW => ?_) ?_
              · unfold Oper.wp
                simp [go_sem]
                try exact hW
              simp only [Act.put, List.setIfInBounds_toArray, List.set_cons_succ, List.set_cons_zero]
              refine SeqV.step (.slice (some ⟨pq, 0, none⟩) N pc) (by rfl) (fun W hW => ?_) ?_
              · unfold Oper.wp
                simp [go_sem]
                try exact hW
              simp only [Act.put, List.setIfInBounds_toArray, List.set_cons_succ, List.set_cons_zero]
              refine SeqV.step (.int .i64 (k : Int)) (by rfl) (fun W hW => ?_) ?_
              · unfold Oper.wp
                simp [go_sem]
                try exact hW
              simp only [Act.put, List.setIfInBounds_toArray, List.set_cons_succ, List.set_cons_zero]
              refine SeqV.step (.pointer (some ⟨pq, k, none⟩)) (by rfl) (fun W hW => ?_) ?_
              · have q := hki
                unfold Oper.wp
                simp [go_sem, q]
                try exact hW
              simp only [Act.put, List.setIfInBounds_toArray, List.set_cons_succ, List.set_cons_zero]
              refine SeqV.step (.slice (some ⟨pr.g, 0, none⟩) ql ql) (by rfl) (fun W hW => ?_) ?_
              · obtain ⟨⟨⟨⟨q, _⟩, _⟩, _⟩, _⟩ := HC.out W hW
                unfold Oper.wp
                simp [go_sem, q]
                try exact hW
              simp only [Act.put, List.setIfInBounds_toArray, List.set_cons_succ, List.set_cons_zero]
              refine SeqV.step (.int .i64 (j : Int)) (by rfl) (fun W hW => ?_) ?_
              · unfold Oper.wp
                simp [go_sem]
                try exact hW
              simp only [Act.put, List.setIfInBounds_toArray, List.set_cons_succ, List.set_cons_zero]
              refine SeqV.step (.pointer (some ⟨pr.g, j, none⟩)) (by rfl) (fun W hW => ?_) ?_
              · have q := hij
                unfold Oper.wp
                simp [go_sem, q]
                try exact hW
              simp only [Act.put, List.setIfInBounds_toArray, List.set_cons_succ, List.set_cons_zero]
              refine SeqV.step (.int .i64 v) (by rfl) (fun W hW => ?_) ?_
              · obtain ⟨⟨⟨⟨_, q⟩, _⟩, _⟩, _⟩ := HC.out W hW
                unfold Oper.wp
                simp [go_sem, q]
                try exact hW
              simp only [Act.put, List.setIfInBounds_toArray, List.set_cons_succ, List.set_cons_zero]
              refine SeqV.step (.agg #[.string nm, .int .i64 kd, .int .i64 al, .slice z1 nb d1, .int .i64 sz, .slice z2 nf d2]) (by rfl) (fun W hW => ?_) ?_
              · obtain ⟨⟨_, hs⟩, _⟩ := HC.out W hW
                have q0 := hs.cell 0
                have q1 := hs.cell 1
                have q2 := hs.cell 2
                have q3 := hs.cell 3
                have q4 := hs.cell 4
                have q5 := hs.cell 5
                unfold Oper.wp
                simp [go_sem, q0, q1, q2, q3, q4, q5]
                try exact hW
              simp only [Act.put, List.setIfInBounds_toArray, List.set_cons_succ, List.set_cons_zero]
              refine SeqV.step (.int .i64 (lg : Int)) (by rfl) (fun W hW => ?_) ?_
              · obtain ⟨_, hb⟩ := HC.out W hW
                unfold Oper.wp
                simp [go_sem]
                refine (HSZ.out W hb).mono ?_
                rintro e w' ⟨rfl, hb'⟩
                exact ⟨rfl, hW.trans (hb'.mono hW.size)⟩
              simp only [Act.put, List.setIfInBounds_toArray, List.set_cons_succ, List.set_cons_zero]
              refine SeqV.step (.int .i64 (v + (lg : Int))) (by rfl) (fun W hW => ?_) ?_
              · have q := hw1
                unfold Oper.wp
                simp [go_sem, q]
                try exact hW
              simp only [Act.put, List.setIfInBounds_toArray, List.set_cons_succ, List.set_cons_zero]
              refine SeqV.step (.slice (some ⟨xq, 0, none⟩) 3 xc) (by rfl) (fun W hW => ?_) ?_
              · unfold Oper.wp
                simp [go_sem]
                try exact hW
              simp only [Act.put, List.setIfInBounds_toArray, List.set_cons_succ, List.set_cons_zero]
              refine SeqV.step (.pointer (some ⟨bx, 1, none⟩)) (by rfl) (fun W hW => ?_) ?_
              · unfold Oper.wp
                simp [go_sem]
                try exact hW
              simp only [Act.put, List.setIfInBounds_toArray, List.set_cons_succ, List.set_cons_zero]
              refine SeqV.step (.int .i64 kd) (by rfl) (fun W hW => ?_) ?_
              · obtain ⟨⟨_, hs⟩, _⟩ := HC.out W hW
                have q := hs.cell 1
                unfold Oper.wp
                simp [go_sem, q]
                try exact hW
              simp only [Act.put, List.setIfInBounds_toArray, List.set_cons_succ, List.set_cons_zero]
              refine SeqV.step (.int .i64 (kk : Int)) (by rfl) (fun W hW => ?_) ?_
              · have q := hkm
                unfold Oper.wp
                simp [go_sem, q]
                try exact hW
              simp only [Act.put, List.setIfInBounds_toArray, List.set_cons_succ, List.set_cons_zero]
              refine SeqV.step (.pointer (some ⟨xq, kk, none⟩)) (by rfl) (fun W hW => ?_) ?_
              · have q := hkk3i
                unfold Oper.wp
                simp [go_sem, q]
                try exact hW
              simp only [Act.put, List.setIfInBounds_toArray, List.set_cons_succ, List.set_cons_zero]
              refine SeqV.step (.slice (some ⟨xg, 0, none⟩) 2 2) (by rfl) (fun W hW => ?_) ?_
              · obtain ⟨⟨⟨_, q, _⟩, _⟩, _⟩ := HC.out W hW
                unfold Oper.wp
                simp [go_sem, q]
                try exact hW
              simp only [Act.put, List.setIfInBounds_toArray, List.set_cons_succ, List.set_cons_zero]
              refine SeqV.step (.pointer (some ⟨xg, 1, none⟩)) (by rfl) (fun W hW => ?_) ?_
              · unfold Oper.wp
                simp [go_sem]
                try exact hW
              simp only [Act.put, List.setIfInBounds_toArray, List.set_cons_succ, List.set_cons_zero]
              refine SeqV.step (.int .i64 G) (by rfl) (fun W hW => ?_) ?_
              · obtain ⟨⟨⟨_, _, _, q⟩, _⟩, _⟩ := HC.out W hW
                unfold Oper.wp
                simp [go_sem, q]
                try exact hW
              simp only [Act.put, List.setIfInBounds_toArray, List.set_cons_succ, List.set_cons_zero]
              refine SeqV.step (.bool false) (by rfl) (fun W hW => ?_) ?_
              · have q := hvG
                unfold Oper.wp
                simp [go_sem, q]
                try exact hW
              simp only [Act.put, List.setIfInBounds_toArray, List.set_cons_succ, List.set_cons_zero]
              refine SeqV.step (.bool false) (by rfl) (fun W hW => ?_) ?_
              · unfold Oper.wp
                simp [go_sem]
                try exact hW
              simp only [Act.put, List.setIfInBounds_toArray, List.set_cons_succ, List.set_cons_zero]
              intro W3' hW3'
              have HB6 := hidden ((HC.out W3' hW3').2)
              clear hW3' HC hk1 hk3 hkm hvF hvG hw1 HSZ
              go_wp2_with fail
              go_roundw
              case rel => exact ⟨j + 1, by go_num, HJL.out, HB6⟩
              case measure => have := HJL.out; simp [intOf]; omega
            · have hij : ¬ (j : Int) < (ql : Int) := by omega
              clear hjl hj hsec hnum p0
              go_wp2_with fail
              go_roundw
              case rel => exact ⟨k + 1, by go_num, HLT.out, hb⟩
              case measure => have := HLT.out; simp [intOf]; omega
        · have hki : ¬ (k : Int) < (N : Int) := by omega
          have HFN : Hid (Below w.heap.size w wr) := HF3.out.trans ((HB5.out.trans (hb.out.mono HB5.out.size)).mono HF3.out.size)
          clear hlt hk hb
          go_wp2_with fail
          go_ret
          exact ⟨by simp, HFN.out⟩

end Go.Proofs.Ytiocchmlmcoieaa

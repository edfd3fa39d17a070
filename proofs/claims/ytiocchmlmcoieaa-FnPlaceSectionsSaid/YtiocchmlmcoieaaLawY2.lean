/-
  The walk of FnPlaceSections.
-/
import Derived.Test.YtiocchmlmcoieaaLayM
import Derived.Test.YtiocchmlmcoieaaLayW
import Derived.Test.YtiocchmlmcoieaaIntS
import Derived.Test.YtiocchmlmcoieaaDrawY1
namespace Go.Proofs.Ytiocchmlmcoieaa
open Go.RowKit

theorem Try.info_flag : (Try.prog.info? 4).map (fun i => (i.zero, i.size, i.bytes)) = some (some (.bool false), 1, 1) := by kernel_rfl
theorem Oj.few.short {y : Oj} (h : y.few) : y.short := ⟨⟨by have := h.n1; omega, fun z hz => by
  have := (h.secs z hz).name
  have := (h.secs z hz).bytes
  have := (h.secs z hz).count
  exact ⟨by omega, by omega, by omega⟩⟩, by have := h.n2; omega, fun m hm => by have := (h.syms m hm).name; omega⟩
/-- Which bytes have been used: those of the sections so far, and the first ones of the next one. -/
structure Usd (W : World) (g U : Nat) (pl : List (List Int)) (base : Int) (ps : List Pk) (A t : Nat) (cs : Array Value) : Prop where
  has : Has W g 4 cs
  size : cs.size = U
  each : ∀ i, i < U → ∃ b, cs[i]? = some (.bool b) ∧ (b = true → (∃ p ∈ ps, at2 pl p.k p.j ≤ base + (i : Int) ∧ base + (i : Int) < at2 pl p.k p.j + p.s.long) ∨ (A ≤ i ∧ i < A + t))
theorem Usd.only {W W' : World} {g U : Nat} {pl : List (List Int)} {base : Int} {ps : List Pk} {A t : Nat} {cs : Array Value} (h : Usd W g U pl base ps A t cs) (hb : Below W.heap.size W W') : Usd W' g U pl base ps A t cs := ⟨h.has.below hb h.has.lt, h.size, h.each⟩
theorem Usd.start {W : World} {g U : Nat} {pl : List (List Int)} {base : Int} {ps : List Pk} {A A' t : Nat} {cs : Array Value} (h : Usd W g U pl base ps A t cs) (ht : t = 0) : Usd W g U pl base ps A' 0 cs := ⟨h.has, h.size, fun i hi => by
  obtain ⟨b, h1, h2⟩ := h.each i hi
  refine ⟨b, h1, fun hb => ?_⟩
  rcases h2 hb with h3 | h3
  · exact .inl h3
  · omega⟩
theorem Usd.put {W : World} {g U : Nat} {pl : List (List Int)} {base : Int} {ps : List Pk} {A t : Nat} {cs : Array Value} (h : Usd W g U pl base ps A t cs) : Usd (W.setCell ⟨g, A + t, none⟩ (.bool true)) g U pl base ps A (t + 1) (cs.setIfInBounds (A + t) (.bool true)) := ⟨h.has.put _ _, by rw [Array.size_setIfInBounds]; exact h.size, fun i hi => by
  obtain ⟨b, h1, h2⟩ := h.each i hi
  rw [Array.getElem?_setIfInBounds]
  by_cases e : A + t = i
  · rw [if_pos e, if_pos (by rw [h.size]; omega)]
    exact ⟨true, rfl, fun _ => .inr (by omega)⟩
  · rw [if_neg e]
    refine ⟨b, h1, fun hb => ?_⟩
    rcases h2 hb with h3 | h3
    · exact .inl h3
    · exact .inr (by omega)⟩
theorem Usd.next {W : World} {g U : Nat} {pl : List (List Int)} {base : Int} {ps : List Pk} {A t : Nat} {cs : Array Value} (h : Usd W g U pl base ps A t cs) {p : Pk} (hA : at2 pl p.k p.j = base + (A : Int)) (ht : p.s.long = (t : Int)) : Usd W g U pl base (ps ++ [p]) 0 0 cs := ⟨h.has, h.size, fun i hi => by
  obtain ⟨b, h1, h2⟩ := h.each i hi
  refine ⟨b, h1, fun hb => .inl ?_⟩
  rcases h2 hb with ⟨q, hq, h3⟩ | h3
  · exact ⟨q, List.mem_append.2 (.inl hq), h3⟩
  · exact ⟨p, List.mem_append.2 (.inr (by simp)), by rw [hA]; omega, by rw [hA, ht]; omega⟩⟩
/-- A byte of the next section has not been used. -/
theorem Usd.free {W : World} {g U : Nat} {Ss : List (List Sx)} {base : Int} {A t k j : Nat} {cs : Array Value} {ss : List Sx} {s : Sx} (hf : Fine Ss base) (h : Usd W g U (layK Ss base 3).pl base (pksAt Ss k j) A t cs) (h1 : Ss[k]? = some ss) (h2 : ss[j]? = some s) (hA : at2 (layK Ss base 3).pl k j = base + (A : Int)) (ht : (t : Int) < s.long) (hU : A + t < U) : cs[A + t]? = some (.bool false) := by
  obtain ⟨b, hb1, hb2⟩ := h.each (A + t) hU
  rcases b with _ | _
  · exact hb1
  · exfalso
    rcases hb2 rfl with ⟨p, hp, h3, h4⟩ | h3
    · have hkl := (List.getElem?_eq_some_iff.1 h1).1
      obtain ⟨r, hr⟩ := pks_split hkl h1 h2
      have hmp : p ∈ pksUp Ss Ss.length := by rw [hr]; exact List.mem_append.2 (.inl hp)
      have hmq : (⟨k, j, s⟩ : Pk) ∈ pksUp Ss Ss.length := by rw [hr]; exact List.mem_append.2 (.inr (by simp))
      have hlt : p.lt ⟨k, j, s⟩ := by
        have := pksUp_pair Ss Ss.length
        rw [hr, List.pairwise_append] at this
        exact this.2.2 p hp _ (by simp)
      have hkp := (hf.pk hmp).2.2
      have hkq := (hf.pk hmq).2.2
      have := (hf.laid 3 (Nat.le_refl _)).two p hmp _ hmq hlt hkp.2 hkq.2
      change at2 _ p.k p.j + p.s.long ≤ at2 _ k j ∨ at2 _ k j + s.long ≤ at2 _ p.k p.j at this
      rw [hA] at this
      omega
    · omega
set_option maxRecDepth 100000 in
set_option maxHeartbeats 16000000 in
theorem law_PlaceSections (w : World) (a0 : Option Addr) (len cap : Nat) (h : Came w a0 len cap) :
    Calls Try.prog 4 #[.slice a0 len cap] w fun e w' => e = .returned (.bool true) ∧ Below w.heap.size w w' := by
  obtain ⟨l0, h, rfl, hcap, hmax⟩ := h
  by_cases hbig : 1048576 < l0.length
  · have hd : (1048576 : Int) < (l0.length : Int) := by omega
    go_enter Try.func4, Try.ntmps4
    go_wp2
    go_ret
    exact ⟨rfl, Below.refl _ _⟩
  have hd : ¬ (1048576 : Int) < (l0.length : Int) := by omega
  have HD := hidden (drawPlaceSections_any w a0 cap l0 h hcap hmax)
  clear h
  go_enter Try.func4, Try.ntmps4
  go_wp2_with fail
  refine HD.out.mono ?_
  clear HD
  rintro e w1 ⟨a, c, L, base, rfl, hL5, hfew, -, hO, hb1⟩
  obtain ⟨n, hn⟩ : ∃ q, L.length = q := ⟨_, rfl⟩
  obtain ⟨P, hP⟩ : ∃ x, (laidL L base).pl = x := ⟨_, rfl⟩
  obtain ⟨N, hN⟩ : ∃ x, P.length = x := ⟨_, rfl⟩
  obtain ⟨E, hE⟩ : ∃ x, (laidL L base).e = x := ⟨_, rfl⟩
  obtain ⟨ok, hok⟩ : ∃ x, layOk L base = x := ⟨_, rfl⟩
  have hX : laidL L base = ⟨P, E⟩ := by rw [← hP, ← hE]
  have hft : ∀ y ∈ L, y.fits := fun y hy => (hfew y hy).fits
  have HIM : Hid (Calls Try.prog 13 #[.slice a n c, .int .i64 base] w1 (PlacesE w1 ⟨P, E⟩ N ok)) := by
    have := placeSections_any w1 w1.heap.size a c n L base hn.symm hO (Nat.le_refl _) (by omega) hft N (by rw [hP]; exact hN)
    rwa [hX, hok] at this
  have HSP : Hid (∀ W, Below w1.heap.size w1 W → Calls Try.prog 14 #[.slice a n c, .int .i64 base] W (PlacesE W ⟨P, E⟩ N ok)) := fun W hB => by
    have := placeSections'_any W w1.heap.size a c n L base hn.symm (hO.below hB) hB.size (by omega) (fun y hy => (hfew y hy).short) N (by rw [hP]; exact hN)
    rwa [hX, hok] at this
  have HO := hidden hO
  have HB1 := hidden hb1
  have HNL := hidden hn
  have HPL := hidden hP
  have HEE := hidden hE
  have HNN := hidden hN
  have HOK := hidden hok
  have HFT := hidden hft
  have hn5 : n ≤ 5 := by omega
  have hEE : (E != E) = false := by simp
  have hoo : (ok != ok) = false := by simp
  have hNNe : ((N : Int) != (N : Int)) = false := by simp
  rw [hn]
  unfold PlacesE at HIM HSP
  dsimp only at HIM HSP
  clear hft hfew hO hb1 hn hL5 hP hN hE hok hX hd hbig
  go_wp2_with fail
  refine HIM.out.mono ?_
  clear HIM
  rintro e w2 ⟨xa, xc, rfl, xs, hxs, -, hRX, hb2⟩
  have HS2 := hidden (HSP.out w2 hb2)
  have HRX := hidden hRX
  have HXS := hidden hxs
  have HB2 := hidden hb2
  clear hxs hRX hb2 HSP
  go_wp2_with fail
  refine HS2.out.mono ?_
  clear HS2
  rintro e w3 ⟨ya, yc, rfl, ys, hys, -, hRY, hb3⟩
  have HB3 := hidden (HB2.out.trans (hb3.mono HB2.out.size))
  have HRX3 := hidden (HRX.out.only hb3)
  have HRY := hidden hRY
  have HYS := hidden hys
  have HF3 : Hid (Below w.heap.size w w3) := HB1.out.trans (HB3.out.mono HB1.out.size)
  clear hys hRY hb3 HB2 HRX
  rcases ok with _ | _
  · have hXe := laid_no (L := L) (base := base) HOK.out
    have hP0 : P = [] := by rw [← HPL.out, hXe]
    have hE0 : E = 0 := by rw [← HEE.out, hXe]
    have hN0 : N = 0 := by rw [← HNN.out, hP0]; rfl
    clear HXS HYS HRX3 HRY HB3 hXe hP0
    subst hN0
    subst hE0
    go_wp2_with (go_at_call 11; refine (alive_any _).mono ?_; rintro e _ ⟨rfl, rfl⟩)
    go_ret
    exact ⟨rfl, HF3.out⟩
  have hfine := fine_ok HOK.out
  obtain ⟨Ss, hSs⟩ : ∃ q, secsOf L = q := ⟨_, rfl⟩
  rw [hSs] at hfine
  have HFI := hidden hfine
  have hPl : P = (layK Ss base 3).pl := by rw [← HPL.out, laid_yes HOK.out, hSs]
  have hEl : E = (layK Ss base 3).e := by rw [← HEE.out, laid_yes HOK.out, hSs]
  have HPP := hidden hPl
  have HEL := hidden hEl
  have hlay := hfine.laid 3 (Nat.le_refl _)
  have hb0 := hfine.b0
  have hb1 := hfine.b1
  have hE0 : base ≤ E := by rw [hEl]; exact hlay.e0
  have hE1 : E ≤ base + 6000 := by rw [hEl]; have := hlay.e1; omega
  have HLAY := hidden hlay
  obtain ⟨U, hU⟩ : ∃ U : Nat, E = base + (U : Int) := ⟨(E - base).toNat, by omega⟩
  have HSN : Hid (Ss.length = n) := by show _ = _; rw [← hSs]; unfold secsOf; rw [List.length_map]; exact HNL.out
  have hNn : N = n := by
    have h1 := congrArg List.length (layK_lens Ss base 3)
    rw [List.length_map, List.length_map, HSN.out, ← hPl, HNN.out] at h1
    exact h1
  subst hNn
  have hsubE : IntKind.i64.wrap (E - base) = (U : Int) := by
    have h1 : E - base = (U : Int) := by omega
    rw [h1]
    exact IntWalk.i64_in _ (by omega)
  have hmk := fun W => run_make_row' (P := Try.prog) 37 4 (.bool false) 1 Try.underlying37 Try.info_flag rfl .i64 .i64 U (by omega) (by omega) W
  have hmx : max (0 : Int) (U : Int) = (U : Int) := by omega
  have HUU := hidden hU
  have hU6k : U ≤ 6000 := by omega
  have HROW : Hid (∀ k, k < N → ∃ (b off xq yq : Nat) (y : Oj) (xr yr : Rn), a = some ⟨b, off, none⟩ ∧ xa = some ⟨xq, 0, none⟩ ∧ ya = some ⟨yq, 0, none⟩ ∧ L[k]? = some y ∧ Ss[k]? = some (y.l.map Sp.s) ∧ ∀ W, Below w3.heap.size w3 W →
      (W.cell? ⟨b, off + k * 2, none⟩ = some (.slice y.a1 y.l.length y.c1) ∧ Sects W w3.heap.size y.a1 y.l) ∧ (W.cell? ⟨xq, k, none⟩ = some (.slice (some ⟨xr.g, 0, none⟩) y.l.length y.l.length) ∧ W.cell? ⟨yq, k, none⟩ = some (.slice (some ⟨yr.g, 0, none⟩) y.l.length y.l.length)) ∧
      (Calls Try.prog 15 #[.slice (some ⟨xr.g, 0, none⟩) y.l.length y.l.length, .slice (some ⟨yr.g, 0, none⟩) y.l.length y.l.length] W fun e w' => e = .returned (.bool true) ∧ ∃ n, w' = W.drewN n) ∧ ∀ j, j < y.l.length → W.cell? ⟨xr.g, j, none⟩ = some (.int .i64 (at2 P k j))) := fun k hk => by
    have hkl : k < L.length := by rw [HNL.out]; exact hk
    obtain ⟨b, off, ha, hb, p0, p1⟩ := HO.out.at_ hkl
    have hy : L[k]? = some L[k] := List.getElem?_eq_getElem hkl
    obtain ⟨y, hye⟩ : ∃ y, L[k] = y := ⟨_, rfl⟩
    rw [hye] at hy p0
    have hss : Ss[k]? = some (y.l.map Sp.s) := by rw [← hSs]; unfold secsOf; rw [List.getElem?_map, hy]; rfl
    obtain ⟨xr, hxr⟩ : ∃ x, xs[k]? = some x := ⟨_, List.getElem?_eq_getElem (by rw [HRX3.out.len]; exact hk)⟩
    obtain ⟨yr, hyr⟩ : ∃ x, ys[k]? = some x := ⟨_, List.getElem?_eq_getElem (by rw [HRY.out.len]; exact hk)⟩
    have hPk : P[k]? = some xr.r := by rw [← HXS.out, List.getElem?_map, hxr]; rfl
    have hPk2 : P[k]? = some yr.r := by rw [← HYS.out, List.getElem?_map, hyr]; rfl
    have hxy : yr.r = xr.r := by rw [hPk] at hPk2; injection hPk2 with e; exact e.symm
    have hql : xr.r.length = y.l.length := by
      have h1 := congrArg (fun l : List Nat => l[k]?) (layK_lens Ss base 3)
      simp only [List.getElem?_map] at h1
      rw [← hPl, hPk, hss] at h1
      simpa using h1
    have hwf : ∀ z ∈ xr.r, (Lit.int .i64 z).wf = true := fun z hz => wf_small (small_lay Ss base 3 xr.r (by rw [← hPl]; exact List.mem_of_getElem? hPk) z hz)
    have hq8 : xr.r.length ≤ 8 := by rw [hql]; have := hfine.each _ (List.mem_of_getElem? hss); rwa [List.length_map] at this
    obtain ⟨xq, hxa, _, _⟩ := HRX3.out.at_ hxr
    obtain ⟨yq, hya, _, _⟩ := HRY.out.at_ hyr
    refine ⟨b, off, xq, yq, y, xr, yr, ha, hxa, hya, hy, hss, fun W hW => ?_⟩
    have hbw := HB3.out.trans (hW.mono HB3.out.size)
    have k1 := HRX3.out.only hW
    have k2 := HRY.out.only hW
    obtain ⟨q1, hq1, _, e1⟩ := k1.at_ hxr
    obtain ⟨q2, hq2, _, e2⟩ := k2.at_ hyr
    rw [hxa] at hq1
    rw [hya] at hq2
    injection hq1 with hq1
    injection hq1 with hq1
    injection hq2 with hq2
    injection hq2 with hq2
    subst hq1
    subst hq2
    rw [hql] at e1
    rw [hxy, hql] at e2
    have hc := sameInts_yes W W.heap.size W.heap.size (some ⟨xr.g, 0, none⟩) (some ⟨yr.g, 0, none⟩) xr.r.length xr.r.length xr.r (k1.ints hxr hwf) (by have := k2.ints hyr (by rw [hxy]; exact hwf); rwa [hxy] at this) (by omega)
    rw [hql] at hc
    refine ⟨⟨(hbw.cell (by show b < _; exact hb)).trans p0, ((HO.out.below hbw).secs _ (List.mem_of_getElem? hy)).more HB3.out.size⟩, ⟨e1, e2⟩, hc, fun j hj => ?_⟩
    obtain ⟨v0, hv0⟩ : ∃ v, xr.r[j]? = some v := ⟨_, List.getElem?_eq_getElem (by omega)⟩
    rw [(k1.num hxr hv0).1]
    unfold at2
    rw [List.getD_eq_getElem?_getD, List.getD_eq_getElem?_getD, hPk]
    show _ = some (Value.int .i64 ((xr.r[j]?).getD 0))
    rw [hv0]
    rfl
  have hu0 : Usd (w3.alloc (.cells (madeCells #[Value.bool false] U) 4)) w3.heap.size U P base (pksAt Ss 0 0) 0 0 (madeCells #[Value.bool false] U) := ⟨Has.new _ _ _, size_madeCells _ _ |>.trans (by simp), fun i hi => ⟨false, by
    rw [← Array.getElem?_toList, toList_madeCells_one]
    simp [hi], fun h => by cases h⟩⟩
  have HU0 := hidden hu0
  have HBA : Hid (Below w3.heap.size w3 (w3.alloc (.cells (madeCells #[Value.bool false] U) 4))) := (Below.refl _ _).alloc (Nat.le_refl _) _
  have HLOW : Hid (w1.heap.size ≤ w3.heap.size) := HB3.out.size
  clear hfine hPl hEl hlay hSs hU hu0 HRX3 HRY HXS HYS HB3 HO
  go_wp2_with fail
  clear hmk hmx hsubE hNNe hEE hoo
  go_loopw [12] (fun i wr => ∃ (k : Nat) (cs : Array Value), i = .int .i64 k ∧ k ≤ N ∧ Hid (Usd wr w3.heap.size U P base (pksAt Ss k 0) 0 0 cs) ∧ Hid (Below w3.heap.size w3 wr)) (fun i _ => N - (intOf i).toNat)
  case atStart => exact ⟨0, _, rfl, Nat.zero_le _, HU0, HBA⟩
  case round =>
    clear HU0 HBA
    obtain ⟨k, cs, rfl, hk, hu, hb⟩ := hrel
    by_cases hlt : k < N
    · have hki : (k : Int) < (N : Int) := by omega
      obtain ⟨b, off, xq, yq, y, xr, yr, ha, hxa, hya, hy, hss, hW⟩ := HROW.out k hlt
      obtain ⟨ql, hql⟩ : ∃ q, y.l.length = q := ⟨_, rfl⟩
      rw [hql] at hW
      have hq8 : ql ≤ 8 := by have := HFI.out.each _ (List.mem_of_getElem? hss); rw [List.length_map] at this; omega
      have hgeN : ¬ ((N : Int) ≤ (k : Int)) := by omega
      have hqq : ((ql : Int) != (ql : Int)) = false := by simp
      have HWW := hidden hW
      have HSS := hidden hss
      have HQL := hidden hql
      have HLT := hidden hlt
      have HYM := hidden (List.mem_of_getElem? hy)
      have HC : Hid (∀ W, Below wr.heap.size wr W → (W.cell? ⟨xq, k, none⟩ = some (.slice (some ⟨xr.g, 0, none⟩) ql ql) ∧ W.cell? ⟨yq, k, none⟩ = some (.slice (some ⟨yr.g, 0, none⟩) ql ql)) ∧ W.cell? ⟨b, off + k * 2, none⟩ = some (.slice y.a1 ql y.c1) ∧ Calls Try.prog 15 #[.slice (some ⟨xr.g, 0, none⟩) ql ql, .slice (some ⟨yr.g, 0, none⟩) ql ql] W fun e w' => e = .returned (.bool true) ∧ ∃ n, w' = W.drewN n) := fun W hb2 => by
        obtain ⟨⟨h1, _⟩, h2, h3, _⟩ := hW W (hb.out.trans (hb2.mono hb.out.size))
        exact ⟨h2, h1, h3⟩
      subst ha
      subst hxa
      subst hya
      clear hy hss hW hql hlt hk
      go_upto_region 14 with fail
      refine wp_region_seq (by kernel_rfl) (fun W' => Below wr.heap.size wr W') (by kernel_rfl) (Below.refl _ _).drew ?_
      refine SeqV.step (.slice (some ⟨xq, 0, none⟩) N xc) (by rfl) (fun W hW => ?_) ?_
      · unfold Oper.wp
        simp [go_sem]
        try exact hW
      simp only [Act.put, List.setIfInBounds_toArray, List.set_cons_succ, List.set_cons_zero]
      refine SeqV.step (.int .i64 (k : Int)) (by rfl) (fun W hW => ?_) ?_
      · unfold Oper.wp
        simp [go_sem]
        try exact hW
      simp only [Act.put, List.setIfInBounds_toArray, List.set_cons_succ, List.set_cons_zero]
      refine SeqV.step (.pointer (some ⟨xq, k, none⟩)) (by rfl) (fun W hW => ?_) ?_
      · have q := hki
        unfold Oper.wp
        simp [go_sem, q]
        try exact hW
      simp only [Act.put, List.setIfInBounds_toArray, List.set_cons_succ, List.set_cons_zero]
      refine SeqV.step (.slice (some ⟨xr.g, 0, none⟩) ql ql) (by rfl) (fun W hW => ?_) ?_
      · obtain ⟨⟨q, _⟩, _, _⟩ := HC.out W hW
        unfold Oper.wp
        simp [go_sem, q]
        try exact hW
      simp only [Act.put, List.setIfInBounds_toArray, List.set_cons_succ, List.set_cons_zero]
      refine SeqV.step (.slice (some ⟨yq, 0, none⟩) N yc) (by rfl) (fun W hW => ?_) ?_
      · unfold Oper.wp
        simp [go_sem]
        try exact hW
      simp only [Act.put, List.setIfInBounds_toArray, List.set_cons_succ, List.set_cons_zero]
      refine SeqV.step (.int .i64 (k : Int)) (by rfl) (fun W hW => ?_) ?_
      · unfold Oper.wp
        simp [go_sem]
        try exact hW
      simp only [Act.put, List.setIfInBounds_toArray, List.set_cons_succ, List.set_cons_zero]
      refine SeqV.step (.pointer (some ⟨yq, k, none⟩)) (by rfl) (fun W hW => ?_) ?_
      · have q := hki
        unfold Oper.wp
        simp [go_sem, q]
        try exact hW
      simp only [Act.put, List.setIfInBounds_toArray, List.set_cons_succ, List.set_cons_zero]
      refine SeqV.step (.slice (some ⟨yr.g, 0, none⟩) ql ql) (by rfl) (fun W hW => ?_) ?_
      · obtain ⟨⟨_, q⟩, _, _⟩ := HC.out W hW
        unfold Oper.wp
        simp [go_sem, q]
        try exact hW
      simp only [Act.put, List.setIfInBounds_toArray, List.set_cons_succ, List.set_cons_zero]
      refine SeqV.step (.bool true) (by rfl) (fun W hW => ?_) ?_
      · obtain ⟨_, _, hc⟩ := HC.out W hW
        unfold Oper.wp
        simp [go_sem]
        refine hc.mono ?_
        rintro e w' ⟨rfl, n, rfl⟩
        exact ⟨rfl, below_drewN hW n⟩
      simp only [Act.put, List.setIfInBounds_toArray, List.set_cons_succ, List.set_cons_zero]
      refine SeqV.step (.bool false) (by rfl) (fun W hW => ?_) ?_
      · unfold Oper.wp
        simp [go_sem]
        try exact hW
      simp only [Act.put, List.setIfInBounds_toArray, List.set_cons_succ, List.set_cons_zero]
      refine SeqV.step (.bool false) (by rfl) (fun W hW => ?_) ?_
      · unfold Oper.wp
        simp [go_sem]
        try exact hW
      simp only [Act.put, List.setIfInBounds_toArray, List.set_cons_succ, List.set_cons_zero]
      refine SeqV.step (.int .i64 (k : Int)) (by rfl) (fun W hW => ?_) ?_
      · unfold Oper.wp
        simp [go_sem]
        try exact hW
      simp only [Act.put, List.setIfInBounds_toArray, List.set_cons_succ, List.set_cons_zero]
      refine SeqV.step (.slice (some ⟨b, off, none⟩) N c) (by rfl) (fun W hW => ?_) ?_
      · unfold Oper.wp
        simp [go_sem]
        try exact hW
      simp only [Act.put, List.setIfInBounds_toArray, List.set_cons_succ, List.set_cons_zero]
      refine SeqV.step (.int .i64 (N : Int)) (by rfl) (fun W hW => ?_) ?_
      · unfold Oper.wp
        simp [go_sem]
        try exact hW
      simp only [Act.put, List.setIfInBounds_toArray, List.set_cons_succ, List.set_cons_zero]
      refine SeqV.step (.bool false) (by rfl) (fun W hW => ?_) ?_
      · have q := hgeN
        unfold Oper.wp
        simp [go_sem, q]
        try exact hW
      simp only [Act.put, List.setIfInBounds_toArray, List.set_cons_succ, List.set_cons_zero]
      refine SeqV.step (.bool false) (by rfl) (fun W hW => ?_) ?_
      · unfold Oper.wp
        simp [go_sem]
        try exact hW
      simp only [Act.put, List.setIfInBounds_toArray, List.set_cons_succ, List.set_cons_zero]
      refine SeqV.step (.bool false) (by rfl) (fun W hW => ?_) ?_
      · unfold Oper.wp
        simp [go_sem]
        try exact hW
      simp only [Act.put, List.setIfInBounds_toArray, List.set_cons_succ, List.set_cons_zero]
      refine SeqV.step (.slice (some ⟨xq, 0, none⟩) N xc) (by rfl) (fun W hW => ?_) ?_
      · unfold Oper.wp
        simp [go_sem]
        try exact hW
      simp only [Act.put, List.setIfInBounds_toArray, List.set_cons_succ, List.set_cons_zero]
      refine SeqV.step (.int .i64 (k : Int)) (by rfl) (fun W hW => ?_) ?_
      · unfold Oper.wp
        simp [go_sem]
        try exact hW
      simp only [Act.put, List.setIfInBounds_toArray, List.set_cons_succ, List.set_cons_zero]
      refine SeqV.step (.pointer (some ⟨xq, k, none⟩)) (by rfl) (fun W hW => ?_) ?_
      · have q := hki
        unfold Oper.wp
        simp [go_sem, q]
        try exact hW
      simp only [Act.put, List.setIfInBounds_toArray, List.set_cons_succ, List.set_cons_zero]
      refine SeqV.step (.slice (some ⟨xr.g, 0, none⟩) ql ql) (by rfl) (fun W hW => ?_) ?_
      · obtain ⟨⟨q, _⟩, _, _⟩ := HC.out W hW
        unfold Oper.wp
        simp [go_sem, q]
        try exact hW
      simp only [Act.put, List.setIfInBounds_toArray, List.set_cons_succ, List.set_cons_zero]
      refine SeqV.step (.int .i64 (ql : Int)) (by rfl) (fun W hW => ?_) ?_
      · unfold Oper.wp
        simp [go_sem]
        try exact hW
      simp only [Act.put, List.setIfInBounds_toArray, List.set_cons_succ, List.set_cons_zero]
      refine SeqV.step (.slice (some ⟨b, off, none⟩) N c) (by rfl) (fun W hW => ?_) ?_
      · unfold Oper.wp
        simp [go_sem]
        try exact hW
      simp only [Act.put, List.setIfInBounds_toArray, List.set_cons_succ, List.set_cons_zero]
      refine SeqV.step (.int .i64 (k : Int)) (by rfl) (fun W hW => ?_) ?_
      · unfold Oper.wp
        simp [go_sem]
        try exact hW
      simp only [Act.put, List.setIfInBounds_toArray, List.set_cons_succ, List.set_cons_zero]
      refine SeqV.step (.pointer (some ⟨b, off + k * 2, none⟩)) (by rfl) (fun W hW => ?_) ?_
      · have q := hki
        unfold Oper.wp
        simp [go_sem, q]
        try exact hW
      simp only [Act.put, List.setIfInBounds_toArray, List.set_cons_succ, List.set_cons_zero]
      refine SeqV.step (.pointer (some ⟨b, off + k * 2, none⟩)) (by rfl) (fun W hW => ?_) ?_
      · unfold Oper.wp
        simp [go_sem]
        try exact hW
      simp only [Act.put, List.setIfInBounds_toArray, List.set_cons_succ, List.set_cons_zero]
      refine SeqV.step (.slice y.a1 ql y.c1) (by rfl) (fun W hW => ?_) ?_
      · obtain ⟨_, q, _⟩ := HC.out W hW
        unfold Oper.wp
        simp [go_sem, q]
        try exact hW
      simp only [Act.put, List.setIfInBounds_toArray, List.set_cons_succ, List.set_cons_zero]
      refine SeqV.step (.int .i64 (ql : Int)) (by rfl) (fun W hW => ?_) ?_
      · unfold Oper.wp
        simp [go_sem]
        try exact hW
      simp only [Act.put, List.setIfInBounds_toArray, List.set_cons_succ, List.set_cons_zero]
      refine SeqV.step (.bool false) (by rfl) (fun W hW => ?_) ?_
      · unfold Oper.wp
        simp [go_sem]
        try exact hW
      simp only [Act.put, List.setIfInBounds_toArray, List.set_cons_succ, List.set_cons_zero]
      refine SeqV.step (.bool false) (by rfl) (fun W hW => ?_) ?_
      · unfold Oper.wp
        simp [go_sem]
        try exact hW
      simp only [Act.put, List.setIfInBounds_toArray, List.set_cons_succ, List.set_cons_zero]
      intro W4 hW4
      have HU4 := hidden (hu.out.only hW4)
      have HB4 := hidden (hb.out.trans (hW4.mono hb.out.size))
      clear hW4 HC hu hb
      go_wp2_with fail
      go_loopw [13] (fun i wr => ∃ (j : Nat) (cs : Array Value), i = .int .i64 j ∧ j ≤ ql ∧ Hid (Usd wr w3.heap.size U P base (pksAt Ss k j) 0 0 cs) ∧ Hid (Below w3.heap.size w3 wr)) (fun i _ => ql - (intOf i).toNat)
      case atStart => exact ⟨0, cs, rfl, Nat.zero_le _, HU4, HB4⟩
      case round =>
        clear HU4 HB4
        obtain ⟨j, cs, rfl, hj, hu, hb⟩ := hrel
        obtain ⟨⟨p0, hsec⟩, ⟨ex, -⟩, -, hnum⟩ := HWW.out wr hb.out
        by_cases hjl : j < ql
        · have hij : (j : Int) < (ql : Int) := by omega
          have hjy : j < y.l.length := by rw [HQL.out]; exact hjl
          obtain ⟨b2, off2, ha1, _, t0, t1, t2, t3, t4, t5⟩ := hsec.at_ hjy
          obtain ⟨z, hz⟩ : ∃ z, y.l[j] = z := ⟨_, rfl⟩
          rw [hz] at t0 t1 t2 t3 t4 t5
          have hsj : (y.l.map Sp.s)[j]? = some z.s := by rw [List.getElem?_map, List.getElem?_eq_getElem hjy, hz]; rfl
          have hzm : z ∈ y.l := by rw [← hz]; exact List.getElem_mem hjy
          have hzok := HFI.out.ok _ (List.mem_of_getElem? HSS.out) _ (List.mem_of_getElem? hsj)
          have hzf := (HFT.out y HYM.out).2.2.1 z hzm
          have HSZ : Hid (∀ W, Below w3.heap.size w3 W → Calls Try.prog 16 #[z.s.agg z.a1 z.c1 z.a2 z.c2] W fun e w' => e = .returned (.int .i64 z.s.long) ∧ Below W.heap.size W w') := fun W hW => by
            obtain ⟨⟨_, hs⟩, _⟩ := HWW.out W hW
            exact wantSectionSize W w3.heap.size z.s z.a1 z.c1 z.a2 z.c2 (hs.bytes z hzm) (hs.fixs z hzm) hW.size hzf
          have hmp : (⟨k, j, z.s⟩ : Pk) ∈ pksUp Ss Ss.length := mem_pksUp.2 ⟨by rw [HSN.out]; exact HLT.out, _, HSS.out, hsj⟩
          obtain ⟨i1, i2, i3⟩ := HLAY.out.inn ⟨k, j, z.s⟩ hmp hzok.2.2.2
          change base ≤ at2 (layK Ss base 3).pl k j at i1
          change at2 (layK Ss base 3).pl k j + z.s.long ≤ _ at i2
          change at2 (layK Ss base 3).pl k j % z.s.align = 0 at i3
          rw [← HEL.out] at i2
          rw [← HPP.out] at i1 i2 i3
          obtain ⟨lg, hlg⟩ : ∃ lg : Nat, z.s.long = (lg : Int) := ⟨z.s.long.toNat, by have := hzok.2.1.1; omega⟩
          have hlg48 : lg ≤ 48 := by have := hzok.2.1.2; omega
          obtain ⟨A, hA⟩ : ∃ A : Nat, at2 P k j = base + (A : Int) := ⟨(at2 P k j - base).toNat, by omega⟩
          have hAU : A + lg ≤ U := by have := HUU.out; omega
          have hal : alOk z.s.align := hzok.1
          have hnx := pksAt_next HSS.out hsj
          have HFREE : Hid (∀ (W : World) (t : Nat) (cs : Array Value), Usd W w3.heap.size U P base (pksAt Ss k j) A t cs → t < lg → cs[A + t]? = some (.bool false)) := fun W t cs hh ht => by
            rw [HPP.out] at hh
            exact Usd.free HFI.out hh HSS.out hsj (by rw [← HPP.out]; exact hA) (by omega) (by omega)
          have HNXT : Hid (∀ (W : World) (cs : Array Value), Usd W w3.heap.size U P base (pksAt Ss k j) A lg cs → Usd W w3.heap.size U P base (pksAt Ss k (j + 1)) 0 0 cs) := fun W cs hh => by
            rw [hnx]
            exact hh.next (p := ⟨k, j, z.s⟩) hA hlg
          obtain ⟨v, hv⟩ : ∃ v, at2 P k j = v := ⟨_, rfl⟩
          have HNUM : Hid (∀ W, Below w3.heap.size w3 W → (W.cell? ⟨xq, k, none⟩ = some (.slice (some ⟨xr.g, 0, none⟩) ql ql)) ∧ W.cell? ⟨xr.g, j, none⟩ = some (.int .i64 v)) := fun W hW => by
            obtain ⟨_, ⟨h1, _⟩, _, h2⟩ := HWW.out W hW
            exact ⟨h1, by rw [h2 j hjl, hv]⟩
          rw [hv] at hA i1 i2 i3
          rw [hlg] at i2
          unfold Sx.agg at HSZ
          rw [hlg] at HSZ
          obtain ⟨⟨nm, kd, al, bs, sz, fs⟩, z1, d1, z2, d2⟩ := z
          dsimp only at t0 t1 t2 t3 t4 t5 HSZ i3 hal
          obtain ⟨nb, hnb⟩ : ∃ q, bs.length = q := ⟨_, rfl⟩
          obtain ⟨nf, hnf⟩ : ∃ q, fs.length = q := ⟨_, rfl⟩
          rw [hnb] at t3 HSZ
          rw [hnf] at t5 HSZ
          have HJL := hidden hjl
          rw [ha1] at p0
          have hrem : v.tmod al = 0 := by rw [Int.tmod_eq_emod_of_nonneg (by omega)]; exact i3
          have hal0 : (al == 0) = false := by unfold alOk at hal; simp; omega
          have hal1 : al ≠ 0 := by unfold alOk at hal; omega
          have hvb : ¬ v < base := by omega
          have hve : ¬ E < v + (lg : Int) := by omega
          have hw1 : IntKind.i64.wrap (v + (lg : Int)) = v + (lg : Int) := IntWalk.i64_in _ (by omega)
          obtain ⟨W2, hW2⟩ : ∃ q, wr.alloc (.cells #[.string nm, .int .i64 kd, .int .i64 al, .slice z1 nb d1, .int .i64 sz, .slice z2 nf d2] 42) = q := ⟨_, rfl⟩
          obtain ⟨bx, hbx⟩ : ∃ q, wr.heap.size = q := ⟨_, rfl⟩
          have hBa := hb.out.alloc hb.out.size (.cells #[.string nm, .int .i64 kd, .int .i64 al, .slice z1 nb d1, .int .i64 sz, .slice z2 nf d2] 42)
          have hUa := hu.out.only ((Below.refl wr.heap.size wr).alloc (Nat.le_refl _) (.cells #[.string nm, .int .i64 kd, .int .i64 al, .slice z1 nb d1, .int .i64 sz, .slice z2 nf d2] 42))
          have hSa : Has (wr.alloc (.cells #[.string nm, .int .i64 kd, .int .i64 al, .slice z1 nb d1, .int .i64 sz, .slice z2 nf d2] 42)) wr.heap.size 42 #[.string nm, .int .i64 kd, .int .i64 al, .slice z1 nb d1, .int .i64 sz, .slice z2 nf d2] := Has.new _ _ _
          rw [hW2] at hBa hUa
          rw [hW2, hbx] at hSa
          have hsz2 : w3.heap.size ≤ W2.heap.size := hBa.size
          have HC : Hid (∀ W, Below W2.heap.size W2 W → ((W.cell? ⟨xq, k, none⟩ = some (.slice (some ⟨xr.g, 0, none⟩) ql ql) ∧ W.cell? ⟨xr.g, j, none⟩ = some (.int .i64 v)) ∧ Has W bx 42 #[.string nm, .int .i64 kd, .int .i64 al, .slice z1 nb d1, .int .i64 sz, .slice z2 nf d2]) ∧ Below w3.heap.size w3 W ∧ Usd W w3.heap.size U P base (pksAt Ss k j) 0 0 cs) := fun W hW => ⟨⟨HNUM.out W (hBa.trans (hW.mono hsz2)), hSa.below hW hSa.lt⟩, hBa.trans (hW.mono hsz2), hUa.only hW⟩
          have HW2 := hidden hW2
          have HBX := hidden hbx
          have HA := hidden hA
          have HAU := hidden hAU
          clear hjy hz hsj hzm hzok hzf hmp hlg hnx hv hnb hnf hjl ha1 hal i1 i2 i3 hA hAU hW2 hbx hBa hUa hSa hsz2 hu hb hsec hnum
          go_upto_region 20 with fail
          rw [HW2.out, HBX.out]
          clear HW2 HBX t0 t1 t2 t3 t4 t5 p0 ex
          refine wp_region_seq (by kernel_rfl) (fun W' => Below W2.heap.size W2 W') (by kernel_rfl) (Below.refl _ _).drew ?_
          refine SeqV.step (.slice (some ⟨xq, 0, none⟩) N xc) (by rfl) (fun W hW => ?_) ?_
          · unfold Oper.wp
            simp [go_sem]
            try exact hW
          simp only [Act.put, List.setIfInBounds_toArray, List.set_cons_succ, List.set_cons_zero]
          refine SeqV.step (.int .i64 (k : Int)) (by rfl) (fun W hW => ?_) ?_
          · unfold Oper.wp
            simp [go_sem]
            try exact hW
          simp only [Act.put, List.setIfInBounds_toArray, List.set_cons_succ, List.set_cons_zero]
          refine SeqV.step (.pointer (some ⟨xq, k, none⟩)) (by rfl) (fun W hW => ?_) ?_
          · have q := hki
            unfold Oper.wp
            simp [go_sem, q]
            try exact hW
          simp only [Act.put, List.setIfInBounds_toArray, List.set_cons_succ, List.set_cons_zero]
          refine SeqV.step (.slice (some ⟨xr.g, 0, none⟩) ql ql) (by rfl) (fun W hW => ?_) ?_
          · obtain ⟨⟨⟨q, _⟩, _⟩, _⟩ := HC.out W hW
            unfold Oper.wp
            simp [go_sem, q]
            try exact hW
          simp only [Act.put, List.setIfInBounds_toArray, List.set_cons_succ, List.set_cons_zero]
          refine SeqV.step (.int .i64 (j : Int)) (by rfl) (fun W hW => ?_) ?_
          · unfold Oper.wp
            simp [go_sem]
            try exact hW
          simp only [Act.put, List.setIfInBounds_toArray, List.set_cons_succ, List.set_cons_zero]
          refine SeqV.step (.pointer (some ⟨xr.g, j, none⟩)) (by rfl) (fun W hW => ?_) ?_
          · have q := hij
            unfold Oper.wp
            simp [go_sem, q]
            try exact hW
          simp only [Act.put, List.setIfInBounds_toArray, List.set_cons_succ, List.set_cons_zero]
          refine SeqV.step (.int .i64 v) (by rfl) (fun W hW => ?_) ?_
          · obtain ⟨⟨⟨_, q⟩, _⟩, _⟩ := HC.out W hW
            unfold Oper.wp
            simp [go_sem, q]
            try exact hW
          simp only [Act.put, List.setIfInBounds_toArray, List.set_cons_succ, List.set_cons_zero]
          refine SeqV.step (.pointer (some ⟨bx, 2, none⟩)) (by rfl) (fun W hW => ?_) ?_
          · unfold Oper.wp
            simp [go_sem]
            try exact hW
          simp only [Act.put, List.setIfInBounds_toArray, List.set_cons_succ, List.set_cons_zero]
          refine SeqV.step (.int .i64 al) (by rfl) (fun W hW => ?_) ?_
          · obtain ⟨⟨_, hs⟩, _⟩ := HC.out W hW
            have q := hs.cell 2
            unfold Oper.wp
            simp [go_sem, q]
            try exact hW
          simp only [Act.put, List.setIfInBounds_toArray, List.set_cons_succ, List.set_cons_zero]
          refine SeqV.step (.int .i64 0) (by rfl) (fun W hW => ?_) ?_
          · have q0 := hrem
            have q2 := hal1
            unfold Oper.wp
            simp [go_sem, q0, q2]
            try exact hW
          simp only [Act.put, List.setIfInBounds_toArray, List.set_cons_succ, List.set_cons_zero]
          refine SeqV.step (.bool false) (by rfl) (fun W hW => ?_) ?_
          · unfold Oper.wp
            simp [go_sem]
            try exact hW
          simp only [Act.put, List.setIfInBounds_toArray, List.set_cons_succ, List.set_cons_zero]
          refine SeqV.step (.bool false) (by rfl) (fun W hW => ?_) ?_
          · unfold Oper.wp
            simp [go_sem]
            try exact hW
          simp only [Act.put, List.setIfInBounds_toArray, List.set_cons_succ, List.set_cons_zero]
          refine SeqV.step (.slice (some ⟨xq, 0, none⟩) N xc) (by rfl) (fun W hW => ?_) ?_
          · unfold Oper.wp
            simp [go_sem]
            try exact hW
          simp only [Act.put, List.setIfInBounds_toArray, List.set_cons_succ, List.set_cons_zero]
          refine SeqV.step (.int .i64 (k : Int)) (by rfl) (fun W hW => ?_) ?_
          · unfold Oper.wp
            simp [go_sem]
            try exact hW
          simp only [Act.put, List.setIfInBounds_toArray, List.set_cons_succ, List.set_cons_zero]
          refine SeqV.step (.pointer (some ⟨xq, k, none⟩)) (by rfl) (fun W hW => ?_) ?_
          · have q := hki
            unfold Oper.wp
            simp [go_sem, q]
            try exact hW
          simp only [Act.put, List.setIfInBounds_toArray, List.set_cons_succ, List.set_cons_zero]
          refine SeqV.step (.slice (some ⟨xr.g, 0, none⟩) ql ql) (by rfl) (fun W hW => ?_) ?_
          · obtain ⟨⟨⟨q, _⟩, _⟩, _⟩ := HC.out W hW
            unfold Oper.wp
            simp [go_sem, q]
            try exact hW
          simp only [Act.put, List.setIfInBounds_toArray, List.set_cons_succ, List.set_cons_zero]
          refine SeqV.step (.int .i64 (j : Int)) (by rfl) (fun W hW => ?_) ?_
          · unfold Oper.wp
            simp [go_sem]
            try exact hW
          simp only [Act.put, List.setIfInBounds_toArray, List.set_cons_succ, List.set_cons_zero]
          refine SeqV.step (.pointer (some ⟨xr.g, j, none⟩)) (by rfl) (fun W hW => ?_) ?_
          · have q := hij
            unfold Oper.wp
            simp [go_sem, q]
            try exact hW
          simp only [Act.put, List.setIfInBounds_toArray, List.set_cons_succ, List.set_cons_zero]
          refine SeqV.step (.int .i64 v) (by rfl) (fun W hW => ?_) ?_
          · obtain ⟨⟨⟨_, q⟩, _⟩, _⟩ := HC.out W hW
            unfold Oper.wp
            simp [go_sem, q]
            try exact hW
          simp only [Act.put, List.setIfInBounds_toArray, List.set_cons_succ, List.set_cons_zero]
          refine SeqV.step (.int .i64 base) (by rfl) (fun W hW => ?_) ?_
          · unfold Oper.wp
            simp [go_sem]
            try exact hW
          simp only [Act.put, List.setIfInBounds_toArray, List.set_cons_succ, List.set_cons_zero]
          refine SeqV.step (.bool false) (by rfl) (fun W hW => ?_) ?_
          · have q := hvb
            unfold Oper.wp
            simp [go_sem, q]
            try exact hW
          simp only [Act.put, List.setIfInBounds_toArray, List.set_cons_succ, List.set_cons_zero]
          refine SeqV.step (.bool false) (by rfl) (fun W hW => ?_) ?_
          · unfold Oper.wp
            simp [go_sem]
            try exact hW
          simp only [Act.put, List.setIfInBounds_toArray, List.set_cons_succ, List.set_cons_zero]
          refine SeqV.step (.bool false) (by rfl) (fun W hW => ?_) ?_
          · unfold Oper.wp
            simp [go_sem]
            try exact hW
          simp only [Act.put, List.setIfInBounds_toArray, List.set_cons_succ, List.set_cons_zero]
          refine SeqV.step (.slice (some ⟨xq, 0, none⟩) N xc) (by rfl) (fun W hW => ?_) ?_
          · unfold Oper.wp
            simp [go_sem]
            try exact hW
          simp only [Act.put, List.setIfInBounds_toArray, List.set_cons_succ, List.set_cons_zero]
          refine SeqV.step (.int .i64 (k : Int)) (by rfl) (fun W hW => ?_) ?_
          · unfold Oper.wp
            simp [go_sem]
            try exact hW
          simp only [Act.put, List.setIfInBounds_toArray, List.set_cons_succ, List.set_cons_zero]
          refine SeqV.step (.pointer (some ⟨xq, k, none⟩)) (by rfl) (fun W hW => ?_) ?_
          · have q := hki
            unfold Oper.wp
            simp [go_sem, q]
            try exact hW
          simp only [Act.put, List.setIfInBounds_toArray, List.set_cons_succ, List.set_cons_zero]
          refine SeqV.step (.slice (some ⟨xr.g, 0, none⟩) ql ql) (by rfl) (fun W hW => ?_) ?_
          · obtain ⟨⟨⟨q, _⟩, _⟩, _⟩ := HC.out W hW
            unfold Oper.wp
            simp [go_sem, q]
            try exact hW
          simp only [Act.put, List.setIfInBounds_toArray, List.set_cons_succ, List.set_cons_zero]
          refine SeqV.step (.int .i64 (j : Int)) (by rfl) (fun W hW => ?_) ?_
          · unfold Oper.wp
            simp [go_sem]
            try exact hW
          simp only [Act.put, List.setIfInBounds_toArray, List.set_cons_succ, List.set_cons_zero]
          refine SeqV.step (.pointer (some ⟨xr.g, j, none⟩)) (by rfl) (fun W hW => ?_) ?_
          · have q := hij
            unfold Oper.wp
            simp [go_sem, q]
            try exact hW
          simp only [Act.put, List.setIfInBounds_toArray, List.set_cons_succ, List.set_cons_zero]
          refine SeqV.step (.int .i64 v) (by rfl) (fun W hW => ?_) ?_
          · obtain ⟨⟨⟨_, q⟩, _⟩, _⟩ := HC.out W hW
            unfold Oper.wp
            simp [go_sem, q]
            try exact hW
          simp only [Act.put, List.setIfInBounds_toArray, List.set_cons_succ, List.set_cons_zero]
          refine SeqV.step (.agg #[.string nm, .int .i64 kd, .int .i64 al, .slice z1 nb d1, .int .i64 sz, .slice z2 nf d2]) (by rfl) (fun W hW => ?_) ?_
          · obtain ⟨⟨_, hs⟩, _⟩ := HC.out W hW
            have q0 := hs.cell 0
            have q1 := hs.cell 1
            have q2 := hs.cell 2
            have q3 := hs.cell 3
            have q4 := hs.cell 4
            have q5 := hs.cell 5
            unfold Oper.wp
            simp [go_sem, q0, q1, q2, q3, q4, q5]
            try exact hW
          simp only [Act.put, List.setIfInBounds_toArray, List.set_cons_succ, List.set_cons_zero]
          refine SeqV.step (.int .i64 (lg : Int)) (by rfl) (fun W hW => ?_) ?_
          · obtain ⟨_, hb, _⟩ := HC.out W hW
            unfold Oper.wp
            simp [go_sem]
            refine (HSZ.out W hb).mono ?_
            rintro e w' ⟨rfl, hb'⟩
            exact ⟨rfl, hW.trans (hb'.mono hW.size)⟩
          simp only [Act.put, List.setIfInBounds_toArray, List.set_cons_succ, List.set_cons_zero]
          refine SeqV.step (.int .i64 (v + (lg : Int))) (by rfl) (fun W hW => ?_) ?_
          · have q := hw1
            unfold Oper.wp
            simp [go_sem, q]
            try exact hW
          simp only [Act.put, List.setIfInBounds_toArray, List.set_cons_succ, List.set_cons_zero]
          refine SeqV.step (.int .i64 E) (by rfl) (fun W hW => ?_) ?_
          · unfold Oper.wp
            simp [go_sem]
            try exact hW
          simp only [Act.put, List.setIfInBounds_toArray, List.set_cons_succ, List.set_cons_zero]
          refine SeqV.step (.bool false) (by rfl) (fun W hW => ?_) ?_
          · have q := hve
            unfold Oper.wp
            simp [go_sem, q]
            try exact hW
          simp only [Act.put, List.setIfInBounds_toArray, List.set_cons_succ, List.set_cons_zero]
          refine SeqV.step (.bool false) (by rfl) (fun W hW => ?_) ?_
          · unfold Oper.wp
            simp [go_sem]
            try exact hW
          simp only [Act.put, List.setIfInBounds_toArray, List.set_cons_succ, List.set_cons_zero]
          intro W3' hW3'
          obtain ⟨⟨_, hS5⟩, hB5, hU5⟩ := HC.out W3' hW3'
          have HS5 := hidden hS5
          have HB5 := hidden hB5
          have HU5 : Hid (Usd W3' w3.heap.size U P base (pksAt Ss k j) A 0 cs) := hU5.start rfl
          clear hW3' HC hS5 hB5 hU5 hrem hal0 hal1 hvb hve hw1
          go_wp2_with fail
          go_loopw [15] (fun i wr => ∃ (t : Nat) (cs : Array Value), i = .int .i64 t ∧ t ≤ lg ∧ Hid (Usd wr w3.heap.size U P base (pksAt Ss k j) A t cs) ∧ Hid (Has wr bx 42 #[.string nm, .int .i64 kd, .int .i64 al, .slice z1 nb d1, .int .i64 sz, .slice z2 nf d2]) ∧ Hid (Below w3.heap.size w3 wr)) (fun i _ => lg - (intOf i).toNat)
          case atStart => exact ⟨0, cs, rfl, Nat.zero_le _, HU5, HS5, HB5⟩
          case round =>
            clear HU5 HS5 HB5
            obtain ⟨t, cs, rfl, ht, hu, hs, hb⟩ := hrel
            have s0 := hs.out.cell 0
            have s1 := hs.out.cell 1
            have s2 := hs.out.cell 2
            have s3 := hs.out.cell 3
            have s4 := hs.out.cell 4
            have s5 := hs.out.cell 5
            have HCA := hidden (HSZ.out wr hb.out)
            by_cases htl : t < lg
            · have hit : (t : Int) < (lg : Int) := by omega
              have HTL := hidden htl
              clear ht htl
              go_wp2_with fail
              refine HCA.out.mono ?_
              clear HCA s0 s1 s2 s3 s4 s5
              rintro e w5 ⟨rfl, hb5⟩
              have hB6 := hb.out.trans (hb5.mono hb.out.size)
              have hU6 := hu.out.only hb5
              have hS6 := hs.out.below hb5 hs.out.lt
              obtain ⟨ex, ev⟩ := HNUM.out w5 hB6
              have eu : w5.cell? ⟨w3.heap.size, A + t, none⟩ = some (.bool false) := (hU6.has.cell _).trans (HFREE.out w5 t cs hU6 HTL.out)
              have fu : w5.frozen? ⟨w3.heap.size, A + t, none⟩ = false := hU6.has.free _
              have HU7 := hidden hU6.put
              have HS7 := hidden (hS6.away (p := ⟨w3.heap.size, A + t, none⟩) (hS6.differ hU6.has (by decide)) (.bool true))
              have HB7 := hidden (hB6.setCell (p := ⟨w3.heap.size, A + t, none⟩) (Nat.le_refl _) (.bool true))
              have hAt : (A : Int) + (t : Int) < (U : Int) := by have := HAU.out; have := HTL.out; omega
              have hsb : IntKind.i64.wrap (v - base) = (A : Int) := by
                have h1 : v - base = (A : Int) := by have := HA.out; omega
                rw [h1]
                exact IntWalk.i64_in _ (by have := HAU.out; omega)
              have hat : IntKind.i64.wrap ((A : Int) + (t : Int)) = (A : Int) + (t : Int) := IntWalk.i64_in _ (by omega)
              clear hu hs hb hb5 hB6 hU6 hS6
              go_wp2_with fail
              go_roundw
              case rel => exact ⟨t + 1, _, by go_num, HTL.out, HU7, HS7, HB7⟩
              case measure => have := HTL.out; simp [intOf]; omega
            · have hit : ¬ (t : Int) < (lg : Int) := by omega
              obtain rfl : t = lg := by omega
              clear ht htl
              go_wp2_with fail
              refine HCA.out.mono ?_
              clear HCA s0 s1 s2 s3 s4 s5
              rintro e w5 ⟨rfl, hb5⟩
              have HU7 := hidden (HNXT.out w5 cs (hu.out.only hb5))
              have HB7 := hidden (hb.out.trans (hb5.mono hb.out.size))
              clear hb5 hu hs hb
              go_wp2_with fail
              go_roundw
              case rel => exact ⟨j + 1, cs, by go_num, HJL.out, HU7, HB7⟩
              case measure => have := HJL.out; simp [intOf]; omega
        · have hij : ¬ (j : Int) < (ql : Int) := by omega
          have HU5 : Hid (Usd wr w3.heap.size U P base (pksAt Ss (k + 1) 0) 0 0 cs) := by
            have := hu.out
            rw [pksAt_all HSS.out (by rw [List.length_map, HQL.out]; omega), ← pksAt_zero] at this
            exact this
          clear hjl hj hu hsec hnum p0
          go_wp2_with fail
          go_roundw
          case rel => exact ⟨k + 1, cs, by go_num, HLT.out, HU5, hb⟩
          case measure => have := HLT.out; simp [intOf]; omega
    · have hki : ¬ (k : Int) < (N : Int) := by omega
      have HFN : Hid (Below w.heap.size w wr) := HF3.out.trans (hb.out.mono HF3.out.size)
      clear hlt hk hu hb
      go_wp2_with fail
      go_ret
      exact ⟨by simp, HFN.out⟩

end Go.Proofs.Ytiocchmlmcoieaa

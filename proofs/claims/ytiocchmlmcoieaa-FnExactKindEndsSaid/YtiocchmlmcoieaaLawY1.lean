/-
  The walks of FnExactPlaceSections and FnExactKindEnds.
-/
import Derived.Test.YtiocchmlmcoieaaLawL1
import Derived.Test.YtiocchmlmcoieaaLayM
import Derived.Test.YtiocchmlmcoieaaLayX
namespace Go.Proofs.Ytiocchmlmcoieaa
open Go.RowKit

theorem partsN_sameY {l l' : List Oj} (h : l'.map Oj.o = l.map Oj.o) : partsN l' = partsN l := by
  have e : ∀ k : List Oj, partsN k = ((k.map Oj.o).map fun o => o.1.length + o.2.length).sum := fun k => by
    unfold partsN
    rw [List.map_map]
    congr 1
    apply List.map_congr_left
    intro y _
    simp [Oj.o]
  rw [e, e, h]
theorem Mk.belowY {w w0 w' : World} {lo hi B : Nat} (h : Below B w0 w) (hm : Mk lo hi w w') (hB : B ≤ lo) (hs : B ≤ w.heap.size) : Below B w0 w' :=
  ⟨hm.os.trans h.os, hm.tape.trans h.tape, hm.output.trans h.output, Nat.le_trans h.size hm.size, fun b hb => (hm.block b (by omega) (.inl (by omega))).trans (h.block b hb)⟩
theorem Rw.mkY {W W' : World} {lo l0 hi : Nat} {v : Value} {l : List Rn} (h : Rw W lo v l) (hm : Mk l0 hi W W') (hl : hi ≤ lo) : Rw W' lo v l := by
  refine ⟨⟨h.row.1, ?_⟩, fun x hx => ⟨(h.vals x hx).1, ?_⟩, h.apart⟩
  · rcases h.row.2 with h0 | ⟨g, cap, cur, h1, h2, h3, h4⟩
    · exact .inl h0
    · exact .inr ⟨g, cap, cur, h1, h2, (hm.block g (Has.lt h3) (.inr (by omega))).trans h3, h4⟩
  · have := (h.vals x hx).1
    exact (hm.block x.g (h.vals x hx).2.lt (.inr (by omega))).trans (h.vals x hx).2
theorem endsL_same {L L' : List Oj} (h : L'.map Oj.o = L.map Oj.o) {base : Int} : endsL L' base = endsL L base := by
  unfold endsL
  rw [(laid_same h base).1, secsOf_same h]
set_option maxRecDepth 100000 in
set_option maxHeartbeats 4000000 in
theorem law_ExactPlaceSections (w : World) (a : Option Addr) (c n : Nat) (L : List Oj) (base : Int) (hn : n = L.length) (h : Objs w w.heap.size a L) (hlen : n ≤ 9223372036854775807) (hf : ∀ y ∈ L, y.fits) (_hb : (Lit.int .i64 base).wf = true) :
    Calls Try.prog 6 #[.slice a n c, .int .i64 base] w fun e w' => e = .returned (.bool true) ∧ Below w.heap.size w w' := by
  have hls : ∀ y ∈ L, y.lens := fun y hy => (hf y hy).lens
  have HSZ := hidden (szObjectSK_any w w.heap.size a c n L hn h (Nat.le_refl _) hlen hls 1048576 (by omega) (by omega))
  have HTO := hidden (fun (W : World) (hB : Below w.heap.size w W) (k1 : n ≤ 1048576) (k2 : ∀ y ∈ L, y.short) => toObjectS_lay W w.heap.size a c n L hn (h.below hB) hB.size k1 k2)
  obtain ⟨P, hP⟩ : ∃ x, (laidL L base).pl = x := ⟨_, rfl⟩
  obtain ⟨N, hN⟩ : ∃ x, P.length = x := ⟨_, rfl⟩
  obtain ⟨E, hE⟩ : ∃ x, (laidL L base).e = x := ⟨_, rfl⟩
  obtain ⟨ok, hok⟩ : ∃ x, layOk L base = x := ⟨_, rfl⟩
  have hX : laidL L base = ⟨P, E⟩ := by rw [← hP, ← hE]
  have HFW := hidden (laid_few L base)
  have HSM := hidden (small_laid L base)
  rw [hP] at HFW HSM
  have HSP : Hid (∀ (W : World) (L' : List Oj) (g : Nat), L'.map Oj.o = L.map Oj.o → Objs W W.heap.size (some ⟨g, 0, none⟩) L' → n ≤ 1048576 → (∀ y ∈ L, y.short) → Calls Try.prog 14 #[.slice (some ⟨g, 0, none⟩) n n, .int .i64 base] W (PlacesE W ⟨P, E⟩ N ok)) := fun W L' g he hO k1 k2 => by
    have := placeSections'_any W W.heap.size (some ⟨g, 0, none⟩) n n L' base (by rw [lengthO_same he]; exact hn) hO (Nat.le_refl _) k1 (shortO_same he k2) N (by rw [(laid_same he base).2, hP]; exact hN)
    rwa [(laid_same he base).1, (laid_same he base).2, hX, hok] at this
  have HIM : Hid (∀ (W : World) (L' : List Oj) (g : Nat), L'.map Oj.o = L.map Oj.o → Objs W W.heap.size (some ⟨g, 0, none⟩) L' → Calls Try.prog 13 #[.slice (some ⟨g, 0, none⟩) n n, .int .i64 base] W (PlacesE W ⟨P, E⟩ N ok)) := fun W L' g he hO => by
    have := placeSections_any W W.heap.size (some ⟨g, 0, none⟩) n n L' base (by rw [lengthO_same he]; exact hn) hO (Nat.le_refl _) hlen (fitsO_same he hf) N (by rw [(laid_same he base).2, hP]; exact hN)
    rwa [(laid_same he base).1, (laid_same he base).2, hX, hok] at this
  have HEQ : Hid (∀ (W : World) (B1 : Nat) (L1 L2 : List Oj) (g1 g2 : Nat), L1.map Oj.o = L.map Oj.o → L2.map Oj.o = L.map Oj.o → B1 ≤ W.heap.size → Objs W B1 (some ⟨g1, 0, none⟩) L1 → Objs W W.heap.size (some ⟨g2, 0, none⟩) L2 → Calls Try.prog 23 #[.slice (some ⟨g1, 0, none⟩) n n, .slice (some ⟨g2, 0, none⟩) n n] W fun e w' => e = .returned (.bool true) ∧ Below W.heap.size W w') := fun W B1 L1 L2 g1 g2 e1 e2 hB h1 h2 =>
    eqObjectS_yes W B1 W.heap.size (some ⟨g1, 0, none⟩) (some ⟨g2, 0, none⟩) n n n L1 L2 (e1.trans e2.symm) (by rw [lengthO_same e1]; exact hn) h1 h2 hB (Nat.le_refl _) hlen (fun y hy => (fitsO_same e1 hf y hy).lens)
  have HRW : Hid (∀ l : List Rn, l.map Rn.r = P → ∀ x ∈ l, x.r.length ≤ 8) := fun l hl x hx => HFW.out.2 x.r (by rw [← hl]; exact List.mem_map_of_mem hx)
  have hN4 : N ≤ 4 := by rw [← hN]; exact HFW.out.1
  have HES : Hid (∀ (W : World) (lo1 lo2 : Nat) (x1 x2 : Option Addr) (d1 d2 : Nat) (l1 l2 : List Rn), Rw W lo1 (.slice x1 N d1) l1 → Rw W lo2 (.slice x2 N d2) l2 → l1.map Rn.r = P → l2.map Rn.r = P → Calls Try.prog 22 #[.slice x1 N d1, .slice x2 N d2] W fun e w' => e = .returned (.bool true) ∧ Below W.heap.size W w') := fun W lo1 lo2 x1 x2 d1 d2 l1 l2 k1 k2 e1 e2 =>
    eqIntSS_yes W lo1 lo2 x1 x2 d1 d2 N l1 l2 k1 k2 (e1.trans e2.symm) (by rw [e1]; exact HSM.out) (by omega) (fun x hx => by have := HRW.out l1 e1 x hx; omega)
  have HMO : Hid (∀ (W W0 : World) (L' : List Oj) (g : Nat) (cs : Array Value), L'.map Oj.o = L.map Oj.o → Has W g 29 cs → FilledO cs n L' → Lay W (g + 1) L' W0.heap.size → n ≤ 1048576 → (∀ y ∈ L, y.short) → partsN L ≤ 1048576 → Calls Try.prog 24 #[.slice (some ⟨g, 0, none⟩) n n, .int .i64 1] W fun e w' => ∃ r : Int, e = .returned (.int .i64 r) ∧ 0 ≤ r ∧ r ≤ 17592186044416 ∧ Mk (g + 1) W0.heap.size W w') := fun W W0 L' g cs he h1 h2 h3 h4 h5 h6 =>
    markObjectS_mk W g W0.heap.size n n L' cs 1 (by rw [lengthO_same he]; exact hn) h1 h2 h3 (shortO_same he h5) (by rw [partsN_sameY he]; exact h6) h4 (by omega) (by omega)
  have HN := hidden hn
  unfold PlacesE at HIM HSP
  dsimp only at HIM HSP
  have hEE : (E != E) = false := by simp
  have hoo : (ok != ok) = false := by simp
  clear hn h hf hls hP hN hE hok hX
  go_enter Try.func6, Try.ntmps6
  go_wp2_with fail
  refine HSZ.out.mono ?_
  clear HSZ
  rintro e w1 ⟨r, rfl, hb1, hr0, hr1, hr2⟩
  by_cases hneg : r < 0
  · clear hr2
    go_wp2_with fail
    go_ret
    exact ⟨rfl, hb1⟩
  obtain ⟨q0, q1, q2⟩ := hr2 (by omega)
  have hn1 : n ≤ 1048576 := by rw [HN.out]; exact q1
  have HSH := hidden q2
  have HPT := hidden q0
  have HT1 := hidden (HTO.out w1 hb1 hn1 q2)
  clear hr2 q0 q1 q2
  go_wp2_with fail
  refine HT1.out.mono ?_
  clear HT1
  rintro e w2 ⟨L2, he2, rfl, hO2, hb2, -, -, -⟩
  obtain ⟨g2, hg2⟩ : ∃ q, w1.heap.size = q := ⟨_, rfl⟩
  have HS2 := hidden (HSP.out w2 L2 w1.heap.size he2 hO2 hn1 HSH.out)
  have HB2 := hidden (hb1.trans (hb2.mono hb1.size))
  rw [hg2] at HS2 ⊢
  clear hO2 he2 hb2 hg2 HSP hb1
  go_wp2_with fail
  refine HS2.out.mono ?_
  clear HS2
  rintro e w3 ⟨va, vc, rfl, ls, hls, -, hR3, hb3⟩
  have HV3 := hidden hR3
  have HLS := hidden hls
  have HB3 := hidden (HB2.out.trans (hb3.mono HB2.out.size))
  have HT3 := hidden (HTO.out w3 HB3.out hn1 HSH.out)
  clear hb3 HB2 hR3 hls
  go_wp2_with fail
  refine HT3.out.mono ?_
  clear HT3
  rintro e w4 ⟨L4, he4, rfl, hO4, hb4, hlay4, ⟨cs4, hcs4, hfo4⟩, _⟩
  have s34 := hb4.size
  have hg34 : w3.heap.size < w4.heap.size := hcs4.lt
  have HI4 := hidden (HIM.out w4 L4 w3.heap.size he4 hO4)
  have HB4 := hidden (HB3.out.trans (hb4.mono HB3.out.size))
  have HQ4 := hidden hb4
  have HBW : Hid (w.heap.size ≤ w3.heap.size) := HB3.out.size
  have HO4 := hidden hO4
  have HE4 := hidden he4
  have HL4 := hidden hlay4
  have HC4 := hidden hcs4
  have HF4 := hidden hfo4
  clear hO4 he4 hb4 HB3 hlay4 hcs4 hfo4
  go_wp2_with fail
  refine HI4.out.mono ?_
  clear HI4
  rintro e w5 ⟨ra, rc, rfl, rs, hrs, -, hR5, hb5⟩
  have HR5 := hidden hR5
  have HRS := hidden hrs
  have HA5 := hidden hb5
  have HB5 := hidden (HB4.out.trans (hb5.mono HB4.out.size))
  have HQ5 := hidden (HQ4.out.trans (hb5.mono s34))
  have HE5 := hidden (HES.out w5 _ _ ra va rc vc rs ls hR5 (HV3.out.only HQ5.out) hrs HLS.out)
  clear hb5 hR5 hrs HB4 HQ4
  go_wp2_with fail
  refine HE5.out.mono ?_
  clear HE5
  rintro e w6 ⟨rfl, hb6⟩
  have HA6 := hidden (HA5.out.trans (hb6.mono HA5.out.size))
  have HB6 := hidden (HB5.out.trans (hb6.mono HB5.out.size))
  have HQ6' := hidden (HQ5.out.trans (hb6.mono (Nat.le_trans s34 HA5.out.size)))
  have HR6' := hidden (HR5.out.only hb6)
  have HT6 := hidden (HTO.out w6 HB6.out hn1 HSH.out)
  clear hb6 HA5 HB5 HQ5 HR5
  go_wp2_with fail
  refine HT6.out.mono ?_
  clear HT6
  rintro e w7 ⟨L6, he6, rfl, hO6, hb7, -, -, -⟩
  have hs46 : w4.heap.size ≤ w6.heap.size := HA6.out.size
  have HA7 := hidden (HA6.out.trans (hb7.mono hs46))
  have HQ6 := hidden (HEQ.out w7 w4.heap.size L4 L6 w3.heap.size w6.heap.size HE4.out he6 (Nat.le_trans hs46 hb7.size) (HO4.out.below HA7.out) hO6)
  obtain ⟨g6, hg6⟩ : ∃ q, w6.heap.size = q := ⟨_, rfl⟩
  have HB7 := hidden (HB6.out.trans (hb7.mono HB6.out.size))
  have HQ7 := hidden (HQ6'.out.trans (hb7.mono (Nat.le_trans s34 hs46)))
  have HR7 := hidden (HR6'.out.only hb7)
  rw [hg6] at HQ6 ⊢
  clear hO6 he6 hb7 hg6 HB6 HEQ HA6 HQ6' HR6' hs46 HO4
  go_wp2_with fail
  refine HQ6.out.mono ?_
  clear HQ6
  rintro e w8 ⟨rfl, hb8⟩
  have hA8 := HA7.out.trans (hb8.mono HA7.out.size)
  have HB8 := hidden (HB7.out.trans (hb8.mono HB7.out.size))
  have HQ8 := hidden (HQ7.out.trans (hb8.mono (Nat.le_trans s34 HA7.out.size)))
  have HR8 := hidden (HR7.out.only hb8)
  have HM8 := hidden (HMO.out w8 w4 L4 w3.heap.size cs4 HE4.out (HC4.out.below hA8 HC4.out.lt) HF4.out (Lay.below hA8 HL4.out) hn1 HSH.out HPT.out)
  have h48 : w4.heap.size ≤ w8.heap.size := hA8.size
  clear hb8 hA8 HA7 HB7 HQ7 HR7 HMO HL4 HC4 HF4 HE4
  go_wp2_with fail
  refine HM8.out.mono ?_
  clear HM8
  rintro e w9 ⟨r9, rfl, hr90, hr91, hmk9⟩
  have HQ9 := hidden (Mk.belowY HQ8.out hmk9 (by omega) (by omega))
  have HR9 := hidden (HR8.out.mkY hmk9 (Nat.le_refl _))
  have HB9 := hidden (Mk.belowY HB8.out hmk9 (by have := HBW.out; omega) HB8.out.size)
  have h49 : w4.heap.size ≤ w9.heap.size := Nat.le_trans h48 hmk9.size
  have HE9 := hidden (HES.out w9 _ _ ra va rc vc rs ls HR9.out (HV3.out.only HQ9.out) HRS.out HLS.out)
  have hr9 : ¬ r9 < 0 := by omega
  have hr9d : decide (r9 < 0) = false := by simp [hr9]
  clear hmk9 HB8 HQ8 HR8 h48
  go_wp2_with fail
  refine HE9.out.mono ?_
  clear HE9
  rintro e w10 ⟨rfl, hb10⟩
  have HB10 := hidden (HB9.out.trans (hb10.mono HB9.out.size))
  have HQ10 := hidden (HQ9.out.trans (hb10.mono (by omega)))
  have HR10 := hidden (HR9.out.only hb10)
  have h410 : w4.heap.size ≤ w10.heap.size := Nat.le_trans h49 hb10.size
  have HMR := hidden (markIntSS_any w10 w4.heap.size N rc ra rs 1 HR10.out h410 (by omega) (by omega) (by omega) (HRW.out rs HRS.out))
  have hst := startR_few (HRW.out rs HRS.out) N
  obtain ⟨SR, hSR⟩ : ∃ q, startR rs N = q := ⟨_, rfl⟩
  have HSR := hidden hSR
  rw [hSR] at HMR hst
  clear hb10 HB9 HQ9 HR9 h49 hSR
  go_wp2_with fail
  refine HMR.out.mono ?_
  clear HMR
  rintro e w11 ⟨rfl, hrm, hmk⟩
  have HQ11 := hidden (HQ10.out.trans (hmk.mono (by omega)))
  have HB11 := hidden (HB10.out.trans (hmk.mono (by have := HBW.out; omega)))
  have h411 : w4.heap.size ≤ w11.heap.size := Nat.le_trans h410 hmk.size
  have HHR := hidden (heldIntSS_any w11 w4.heap.size N rc ra rs 1 hrm HR10.out.len (by omega) (by omega) (by omega) (HRW.out rs HRS.out))
  rw [HSR.out] at HHR
  have HRL := hidden HR10.out.len
  have HRM := hidden hrm
  have hnn : ¬ (1 + (SR : Int)) < 0 := by omega
  clear hmk hrm HB10 HQ10 HR10 h410
  go_wp2_with fail
  refine HHR.out.mono ?_
  clear HHR
  rintro e w12 ⟨rfl, rfl⟩
  have HT12 := hidden (HTO.out w11 HB11.out hn1 HSH.out)
  clear HTO
  go_wp2_with fail
  refine HT12.out.mono ?_
  clear HT12
  rintro e w13 ⟨L7, he7, rfl, hO7, hb13, -, -, -⟩
  obtain ⟨g7, hg7⟩ : ∃ q, w11.heap.size = q := ⟨_, rfl⟩
  have HI13 := hidden (HIM.out w13 L7 w11.heap.size he7 hO7)
  have HB13 := hidden (HB11.out.trans (hb13.mono HB11.out.size))
  have HQ13 := hidden (HQ11.out.trans (hb13.mono (by omega)))
  have HRM13 := hidden (HRM.out.only hb13)
  have h413 : w4.heap.size ≤ w13.heap.size := Nat.le_trans h411 hb13.size
  rw [hg7] at HI13 ⊢
  clear hO7 he7 hb13 hg7 HB11 HQ11 HRM h411 HIM
  go_wp2_with fail
  refine HI13.out.mono ?_
  clear HI13
  rintro e w14 ⟨ha, hc, rfl, hs, hhs, -, hR14, hb14⟩
  have HB14 := hidden (HB13.out.trans (hb14.mono HB13.out.size))
  have HQ14 := hidden (HQ13.out.trans (hb14.mono (by omega)))
  have HRM14 := hidden (HRM13.out.only hb14)
  have HE14 := hidden (HES.out w14 _ _ ha va hc vc hs ls hR14 (HV3.out.only HQ14.out) hhs HLS.out)
  clear hb14 hR14 hhs HB13 HQ13 HRM13
  go_wp2_with fail
  refine HE14.out.mono ?_
  clear HE14
  rintro e w15 ⟨rfl, hb15⟩
  have HB15 := hidden (HB14.out.trans (hb15.mono HB14.out.size))
  have HRM15 := hidden (HRM14.out.only hb15)
  have HH15 := hidden (heldIntSS_any w15 w4.heap.size N rc ra rs 1 HRM15.out HRL.out (by omega) (by omega) (by omega) (HRW.out rs HRS.out))
  rw [HSR.out] at HH15
  clear hb15 HB14 HRM14 HQ14 HES HV3 HRM15
  go_wp2_with fail
  refine HH15.out.mono ?_
  clear HH15
  rintro e w16 ⟨rfl, rfl⟩
  go_wp2_with fail
  go_ret
  exact ⟨rfl, HB15.out⟩
set_option maxRecDepth 100000 in
set_option maxHeartbeats 4000000 in
theorem law_ExactKindEnds (w : World) (a : Option Addr) (c n : Nat) (L : List Oj) (base : Int) (hn : n = L.length) (h : Objs w w.heap.size a L) (hlen : n ≤ 9223372036854775807) (hf : ∀ y ∈ L, y.fits) (_hb : (Lit.int .i64 base).wf = true) :
    Calls Try.prog 7 #[.slice a n c, .int .i64 base] w fun e w' => e = .returned (.bool true) ∧ Below w.heap.size w w' := by
  have hls : ∀ y ∈ L, y.lens := fun y hy => (hf y hy).lens
  have HSZ := hidden (szObjectSK_any w w.heap.size a c n L hn h (Nat.le_refl _) hlen hls 1048576 (by omega) (by omega))
  have HTO := hidden (fun (W : World) (hB : Below w.heap.size w W) (k1 : n ≤ 1048576) (k2 : ∀ y ∈ L, y.short) => toObjectS_lay W w.heap.size a c n L hn (h.below hB) hB.size k1 k2)
  obtain ⟨P, hP⟩ : ∃ x, endsL L base = x := ⟨_, rfl⟩
  obtain ⟨N, hN⟩ : ∃ x, P.length = x := ⟨_, rfl⟩
  have HFW := hidden (ends_few L base)
  have HSM := hidden (small_ends L base)
  rw [hP] at HFW HSM
  have HSP : Hid (∀ (W : World) (L' : List Oj) (g : Nat), L'.map Oj.o = L.map Oj.o → Objs W W.heap.size (some ⟨g, 0, none⟩) L' → n ≤ 1048576 → (∀ y ∈ L, y.short) → Calls Try.prog 19 #[.slice (some ⟨g, 0, none⟩) n n, .int .i64 base] W (RowsE W P N)) := fun W L' g he hO k1 k2 => by
    have := kindEnds'_any W W.heap.size (some ⟨g, 0, none⟩) n n L' base (by rw [lengthO_same he]; exact hn) hO (Nat.le_refl _) k1 (shortO_same he k2) N (by rw [endsL_same he, hP]; exact hN)
    rwa [endsL_same he, hP] at this
  have HIM : Hid (∀ (W : World) (L' : List Oj) (g : Nat), L'.map Oj.o = L.map Oj.o → Objs W W.heap.size (some ⟨g, 0, none⟩) L' → Calls Try.prog 18 #[.slice (some ⟨g, 0, none⟩) n n, .int .i64 base] W (RowsE W P N)) := fun W L' g he hO => by
    have := kindEnds_any W W.heap.size (some ⟨g, 0, none⟩) n n L' base (by rw [lengthO_same he]; exact hn) hO (Nat.le_refl _) hlen (fitsO_same he hf) N (by rw [endsL_same he, hP]; exact hN)
    rwa [endsL_same he, hP] at this
  have HEQ : Hid (∀ (W : World) (B1 : Nat) (L1 L2 : List Oj) (g1 g2 : Nat), L1.map Oj.o = L.map Oj.o → L2.map Oj.o = L.map Oj.o → B1 ≤ W.heap.size → Objs W B1 (some ⟨g1, 0, none⟩) L1 → Objs W W.heap.size (some ⟨g2, 0, none⟩) L2 → Calls Try.prog 23 #[.slice (some ⟨g1, 0, none⟩) n n, .slice (some ⟨g2, 0, none⟩) n n] W fun e w' => e = .returned (.bool true) ∧ Below W.heap.size W w') := fun W B1 L1 L2 g1 g2 e1 e2 hB h1 h2 =>
    eqObjectS_yes W B1 W.heap.size (some ⟨g1, 0, none⟩) (some ⟨g2, 0, none⟩) n n n L1 L2 (e1.trans e2.symm) (by rw [lengthO_same e1]; exact hn) h1 h2 hB (Nat.le_refl _) hlen (fun y hy => (fitsO_same e1 hf y hy).lens)
  have HRW : Hid (∀ l : List Rn, l.map Rn.r = P → ∀ x ∈ l, x.r.length ≤ 8) := fun l hl x hx => HFW.out.2 x.r (by rw [← hl]; exact List.mem_map_of_mem hx)
  have hN4 : N ≤ 4 := by rw [← hN]; exact HFW.out.1
  have HES : Hid (∀ (W : World) (lo1 lo2 : Nat) (x1 x2 : Option Addr) (d1 d2 : Nat) (l1 l2 : List Rn), Rw W lo1 (.slice x1 N d1) l1 → Rw W lo2 (.slice x2 N d2) l2 → l1.map Rn.r = P → l2.map Rn.r = P → Calls Try.prog 22 #[.slice x1 N d1, .slice x2 N d2] W fun e w' => e = .returned (.bool true) ∧ Below W.heap.size W w') := fun W lo1 lo2 x1 x2 d1 d2 l1 l2 k1 k2 e1 e2 =>
    eqIntSS_yes W lo1 lo2 x1 x2 d1 d2 N l1 l2 k1 k2 (e1.trans e2.symm) (by rw [e1]; exact HSM.out) (by omega) (fun x hx => by have := HRW.out l1 e1 x hx; omega)
  have HMO : Hid (∀ (W W0 : World) (L' : List Oj) (g : Nat) (cs : Array Value), L'.map Oj.o = L.map Oj.o → Has W g 29 cs → FilledO cs n L' → Lay W (g + 1) L' W0.heap.size → n ≤ 1048576 → (∀ y ∈ L, y.short) → partsN L ≤ 1048576 → Calls Try.prog 24 #[.slice (some ⟨g, 0, none⟩) n n, .int .i64 1] W fun e w' => ∃ r : Int, e = .returned (.int .i64 r) ∧ 0 ≤ r ∧ r ≤ 17592186044416 ∧ Mk (g + 1) W0.heap.size W w') := fun W W0 L' g cs he h1 h2 h3 h4 h5 h6 =>
    markObjectS_mk W g W0.heap.size n n L' cs 1 (by rw [lengthO_same he]; exact hn) h1 h2 h3 (shortO_same he h5) (by rw [partsN_sameY he]; exact h6) h4 (by omega) (by omega)
  have HN := hidden hn
  unfold RowsE at HIM HSP
  clear hn h hf hls hP hN
  go_enter Try.func7, Try.ntmps7
  go_wp2_with fail
  refine HSZ.out.mono ?_
  clear HSZ
  rintro e w1 ⟨r, rfl, hb1, hr0, hr1, hr2⟩
  by_cases hneg : r < 0
  · clear hr2
    go_wp2_with fail
    go_ret
    exact ⟨rfl, hb1⟩
  obtain ⟨q0, q1, q2⟩ := hr2 (by omega)
  have hn1 : n ≤ 1048576 := by rw [HN.out]; exact q1
  have HSH := hidden q2
  have HPT := hidden q0
  have HT1 := hidden (HTO.out w1 hb1 hn1 q2)
  clear hr2 q0 q1 q2
  go_wp2_with fail
  refine HT1.out.mono ?_
  clear HT1
  rintro e w2 ⟨L2, he2, rfl, hO2, hb2, -, -, -⟩
  obtain ⟨g2, hg2⟩ : ∃ q, w1.heap.size = q := ⟨_, rfl⟩
  have HS2 := hidden (HSP.out w2 L2 w1.heap.size he2 hO2 hn1 HSH.out)
  have HB2 := hidden (hb1.trans (hb2.mono hb1.size))
  rw [hg2] at HS2 ⊢
  clear hO2 he2 hb2 hg2 HSP hb1
  go_wp2_with fail
  refine HS2.out.mono ?_
  clear HS2
  rintro e w3 ⟨va, vc, rfl, ls, hls, -, hR3, hb3⟩
  have HV3 := hidden hR3
  have HLS := hidden hls
  have HB3 := hidden (HB2.out.trans (hb3.mono HB2.out.size))
  have HT3 := hidden (HTO.out w3 HB3.out hn1 HSH.out)
  clear hb3 HB2 hR3 hls
  go_wp2_with fail
  refine HT3.out.mono ?_
  clear HT3
  rintro e w4 ⟨L4, he4, rfl, hO4, hb4, hlay4, ⟨cs4, hcs4, hfo4⟩, _⟩
  have s34 := hb4.size
  have hg34 : w3.heap.size < w4.heap.size := hcs4.lt
  have HI4 := hidden (HIM.out w4 L4 w3.heap.size he4 hO4)
  have HB4 := hidden (HB3.out.trans (hb4.mono HB3.out.size))
  have HQ4 := hidden hb4
  have HBW : Hid (w.heap.size ≤ w3.heap.size) := HB3.out.size
  have HO4 := hidden hO4
  have HE4 := hidden he4
  have HL4 := hidden hlay4
  have HC4 := hidden hcs4
  have HF4 := hidden hfo4
  clear hO4 he4 hb4 HB3 hlay4 hcs4 hfo4
  go_wp2_with fail
  refine HI4.out.mono ?_
  clear HI4
  rintro e w5 ⟨ra, rc, rfl, rs, hrs, -, hR5, hb5⟩
  have HR5 := hidden hR5
  have HRS := hidden hrs
  have HA5 := hidden hb5
  have HB5 := hidden (HB4.out.trans (hb5.mono HB4.out.size))
  have HQ5 := hidden (HQ4.out.trans (hb5.mono s34))
  have HE5 := hidden (HES.out w5 _ _ ra va rc vc rs ls hR5 (HV3.out.only HQ5.out) hrs HLS.out)
  clear hb5 hR5 hrs HB4 HQ4
  go_wp2_with fail
  refine HE5.out.mono ?_
  clear HE5
  rintro e w6 ⟨rfl, hb6⟩
  have HA6 := hidden (HA5.out.trans (hb6.mono HA5.out.size))
  have HB6 := hidden (HB5.out.trans (hb6.mono HB5.out.size))
  have HQ6' := hidden (HQ5.out.trans (hb6.mono (Nat.le_trans s34 HA5.out.size)))
  have HR6' := hidden (HR5.out.only hb6)
  have HT6 := hidden (HTO.out w6 HB6.out hn1 HSH.out)
  clear hb6 HA5 HB5 HQ5 HR5
  go_wp2_with fail
  refine HT6.out.mono ?_
  clear HT6
  rintro e w7 ⟨L6, he6, rfl, hO6, hb7, -, -, -⟩
  have hs46 : w4.heap.size ≤ w6.heap.size := HA6.out.size
  have HA7 := hidden (HA6.out.trans (hb7.mono hs46))
  have HQ6 := hidden (HEQ.out w7 w4.heap.size L4 L6 w3.heap.size w6.heap.size HE4.out he6 (Nat.le_trans hs46 hb7.size) (HO4.out.below HA7.out) hO6)
  obtain ⟨g6, hg6⟩ : ∃ q, w6.heap.size = q := ⟨_, rfl⟩
  have HB7 := hidden (HB6.out.trans (hb7.mono HB6.out.size))
  have HQ7 := hidden (HQ6'.out.trans (hb7.mono (Nat.le_trans s34 hs46)))
  have HR7 := hidden (HR6'.out.only hb7)
  rw [hg6] at HQ6 ⊢
  clear hO6 he6 hb7 hg6 HB6 HEQ HA6 HQ6' HR6' hs46 HO4
  go_wp2_with fail
  refine HQ6.out.mono ?_
  clear HQ6
  rintro e w8 ⟨rfl, hb8⟩
  have hA8 := HA7.out.trans (hb8.mono HA7.out.size)
  have HB8 := hidden (HB7.out.trans (hb8.mono HB7.out.size))
  have HQ8 := hidden (HQ7.out.trans (hb8.mono (Nat.le_trans s34 HA7.out.size)))
  have HR8 := hidden (HR7.out.only hb8)
  have HM8 := hidden (HMO.out w8 w4 L4 w3.heap.size cs4 HE4.out (HC4.out.below hA8 HC4.out.lt) HF4.out (Lay.below hA8 HL4.out) hn1 HSH.out HPT.out)
  have h48 : w4.heap.size ≤ w8.heap.size := hA8.size
  clear hb8 hA8 HA7 HB7 HQ7 HR7 HMO HL4 HC4 HF4 HE4
  go_wp2_with fail
  refine HM8.out.mono ?_
  clear HM8
  rintro e w9 ⟨r9, rfl, hr90, hr91, hmk9⟩
  have HQ9 := hidden (Mk.belowY HQ8.out hmk9 (by omega) (by omega))
  have HR9 := hidden (HR8.out.mkY hmk9 (Nat.le_refl _))
  have HB9 := hidden (Mk.belowY HB8.out hmk9 (by have := HBW.out; omega) HB8.out.size)
  have h49 : w4.heap.size ≤ w9.heap.size := Nat.le_trans h48 hmk9.size
  have HE9 := hidden (HES.out w9 _ _ ra va rc vc rs ls HR9.out (HV3.out.only HQ9.out) HRS.out HLS.out)
  have hr9 : ¬ r9 < 0 := by omega
  have hr9d : decide (r9 < 0) = false := by simp [hr9]
  clear hmk9 HB8 HQ8 HR8 h48
  go_wp2_with fail
  refine HE9.out.mono ?_
  clear HE9
  rintro e w10 ⟨rfl, hb10⟩
  have HB10 := hidden (HB9.out.trans (hb10.mono HB9.out.size))
  have HQ10 := hidden (HQ9.out.trans (hb10.mono (by omega)))
  have HR10 := hidden (HR9.out.only hb10)
  have h410 : w4.heap.size ≤ w10.heap.size := Nat.le_trans h49 hb10.size
  have HMR := hidden (markIntSS_any w10 w4.heap.size N rc ra rs 1 HR10.out h410 (by omega) (by omega) (by omega) (HRW.out rs HRS.out))
  have hst := startR_few (HRW.out rs HRS.out) N
  obtain ⟨SR, hSR⟩ : ∃ q, startR rs N = q := ⟨_, rfl⟩
  have HSR := hidden hSR
  rw [hSR] at HMR hst
  clear hb10 HB9 HQ9 HR9 h49 hSR
  go_wp2_with fail
  refine HMR.out.mono ?_
  clear HMR
  rintro e w11 ⟨rfl, hrm, hmk⟩
  have HQ11 := hidden (HQ10.out.trans (hmk.mono (by omega)))
  have HB11 := hidden (HB10.out.trans (hmk.mono (by have := HBW.out; omega)))
  have h411 : w4.heap.size ≤ w11.heap.size := Nat.le_trans h410 hmk.size
  have HHR := hidden (heldIntSS_any w11 w4.heap.size N rc ra rs 1 hrm HR10.out.len (by omega) (by omega) (by omega) (HRW.out rs HRS.out))
  rw [HSR.out] at HHR
  have HRL := hidden HR10.out.len
  have HRM := hidden hrm
  have hnn : ¬ (1 + (SR : Int)) < 0 := by omega
  clear hmk hrm HB10 HQ10 HR10 h410
  go_wp2_with fail
  refine HHR.out.mono ?_
  clear HHR
  rintro e w12 ⟨rfl, rfl⟩
  have HT12 := hidden (HTO.out w11 HB11.out hn1 HSH.out)
  clear HTO
  go_wp2_with fail
  refine HT12.out.mono ?_
  clear HT12
  rintro e w13 ⟨L7, he7, rfl, hO7, hb13, -, -, -⟩
  obtain ⟨g7, hg7⟩ : ∃ q, w11.heap.size = q := ⟨_, rfl⟩
  have HI13 := hidden (HIM.out w13 L7 w11.heap.size he7 hO7)
  have HB13 := hidden (HB11.out.trans (hb13.mono HB11.out.size))
  have HQ13 := hidden (HQ11.out.trans (hb13.mono (by omega)))
  have HRM13 := hidden (HRM.out.only hb13)
  have h413 : w4.heap.size ≤ w13.heap.size := Nat.le_trans h411 hb13.size
  rw [hg7] at HI13 ⊢
  clear hO7 he7 hb13 hg7 HB11 HQ11 HRM h411 HIM
  go_wp2_with fail
  refine HI13.out.mono ?_
  clear HI13
  rintro e w14 ⟨ha, hc, rfl, hs, hhs, -, hR14, hb14⟩
  have HB14 := hidden (HB13.out.trans (hb14.mono HB13.out.size))
  have HQ14 := hidden (HQ13.out.trans (hb14.mono (by omega)))
  have HRM14 := hidden (HRM13.out.only hb14)
  have HE14 := hidden (HES.out w14 _ _ ha va hc vc hs ls hR14 (HV3.out.only HQ14.out) hhs HLS.out)
  clear hb14 hR14 hhs HB13 HQ13 HRM13
  go_wp2_with fail
  refine HE14.out.mono ?_
  clear HE14
  rintro e w15 ⟨rfl, hb15⟩
  have HB15 := hidden (HB14.out.trans (hb15.mono HB14.out.size))
  have HRM15 := hidden (HRM14.out.only hb15)
  have HH15 := hidden (heldIntSS_any w15 w4.heap.size N rc ra rs 1 HRM15.out HRL.out (by omega) (by omega) (by omega) (HRW.out rs HRS.out))
  rw [HSR.out] at HH15
  clear hb15 HB14 HRM14 HQ14 HES HV3 HRM15
  go_wp2_with fail
  refine HH15.out.mono ?_
  clear HH15
  rintro e w16 ⟨rfl, rfl⟩
  go_wp2_with fail
  go_ret
  exact ⟨rfl, HB15.out⟩

end Go.Proofs.Ytiocchmlmcoieaa

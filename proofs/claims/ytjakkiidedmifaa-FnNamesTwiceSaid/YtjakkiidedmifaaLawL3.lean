/-
  The walks of FnExactNamesTwice and FnExactNamesMissing.
-/
import Derived.Test.YtjakkiidedmifaaLawL1
import Derived.Test.YtjakkiidedmifaaLnkN
import Derived.Test.YtjakkiidedmifaaLnkM
import Derived.Test.YtjakkiidedmifaaMarkL
namespace Go.Proofs.Ytjakkiidedmifaa
open Go.RowKit

theorem row_of_own {W : World} {lo n c : Nat} {a : Option Addr} {S : List ByteArray} (hn : n = S.length) (h : W.ownsRow lo 9 1 (.slice a n c) n (S.map Value.string)) : RowS W lo a S := fun hp => by
  subst hn
  rcases h.2 with ⟨_, h0⟩ | ⟨g, cap, cur, e, hb, hh, h1, _, h3, hx⟩
  · omega
  · injection e with e1
    refine ⟨g, cur, e1, hb, hh, by omega, fun i s hi => ?_⟩
    have hil : i < S.length := by
      rcases Nat.lt_or_ge i S.length with q | q
      · exact q
      · rw [List.getElem?_eq_none q] at hi; cases hi
    have h4 := congrArg (fun l : List Value => l[i]?) hx
    simp only [List.getElem?_take, List.getElem?_map, hi, Option.map_some] at h4
    rw [if_pos (by omega), Array.getElem?_toList] at h4
    exact h4
theorem Mk.belowL {w w0 w' : World} {lo hi B : Nat} (h : Below B w0 w) (hm : Mk lo hi w w') (hB : B ≤ lo) (hs : B ≤ w.heap.size) : Below B w0 w' :=
  ⟨hm.os.trans h.os, hm.tape.trans h.tape, hm.output.trans h.output, Nat.le_trans h.size hm.size, fun b hb => (hm.block b (by omega) (.inl (by omega))).trans (h.block b hb)⟩
theorem Vals.mkL {w w' : World} {lo hi B : Nat} {a : Option Addr} {vs : List Value} (h : Vals w B a vs) (hm : Mk lo hi w w') (hB : B ≤ lo) (hBw : B ≤ w.heap.size) : Vals w' B a vs := h.keep fun p hp => hm.cell (by omega) (.inl (by omega))
theorem RowS.mkL {w w' : World} {lo hi l0 : Nat} {a : Option Addr} {S : List ByteArray} (h : RowS w lo a S) (hm : Mk l0 hi w w') (hB : hi ≤ lo) : RowS w' lo a S := fun hn => by
  obtain ⟨g, cs, h1, h2, h3, h4, h5⟩ := h hn
  exact ⟨g, cs, h1, h2, h3.mkL hm (.inr (by omega)), h4, h5⟩
theorem shortO_same {l l' : List Oj} (h : l'.map Oj.o = l.map Oj.o) (hs : ∀ y ∈ l, y.short) : ∀ y ∈ l', y.short := fun y hy => by
  have hm : y.o ∈ l.map Oj.o := by rw [← h]; exact List.mem_map_of_mem hy
  obtain ⟨z, hz, e⟩ := List.mem_map.1 hm
  have e1 : z.l.map Sp.s = y.l.map Sp.s := congrArg Prod.fst e
  have e2 : z.ms = y.ms := congrArg Prod.snd e
  obtain ⟨⟨q1, q2⟩, q3, q4⟩ := hs z hz
  have e3 := congrArg List.length e1
  rw [List.length_map, List.length_map] at e3
  refine ⟨⟨by omega, fun u hu => ?_⟩, by rw [← e2]; exact q3, by rw [← e2]; exact q4⟩
  have hu2 : u.s ∈ z.l.map Sp.s := by rw [e1]; exact List.mem_map_of_mem hu
  obtain ⟨v, hv, e4⟩ := List.mem_map.1 hu2
  rw [← e4]; exact q2 v hv
theorem partsN_same {l l' : List Oj} (h : l'.map Oj.o = l.map Oj.o) : partsN l' = partsN l := by
  have e : ∀ k : List Oj, partsN k = ((k.map Oj.o).map fun o => o.1.length + o.2.length).sum := fun k => by
    unfold partsN
    rw [List.map_map]
    congr 1
    apply List.map_congr_left
    intro y _
    simp [Oj.o]
  rw [e, e, h]
theorem pickA_few {q : Use → Bool} {L : List (List Sx × List Sm)} : (pickA q L).length ≤ 1048576 := by
  unfold pickA
  split
  · rename_i hv
    obtain ⟨h1, h2⟩ := validA_parts hv
    refine Nat.le_trans (List.length_filter_le _ _) (Nat.le_trans (fold_length _ _) ?_)
    unfold namesP itemsA itemsUp
    rw [List.length_map, List.length_flatMap]
    have hle : ∀ k ∈ List.range L.length, (itemsOf k ((L.map Prod.snd).getD k [])).length ≤ 12 := fun k hk => by
      rw [itemsOf_length]
      have hkl := List.mem_range.1 hk
      rw [List.getD_eq_getElem?_getD, List.getElem?_map, List.getElem?_eq_getElem hkl]
      exact (okSyms (h2 _ (List.getElem_mem hkl))).2.2.2
    have hsum : ∀ (l : List Nat) (f : Nat → Nat), (∀ k ∈ l, f k ≤ 12) → (l.map f).sum ≤ 12 * l.length := by
      intro l f hf
      induction l with
      | nil => simp
      | cons x r ih =>
        have e1 := hf x (by simp)
        have e2 := ih (fun k hk => hf k (by simp [hk]))
        simp only [List.map_cons, List.sum_cons, List.length_cons]
        omega
    have h3 := hsum (List.range L.length) (fun k => (itemsOf k ((L.map Prod.snd).getD k [])).length) hle
    rw [List.length_range] at h3
    simp only [List.length_nil]
    omega
  · simp
set_option maxRecDepth 100000 in
set_option maxHeartbeats 4000000 in
theorem law_ExactNamesTwice (w : World) (a : Option Addr) (c n : Nat) (L : List Oj) (hn : n = L.length) (h : Objs w w.heap.size a L) (hlen : n ≤ 9223372036854775807) (hf : ∀ y ∈ L, y.fits) :
    Calls Try.prog 10 #[.slice a n c] w fun e w' => e = .returned (.bool true) ∧ Below w.heap.size w w' := by
  have hls : ∀ y ∈ L, y.lens := fun y hy => (hf y hy).lens
  have HSZ := hidden (szObjectSK_any w w.heap.size a c n L hn h (Nat.le_refl _) hlen hls 1048576 (by omega) (by omega))
  have HTO := hidden (fun (W : World) (hB : Below w.heap.size w W) (k1 : n ≤ 1048576) (k2 : ∀ y ∈ L, y.short) => toObjectS_lay W w.heap.size a c n L hn (h.below hB) hB.size k1 k2)
  obtain ⟨R, hR⟩ : ∃ x, pickA isTwice (L.map Oj.o) = x := ⟨_, rfl⟩
  have HR6 : Hid (R.length ≤ 1048576) := by show _ ≤ _; rw [← hR]; exact pickA_few
  have HSP : Hid (∀ (W : World) (L' : List Oj) (g : Nat), L'.map Oj.o = L.map Oj.o → Objs W W.heap.size (some ⟨g, 0, none⟩) L' → Calls Try.prog 26 #[.slice (some ⟨g, 0, none⟩) n n] W (Named W R)) := fun W L' g he hO => by
    have := namesTwice'_any W W.heap.size (some ⟨g, 0, none⟩) n n L' (by rw [lengthO_same he]; exact hn) hO (Nat.le_refl _) hlen (fitsO_same he hf)
    rwa [he, hR] at this
  have HIM : Hid (∀ (W : World) (L' : List Oj) (g : Nat), L'.map Oj.o = L.map Oj.o → Objs W W.heap.size (some ⟨g, 0, none⟩) L' → Calls Try.prog 25 #[.slice (some ⟨g, 0, none⟩) n n] W (AnsT W R)) := fun W L' g he hO => by
    have := namesTwice_any W W.heap.size (some ⟨g, 0, none⟩) n n L' (by rw [lengthO_same he]; exact hn) hO (Nat.le_refl _) hlen (fitsO_same he hf)
    rwa [he, hR] at this
  have HEQ : Hid (∀ (W : World) (B1 : Nat) (L1 L2 : List Oj) (g1 g2 : Nat), L1.map Oj.o = L.map Oj.o → L2.map Oj.o = L.map Oj.o → B1 ≤ W.heap.size → Objs W B1 (some ⟨g1, 0, none⟩) L1 → Objs W W.heap.size (some ⟨g2, 0, none⟩) L2 → Calls Try.prog 33 #[.slice (some ⟨g1, 0, none⟩) n n, .slice (some ⟨g2, 0, none⟩) n n] W fun e w' => e = .returned (.bool true) ∧ Below W.heap.size W w') := fun W B1 L1 L2 g1 g2 e1 e2 hB h1 h2 =>
    eqObjectS_yes W B1 W.heap.size (some ⟨g1, 0, none⟩) (some ⟨g2, 0, none⟩) n n n L1 L2 (e1.trans e2.symm) (by rw [lengthO_same e1]; exact hn) h1 h2 hB (Nat.le_refl _) hlen (fun y hy => (fitsO_same e1 hf y hy).lens)
  obtain ⟨q, hq⟩ : ∃ q, R.length = q := ⟨_, rfl⟩
  rw [hq] at HR6
  have HES : Hid (∀ (W : World) (B1 B2 : Nat) (x1 x2 : Option Addr) (d1 d2 : Nat), Vals W B1 x1 (R.map Value.string) → Vals W B2 x2 (R.map Value.string) → Calls Try.prog 35 #[.slice x1 q d1, .slice x2 q d2] W fun e w' => e = .returned (.bool true) ∧ Below W.heap.size W w') := fun W B1 B2 x1 x2 d1 d2 k1 k2 =>
    (eqStringS_yes W B1 B2 x1 x2 d1 d2 q R hq.symm k1 k2 (by have := HR6.out; omega)).mono fun e w' ⟨he, n, hn⟩ => ⟨he, by rw [hn]; exact below_drewN (Below.refl _ _) n⟩
  have HMO : Hid (∀ (W W0 : World) (L' : List Oj) (g : Nat) (cs : Array Value), L'.map Oj.o = L.map Oj.o → Has W g 26 cs → FilledO cs n L' → Lay W (g + 1) L' W0.heap.size → n ≤ 1048576 → (∀ y ∈ L, y.short) → partsN L ≤ 1048576 → Calls Try.prog 36 #[.slice (some ⟨g, 0, none⟩) n n, .int .i64 1] W fun e w' => ∃ r : Int, e = .returned (.int .i64 r) ∧ 0 ≤ r ∧ r ≤ 17592186044416 ∧ Mk (g + 1) W0.heap.size W w') := fun W W0 L' g cs he h1 h2 h3 h4 h5 h6 =>
    markObjectS_mk W g W0.heap.size n n L' cs 1 (by rw [lengthO_same he]; exact hn) h1 h2 h3 (shortO_same he h5) (by rw [partsN_same he]; exact h6) h4 (by omega) (by omega)
  have HN := hidden hn
  have HQ := hidden hq
  unfold AnsT at HIM
  unfold Named at HSP
  rw [hq] at HIM HSP
  clear hn h hf hls hR hq
  go_enter Try.func10, Try.ntmps10
  go_wp2_with fail
  refine HSZ.out.mono ?_
  clear HSZ
  rintro e w1 ⟨r, rfl, hb1, hr0, hr1, hr2⟩
  by_cases hneg : r < 0
  · clear hr2
    go_wp2_with fail
    go_ret
    exact ⟨rfl, hb1⟩
  obtain ⟨q0, q1, q2⟩ := hr2 (by omega)
  have hn1 : n ≤ 1048576 := by rw [HN.out]; exact q1
  have HSH := hidden q2
  have HPT := hidden q0
  have HT1 := hidden (HTO.out w1 hb1 hn1 q2)
  clear hr2 q0 q1 q2
  go_wp2_with fail
  refine HT1.out.mono ?_
  clear HT1
  rintro e w2 ⟨L2, he2, rfl, hO2, hb2, -, -, -⟩
  obtain ⟨g2, hg2⟩ : ∃ q, w1.heap.size = q := ⟨_, rfl⟩
  have HS2 := hidden (HSP.out w2 L2 w1.heap.size he2 hO2)
  have HB2 := hidden (hb1.trans (hb2.mono hb1.size))
  rw [hg2] at HS2 ⊢
  clear hO2 he2 hb2 hg2 HSP hb1
  go_wp2_with fail
  refine HS2.out.mono ?_
  clear HS2
  rintro e w3 ⟨vb, vo, vc, rfl, _, _, hvb, hvcs, hb3⟩
  have HV3 : Hid (Vals w3 w3.heap.size (some ⟨vb, vo, none⟩) (R.map Value.string)) := fun _ => ⟨vb, vo, rfl, hvb, hvcs⟩
  have HB3 := hidden (HB2.out.trans (hb3.mono HB2.out.size))
  have HT3 := hidden (HTO.out w3 HB3.out hn1 HSH.out)
  clear hb3 HB2 hvb hvcs
  go_wp2_with fail
  refine HT3.out.mono ?_
  clear HT3
  rintro e w4 ⟨L4, he4, rfl, hO4, hb4, hlay4, ⟨cs4, hcs4, hfo4⟩, _⟩
  have s34 := hb4.size
  have hg34 : w3.heap.size < w4.heap.size := hcs4.lt
  have HI4 := hidden (HIM.out w4 L4 w3.heap.size he4 hO4)
  have HB4 := hidden (HB3.out.trans (hb4.mono HB3.out.size))
  have HV4 := hidden (HV3.out.below hb4)
  have HBW : Hid (w.heap.size ≤ w3.heap.size) := HB3.out.size
  have HO4 := hidden hO4
  have HE4 := hidden he4
  have HL4 := hidden hlay4
  have HC4 := hidden hcs4
  have HF4 := hidden hfo4
  clear hO4 he4 hb4 HB3 HV3 hlay4 hcs4 hfo4
  go_wp2_with fail
  refine HI4.out.mono ?_
  clear HI4
  rintro e w5 ⟨ra, rc, rfl, hrow5, hb5⟩
  have hR5 := row_of_own HQ.out.symm hrow5
  have HR5 := hidden hR5
  have HA5 := hidden hb5
  have HB5 := hidden (HB4.out.trans (hb5.mono HB4.out.size))
  have HV5 := hidden (HV4.out.below (hb5.mono s34))
  have HE5 := hidden (HES.out w5 w5.heap.size w3.heap.size ra (some ⟨vb, vo, none⟩) rc vc hR5.vals HV5.out)
  clear hb5 hrow5 hR5 HB4 HV4
  go_wp2_with fail
  refine HE5.out.mono ?_
  clear HE5
  rintro e w6 ⟨rfl, hb6⟩
  have HA6 := hidden (HA5.out.trans (hb6.mono HA5.out.size))
  have HB6 := hidden (HB5.out.trans (hb6.mono HB5.out.size))
  have HV6 := hidden (HV5.out.below (hb6.mono (Nat.le_trans s34 HA5.out.size)))
  have HR6' := hidden (HR5.out.below hb6)
  have HT6 := hidden (HTO.out w6 HB6.out hn1 HSH.out)
  clear hb6 HA5 HB5 HV5 HR5
  go_wp2_with fail
  refine HT6.out.mono ?_
  clear HT6
  rintro e w7 ⟨L6, he6, rfl, hO6, hb7, -, -, -⟩
  have hs46 : w4.heap.size ≤ w6.heap.size := HA6.out.size
  have HA7 := hidden (HA6.out.trans (hb7.mono hs46))
  have HQ6 := hidden (HEQ.out w7 w4.heap.size L4 L6 w3.heap.size w6.heap.size HE4.out he6 (Nat.le_trans hs46 hb7.size) (HO4.out.below HA7.out) hO6)
  obtain ⟨g6, hg6⟩ : ∃ q, w6.heap.size = q := ⟨_, rfl⟩
  have HB7 := hidden (HB6.out.trans (hb7.mono HB6.out.size))
  have HV7 := hidden (HV6.out.below (hb7.mono (Nat.le_trans s34 hs46)))
  have HR7 := hidden (HR6'.out.below hb7)
  rw [hg6] at HQ6 ⊢
  clear hO6 he6 hb7 hg6 HB6 HEQ HA6 HV6 HR6' hs46 HO4
  go_wp2_with fail
  refine HQ6.out.mono ?_
  clear HQ6
  rintro e w8 ⟨rfl, hb8⟩
  have hA8 := HA7.out.trans (hb8.mono HA7.out.size)
  have HB8 := hidden (HB7.out.trans (hb8.mono HB7.out.size))
  have HV8 := hidden (HV7.out.below (hb8.mono (Nat.le_trans s34 HA7.out.size)))
  have HR8 := hidden (HR7.out.below hb8)
  have HM8 := hidden (HMO.out w8 w4 L4 w3.heap.size cs4 HE4.out (HC4.out.below hA8 HC4.out.lt) HF4.out (Lay.below hA8 HL4.out) hn1 HSH.out HPT.out)
  have h48 : w4.heap.size ≤ w8.heap.size := hA8.size
  clear hb8 hA8 HA7 HB7 HV7 HR7 HMO HL4 HC4 HF4 HE4
  go_wp2_with fail
  refine HM8.out.mono ?_
  clear HM8
  rintro e w9 ⟨r9, rfl, hr90, hr91, hmk9⟩
  have HV9 := hidden (HV8.out.mkL hmk9 (by omega) (by omega))
  have HR9 := hidden (HR8.out.mkL hmk9 (Nat.le_refl _))
  have HB9 := hidden (Mk.belowL HB8.out hmk9 (by have := HBW.out; omega) HB8.out.size)
  have h49 : w4.heap.size ≤ w9.heap.size := Nat.le_trans h48 hmk9.size
  have HE9 := hidden (HES.out w9 w9.heap.size w3.heap.size ra (some ⟨vb, vo, none⟩) rc vc HR9.out.vals HV9.out)
  have hr9 : ¬ r9 < 0 := by omega
  have hr9d : decide (r9 < 0) = false := by simp [hr9]
  clear hmk9 HB8 HV8 HR8 h48
  go_wp2_with fail
  refine HE9.out.mono ?_
  clear HE9
  rintro e w10 ⟨rfl, hb10⟩
  have HB10 := hidden (HB9.out.trans (hb10.mono HB9.out.size))
  have HV10 := hidden (HV9.out.below (hb10.mono (by omega)))
  have HR10 := hidden (HR9.out.below hb10)
  have h410 : w4.heap.size ≤ w10.heap.size := Nat.le_trans h49 hb10.size
  have HMR := hidden (mark_row w10 w4.heap.size q rc ra R HQ.out.symm HR10.out HR6.out)
  clear hb10 HB9 HV9 HR9 h49
  go_wp2_with fail
  refine HMR.out.mono ?_
  clear HMR
  rintro e w11 ⟨rfl, hrm, hmk⟩
  have HV11 := hidden (HV10.out.mkL hmk (by omega) (by omega))
  have HB11 := hidden (Mk.belowL HB10.out hmk (by have := HBW.out; omega) HB10.out.size)
  have h411 : w4.heap.size ≤ w11.heap.size := Nat.le_trans h410 hmk.size
  have HHR := hidden (held_row w11 w4.heap.size q rc ra hrm HR6.out)
  have HRM := hidden hrm
  have hq1 : q ≤ 1048576 := HR6.out
  have hnn : ¬ (1 + (q : Int)) < 0 := by omega
  clear hmk hrm HB10 HV10 HR10 h410
  go_wp2_with fail
  refine HHR.out.mono ?_
  clear HHR
  rintro e w12 ⟨rfl, hb12⟩
  have HB12 := hidden (HB11.out.trans (hb12.mono HB11.out.size))
  have HV12 := hidden (HV11.out.below (hb12.mono (by omega)))
  have HRM12 := hidden (HRM.out.below hb12)
  have h412 : w4.heap.size ≤ w12.heap.size := Nat.le_trans h411 hb12.size
  have HT12 := hidden (HTO.out w12 HB12.out hn1 HSH.out)
  clear hb12 HB11 HV11 HRM h411 HTO
  go_wp2_with fail
  refine HT12.out.mono ?_
  clear HT12
  rintro e w13 ⟨L7, he7, rfl, hO7, hb13, -, -, -⟩
  obtain ⟨g7, hg7⟩ : ∃ q, w12.heap.size = q := ⟨_, rfl⟩
  have HI13 := hidden (HIM.out w13 L7 w12.heap.size he7 hO7)
  have HB13 := hidden (HB12.out.trans (hb13.mono HB12.out.size))
  have HV13 := hidden (HV12.out.below (hb13.mono (by omega)))
  have HRM13 := hidden (HRM12.out.below hb13)
  have h413 : w4.heap.size ≤ w13.heap.size := Nat.le_trans h412 hb13.size
  rw [hg7] at HI13 ⊢
  clear hO7 he7 hb13 hg7 HB12 HV12 HRM12 h412 HIM
  go_wp2_with fail
  refine HI13.out.mono ?_
  clear HI13
  rintro e w14 ⟨ha, hc, rfl, hrow14, hb14⟩
  have HB14 := hidden (HB13.out.trans (hb14.mono HB13.out.size))
  have HV14 := hidden (HV13.out.below (hb14.mono (by omega)))
  have HRM14 := hidden (HRM13.out.below hb14)
  have hR14 := row_of_own HQ.out.symm hrow14
  have HE14 := hidden (HES.out w14 w14.heap.size w3.heap.size ha (some ⟨vb, vo, none⟩) hc vc hR14.vals HV14.out)
  clear hrow14 hb14 hR14 HB13 HV13 HRM13
  go_wp2_with fail
  refine HE14.out.mono ?_
  clear HE14
  rintro e w15 ⟨rfl, hb15⟩
  have HB15 := hidden (HB14.out.trans (hb15.mono HB14.out.size))
  have HRM15 := hidden (HRM14.out.below hb15)
  have HH15 := hidden (held_row w15 w4.heap.size q rc ra HRM15.out hq1)
  clear hb15 HB14 HRM14 HV14 HES
  go_wp2_with fail
  refine HH15.out.mono ?_
  clear HH15
  rintro e w16 ⟨rfl, hb16⟩
  have HB16 := hidden (HB15.out.trans (hb16.mono HB15.out.size))
  clear HB15 HRM15 hb16
  go_wp2_with fail
  go_ret
  exact ⟨rfl, HB16.out⟩
set_option maxRecDepth 100000 in
set_option maxHeartbeats 4000000 in
theorem law_ExactNamesMissing (w : World) (a : Option Addr) (c n : Nat) (L : List Oj) (hn : n = L.length) (h : Objs w w.heap.size a L) (hlen : n ≤ 9223372036854775807) (hf : ∀ y ∈ L, y.fits) :
    Calls Try.prog 11 #[.slice a n c] w fun e w' => e = .returned (.bool true) ∧ Below w.heap.size w w' := by
  have hls : ∀ y ∈ L, y.lens := fun y hy => (hf y hy).lens
  have HSZ := hidden (szObjectSK_any w w.heap.size a c n L hn h (Nat.le_refl _) hlen hls 1048576 (by omega) (by omega))
  have HTO := hidden (fun (W : World) (hB : Below w.heap.size w W) (k1 : n ≤ 1048576) (k2 : ∀ y ∈ L, y.short) => toObjectS_lay W w.heap.size a c n L hn (h.below hB) hB.size k1 k2)
  obtain ⟨R, hR⟩ : ∃ x, pickA isMiss (L.map Oj.o) = x := ⟨_, rfl⟩
  have HR6 : Hid (R.length ≤ 1048576) := by show _ ≤ _; rw [← hR]; exact pickA_few
  have HSP : Hid (∀ (W : World) (L' : List Oj) (g : Nat), L'.map Oj.o = L.map Oj.o → Objs W W.heap.size (some ⟨g, 0, none⟩) L' → Calls Try.prog 29 #[.slice (some ⟨g, 0, none⟩) n n] W (Named W R)) := fun W L' g he hO => by
    have := namesMissing'_any W W.heap.size (some ⟨g, 0, none⟩) n n L' (by rw [lengthO_same he]; exact hn) hO (Nat.le_refl _) hlen (fitsO_same he hf)
    rwa [he, hR] at this
  have HIM : Hid (∀ (W : World) (L' : List Oj) (g : Nat), L'.map Oj.o = L.map Oj.o → Objs W W.heap.size (some ⟨g, 0, none⟩) L' → Calls Try.prog 28 #[.slice (some ⟨g, 0, none⟩) n n] W (AnsT W R)) := fun W L' g he hO => by
    have := namesMissing_any W W.heap.size (some ⟨g, 0, none⟩) n n L' (by rw [lengthO_same he]; exact hn) hO (Nat.le_refl _) hlen (fitsO_same he hf)
    rwa [he, hR] at this
  have HEQ : Hid (∀ (W : World) (B1 : Nat) (L1 L2 : List Oj) (g1 g2 : Nat), L1.map Oj.o = L.map Oj.o → L2.map Oj.o = L.map Oj.o → B1 ≤ W.heap.size → Objs W B1 (some ⟨g1, 0, none⟩) L1 → Objs W W.heap.size (some ⟨g2, 0, none⟩) L2 → Calls Try.prog 33 #[.slice (some ⟨g1, 0, none⟩) n n, .slice (some ⟨g2, 0, none⟩) n n] W fun e w' => e = .returned (.bool true) ∧ Below W.heap.size W w') := fun W B1 L1 L2 g1 g2 e1 e2 hB h1 h2 =>
    eqObjectS_yes W B1 W.heap.size (some ⟨g1, 0, none⟩) (some ⟨g2, 0, none⟩) n n n L1 L2 (e1.trans e2.symm) (by rw [lengthO_same e1]; exact hn) h1 h2 hB (Nat.le_refl _) hlen (fun y hy => (fitsO_same e1 hf y hy).lens)
  obtain ⟨q, hq⟩ : ∃ q, R.length = q := ⟨_, rfl⟩
  rw [hq] at HR6
  have HES : Hid (∀ (W : World) (B1 B2 : Nat) (x1 x2 : Option Addr) (d1 d2 : Nat), Vals W B1 x1 (R.map Value.string) → Vals W B2 x2 (R.map Value.string) → Calls Try.prog 35 #[.slice x1 q d1, .slice x2 q d2] W fun e w' => e = .returned (.bool true) ∧ Below W.heap.size W w') := fun W B1 B2 x1 x2 d1 d2 k1 k2 =>
    (eqStringS_yes W B1 B2 x1 x2 d1 d2 q R hq.symm k1 k2 (by have := HR6.out; omega)).mono fun e w' ⟨he, n, hn⟩ => ⟨he, by rw [hn]; exact below_drewN (Below.refl _ _) n⟩
  have HMO : Hid (∀ (W W0 : World) (L' : List Oj) (g : Nat) (cs : Array Value), L'.map Oj.o = L.map Oj.o → Has W g 26 cs → FilledO cs n L' → Lay W (g + 1) L' W0.heap.size → n ≤ 1048576 → (∀ y ∈ L, y.short) → partsN L ≤ 1048576 → Calls Try.prog 36 #[.slice (some ⟨g, 0, none⟩) n n, .int .i64 1] W fun e w' => ∃ r : Int, e = .returned (.int .i64 r) ∧ 0 ≤ r ∧ r ≤ 17592186044416 ∧ Mk (g + 1) W0.heap.size W w') := fun W W0 L' g cs he h1 h2 h3 h4 h5 h6 =>
    markObjectS_mk W g W0.heap.size n n L' cs 1 (by rw [lengthO_same he]; exact hn) h1 h2 h3 (shortO_same he h5) (by rw [partsN_same he]; exact h6) h4 (by omega) (by omega)
  have HN := hidden hn
  have HQ := hidden hq
  unfold AnsT at HIM
  unfold Named at HSP
  rw [hq] at HIM HSP
  clear hn h hf hls hR hq
  go_enter Try.func11, Try.ntmps11
  go_wp2_with fail
  refine HSZ.out.mono ?_
  clear HSZ
  rintro e w1 ⟨r, rfl, hb1, hr0, hr1, hr2⟩
  by_cases hneg : r < 0
  · clear hr2
    go_wp2_with fail
    go_ret
    exact ⟨rfl, hb1⟩
  obtain ⟨q0, q1, q2⟩ := hr2 (by omega)
  have hn1 : n ≤ 1048576 := by rw [HN.out]; exact q1
  have HSH := hidden q2
  have HPT := hidden q0
  have HT1 := hidden (HTO.out w1 hb1 hn1 q2)
  clear hr2 q0 q1 q2
  go_wp2_with fail
  refine HT1.out.mono ?_
  clear HT1
  rintro e w2 ⟨L2, he2, rfl, hO2, hb2, -, -, -⟩
  obtain ⟨g2, hg2⟩ : ∃ q, w1.heap.size = q := ⟨_, rfl⟩
  have HS2 := hidden (HSP.out w2 L2 w1.heap.size he2 hO2)
  have HB2 := hidden (hb1.trans (hb2.mono hb1.size))
  rw [hg2] at HS2 ⊢
  clear hO2 he2 hb2 hg2 HSP hb1
  go_wp2_with fail
  refine HS2.out.mono ?_
  clear HS2
  rintro e w3 ⟨vb, vo, vc, rfl, _, _, hvb, hvcs, hb3⟩
  have HV3 : Hid (Vals w3 w3.heap.size (some ⟨vb, vo, none⟩) (R.map Value.string)) := fun _ => ⟨vb, vo, rfl, hvb, hvcs⟩
  have HB3 := hidden (HB2.out.trans (hb3.mono HB2.out.size))
  have HT3 := hidden (HTO.out w3 HB3.out hn1 HSH.out)
  clear hb3 HB2 hvb hvcs
  go_wp2_with fail
  refine HT3.out.mono ?_
  clear HT3
  rintro e w4 ⟨L4, he4, rfl, hO4, hb4, hlay4, ⟨cs4, hcs4, hfo4⟩, _⟩
  have s34 := hb4.size
  have hg34 : w3.heap.size < w4.heap.size := hcs4.lt
  have HI4 := hidden (HIM.out w4 L4 w3.heap.size he4 hO4)
  have HB4 := hidden (HB3.out.trans (hb4.mono HB3.out.size))
  have HV4 := hidden (HV3.out.below hb4)
  have HBW : Hid (w.heap.size ≤ w3.heap.size) := HB3.out.size
  have HO4 := hidden hO4
  have HE4 := hidden he4
  have HL4 := hidden hlay4
  have HC4 := hidden hcs4
  have HF4 := hidden hfo4
  clear hO4 he4 hb4 HB3 HV3 hlay4 hcs4 hfo4
  go_wp2_with fail
  refine HI4.out.mono ?_
  clear HI4
  rintro e w5 ⟨ra, rc, rfl, hrow5, hb5⟩
  have hR5 := row_of_own HQ.out.symm hrow5
  have HR5 := hidden hR5
  have HA5 := hidden hb5
  have HB5 := hidden (HB4.out.trans (hb5.mono HB4.out.size))
  have HV5 := hidden (HV4.out.below (hb5.mono s34))
  have HE5 := hidden (HES.out w5 w5.heap.size w3.heap.size ra (some ⟨vb, vo, none⟩) rc vc hR5.vals HV5.out)
  clear hb5 hrow5 hR5 HB4 HV4
  go_wp2_with fail
  refine HE5.out.mono ?_
  clear HE5
  rintro e w6 ⟨rfl, hb6⟩
  have HA6 := hidden (HA5.out.trans (hb6.mono HA5.out.size))
  have HB6 := hidden (HB5.out.trans (hb6.mono HB5.out.size))
  have HV6 := hidden (HV5.out.below (hb6.mono (Nat.le_trans s34 HA5.out.size)))
  have HR6' := hidden (HR5.out.below hb6)
  have HT6 := hidden (HTO.out w6 HB6.out hn1 HSH.out)
  clear hb6 HA5 HB5 HV5 HR5
  go_wp2_with fail
  refine HT6.out.mono ?_
  clear HT6
  rintro e w7 ⟨L6, he6, rfl, hO6, hb7, -, -, -⟩
  have hs46 : w4.heap.size ≤ w6.heap.size := HA6.out.size
  have HA7 := hidden (HA6.out.trans (hb7.mono hs46))
  have HQ6 := hidden (HEQ.out w7 w4.heap.size L4 L6 w3.heap.size w6.heap.size HE4.out he6 (Nat.le_trans hs46 hb7.size) (HO4.out.below HA7.out) hO6)
  obtain ⟨g6, hg6⟩ : ∃ q, w6.heap.size = q := ⟨_, rfl⟩
  have HB7 := hidden (HB6.out.trans (hb7.mono HB6.out.size))
  have HV7 := hidden (HV6.out.below (hb7.mono (Nat.le_trans s34 hs46)))
  have HR7 := hidden (HR6'.out.below hb7)
  rw [hg6] at HQ6 ⊢
  clear hO6 he6 hb7 hg6 HB6 HEQ HA6 HV6 HR6' hs46 HO4
  go_wp2_with fail
  refine HQ6.out.mono ?_
  clear HQ6
  rintro e w8 ⟨rfl, hb8⟩
  have hA8 := HA7.out.trans (hb8.mono HA7.out.size)
  have HB8 := hidden (HB7.out.trans (hb8.mono HB7.out.size))
  have HV8 := hidden (HV7.out.below (hb8.mono (Nat.le_trans s34 HA7.out.size)))
  have HR8 := hidden (HR7.out.below hb8)
  have HM8 := hidden (HMO.out w8 w4 L4 w3.heap.size cs4 HE4.out (HC4.out.below hA8 HC4.out.lt) HF4.out (Lay.below hA8 HL4.out) hn1 HSH.out HPT.out)
  have h48 : w4.heap.size ≤ w8.heap.size := hA8.size
  clear hb8 hA8 HA7 HB7 HV7 HR7 HMO HL4 HC4 HF4 HE4
  go_wp2_with fail
  refine HM8.out.mono ?_
  clear HM8
  rintro e w9 ⟨r9, rfl, hr90, hr91, hmk9⟩
  have HV9 := hidden (HV8.out.mkL hmk9 (by omega) (by omega))
  have HR9 := hidden (HR8.out.mkL hmk9 (Nat.le_refl _))
  have HB9 := hidden (Mk.belowL HB8.out hmk9 (by have := HBW.out; omega) HB8.out.size)
  have h49 : w4.heap.size ≤ w9.heap.size := Nat.le_trans h48 hmk9.size
  have HE9 := hidden (HES.out w9 w9.heap.size w3.heap.size ra (some ⟨vb, vo, none⟩) rc vc HR9.out.vals HV9.out)
  have hr9 : ¬ r9 < 0 := by omega
  have hr9d : decide (r9 < 0) = false := by simp [hr9]
  clear hmk9 HB8 HV8 HR8 h48
  go_wp2_with fail
  refine HE9.out.mono ?_
  clear HE9
  rintro e w10 ⟨rfl, hb10⟩
  have HB10 := hidden (HB9.out.trans (hb10.mono HB9.out.size))
  have HV10 := hidden (HV9.out.below (hb10.mono (by omega)))
  have HR10 := hidden (HR9.out.below hb10)
  have h410 : w4.heap.size ≤ w10.heap.size := Nat.le_trans h49 hb10.size
  have HMR := hidden (mark_row w10 w4.heap.size q rc ra R HQ.out.symm HR10.out HR6.out)
  clear hb10 HB9 HV9 HR9 h49
  go_wp2_with fail
  refine HMR.out.mono ?_
  clear HMR
  rintro e w11 ⟨rfl, hrm, hmk⟩
  have HV11 := hidden (HV10.out.mkL hmk (by omega) (by omega))
  have HB11 := hidden (Mk.belowL HB10.out hmk (by have := HBW.out; omega) HB10.out.size)
  have h411 : w4.heap.size ≤ w11.heap.size := Nat.le_trans h410 hmk.size
  have HHR := hidden (held_row w11 w4.heap.size q rc ra hrm HR6.out)
  have HRM := hidden hrm
  have hq1 : q ≤ 1048576 := HR6.out
  have hnn : ¬ (1 + (q : Int)) < 0 := by omega
  clear hmk hrm HB10 HV10 HR10 h410
  go_wp2_with fail
  refine HHR.out.mono ?_
  clear HHR
  rintro e w12 ⟨rfl, hb12⟩
  have HB12 := hidden (HB11.out.trans (hb12.mono HB11.out.size))
  have HV12 := hidden (HV11.out.below (hb12.mono (by omega)))
  have HRM12 := hidden (HRM.out.below hb12)
  have h412 : w4.heap.size ≤ w12.heap.size := Nat.le_trans h411 hb12.size
  have HT12 := hidden (HTO.out w12 HB12.out hn1 HSH.out)
  clear hb12 HB11 HV11 HRM h411 HTO
  go_wp2_with fail
  refine HT12.out.mono ?_
  clear HT12
  rintro e w13 ⟨L7, he7, rfl, hO7, hb13, -, -, -⟩
  obtain ⟨g7, hg7⟩ : ∃ q, w12.heap.size = q := ⟨_, rfl⟩
  have HI13 := hidden (HIM.out w13 L7 w12.heap.size he7 hO7)
  have HB13 := hidden (HB12.out.trans (hb13.mono HB12.out.size))
  have HV13 := hidden (HV12.out.below (hb13.mono (by omega)))
  have HRM13 := hidden (HRM12.out.below hb13)
  have h413 : w4.heap.size ≤ w13.heap.size := Nat.le_trans h412 hb13.size
  rw [hg7] at HI13 ⊢
  clear hO7 he7 hb13 hg7 HB12 HV12 HRM12 h412 HIM
  go_wp2_with fail
  refine HI13.out.mono ?_
  clear HI13
  rintro e w14 ⟨ha, hc, rfl, hrow14, hb14⟩
  have HB14 := hidden (HB13.out.trans (hb14.mono HB13.out.size))
  have HV14 := hidden (HV13.out.below (hb14.mono (by omega)))
  have HRM14 := hidden (HRM13.out.below hb14)
  have hR14 := row_of_own HQ.out.symm hrow14
  have HE14 := hidden (HES.out w14 w14.heap.size w3.heap.size ha (some ⟨vb, vo, none⟩) hc vc hR14.vals HV14.out)
  clear hrow14 hb14 hR14 HB13 HV13 HRM13
  go_wp2_with fail
  refine HE14.out.mono ?_
  clear HE14
  rintro e w15 ⟨rfl, hb15⟩
  have HB15 := hidden (HB14.out.trans (hb15.mono HB14.out.size))
  have HRM15 := hidden (HRM14.out.below hb15)
  have HH15 := hidden (held_row w15 w4.heap.size q rc ra HRM15.out hq1)
  clear hb15 HB14 HRM14 HV14 HES
  go_wp2_with fail
  refine HH15.out.mono ?_
  clear HH15
  rintro e w16 ⟨rfl, hb16⟩
  have HB16 := hidden (HB15.out.trans (hb16.mono HB15.out.size))
  clear HB15 HRM15 hb16
  go_wp2_with fail
  go_ret
  exact ⟨rfl, HB16.out⟩

end Go.Proofs.Ytjakkiidedmifaa

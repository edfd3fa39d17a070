/-
  The walk of FnNamesMissing.
-/
import Derived.Test.YtjakkiidedmifaaDrawOL
import Derived.Test.YtjakkiidedmifaaLawL3
import Derived.Test.YtjakkiidedmifaaLnkF
import Derived.Test.YtjakkiidedmifaaNamesJ
import Derived.Test.YtjakkiidedmifaaLawO5
import Derived.Deep.RegionWith
namespace Go.Proofs.Ytjakkiidedmifaa
open Go.RowKit

/-- The names that an object wants. -/
def wantsOf (y : Oj) : List ByteArray := namesIf wants (y.l.map Sp.s) y.ms
/-- Whether a name is among others. -/
def hasS (S : List ByteArray) (s : ByteArray) : Bool := S.any fun x => decide (x = s)
/-- Whether one of the first objects wants a name. -/
def wUp (L : List Oj) (s : ByteArray) (j : Nat) : Bool := (L.take j).any fun y => hasS (wantsOf y) s
theorem wUp_succ {L : List Oj} {s : ByteArray} {j : Nat} {y : Oj} (h : L[j]? = some y) : wUp L s (j + 1) = (wUp L s j || hasS (wantsOf y) s) := by
  unfold wUp
  rw [List.take_add_one, h, List.any_append]
  simp
theorem wUp_all {L : List Oj} {s : ByteArray} {j : Nat} (hj : L.length ≤ j) (h : ∃ y ∈ L, s ∈ wantsOf y) : wUp L s j = true := by
  obtain ⟨y, hy, hs⟩ := h
  unfold wUp
  rw [List.take_of_length_le hj, List.any_eq_true]
  exact ⟨y, hy, by unfold hasS; rw [List.any_eq_true]; exact ⟨s, hs, by simp⟩⟩
theorem mem_take_succ {S : List ByteArray} {s t : ByteArray} {q : Nat} (h : S[q]? = some t) : hasS (S.take (q + 1)) s = (hasS (S.take q) s || decide (t = s)) := by
  unfold hasS
  rw [List.take_add_one, h, List.any_append]
  simp
/-- A missing name is given by nobody, and wanted. -/
theorem miss_told {L : List Oj} {s : ByteArray} (h : s ∈ pickA isMiss (L.map Oj.o)) : (findA (L.map Oj.o) s).given = false ∧ ∃ y ∈ L, s ∈ wantsOf y := by
  unfold pickA at h
  split at h
  · rename_i hv
    obtain ⟨_, hq⟩ := List.mem_filter.1 h
    unfold isMiss at hq
    rw [Bool.and_eq_true, Bool.not_eq_true'] at hq
    refine ⟨by unfold findA; rw [if_pos hv]; exact hq.2, ?_⟩
    obtain ⟨x, hx, hn, hl, hb⟩ := (wanted_by s _).1 hq.1
    obtain ⟨o, ho, hm⟩ := mem_itemsA.1 hx
    rw [List.getElem?_map] at ho
    obtain ⟨y, hy, rfl⟩ := Option.map_eq_some_iff.1 ho
    have hym := List.mem_of_getElem? hy
    refine ⟨y, hym, ?_⟩
    have hok : objOk (y.l.map Sp.s) y.ms = true := (validA_parts hv).2 y.o (List.mem_map_of_mem hym)
    unfold wantsOf namesIf
    rw [if_pos hok]
    unfold namesOf
    rw [mem_fold_iff]
    exact .inr (List.mem_map.2 ⟨x.m, List.mem_filter.2 ⟨List.mem_of_getElem? hm, by simp [wants, hl]⟩, hn⟩)
  · simp at h
theorem AnsT.vals {w w' : World} {R : List ByteArray} {e : Ending} (h : AnsT w R e w') : ∃ (a : Option Addr) (c : Nat), e = .returned (.slice a R.length c) ∧ Vals w' w'.heap.size a (R.map Value.string) ∧ Below w.heap.size w w' := by
  obtain ⟨a, c, rfl, ho, hb⟩ := h
  refine ⟨a, c, rfl, ?_, hb⟩
  obtain ⟨a', c', e', _, hv⟩ := vals_of_own (by rw [List.length_map]; exact ho)
  rw [List.length_map] at e'
  injection e' with e1
  subst e1
  exact hv
set_option maxRecDepth 100000 in
set_option maxHeartbeats 8000000 in
theorem law_NamesMissing (w : World) (a0 : Option Addr) (len cap : Nat) (h : Came w a0 len cap) :
    Calls Try.prog 7 #[.slice a0 len cap] w fun e w' => e = .returned (.bool true) ∧ Below w.heap.size w w' := by
  obtain ⟨l0, h, rfl, hcap, hmax⟩ := h
  by_cases hbig : 1048576 < l0.length
  · have hd : (1048576 : Int) < (l0.length : Int) := by omega
    go_enter Try.func7, Try.ntmps7
    go_wp2
    go_ret
    exact ⟨rfl, Below.refl _ _⟩
  have hd : ¬ (1048576 : Int) < (l0.length : Int) := by omega
  have HD := hidden (drawNamesMissing_any w a0 cap l0 h hcap hmax)
  clear h
  go_enter Try.func7, Try.ntmps7
  go_wp2_with fail
  refine HD.out.mono ?_
  clear HD
  rintro e w1 ⟨a, c, L, rfl, hL5, hfew, hO, hb1⟩
  have hft : ∀ y ∈ L, y.fits := fun y hy => (hfew y hy).fits
  obtain ⟨R, hR⟩ : ∃ R, pickA isMiss (L.map Oj.o) = R := ⟨_, rfl⟩
  have hR6 : R.length ≤ 1048576 := by rw [← hR]; exact pickA_few
  have HGF : Hid (∀ s ∈ R, (findA (L.map Oj.o) s).given = false ∧ ∃ y ∈ L, s ∈ wantsOf y) := fun s hs => by
    rw [← hR] at hs
    exact miss_told hs
  have HSZ : Hid (∀ s ∈ R, s.size ≤ maxLen) := fun s hs => by
    obtain ⟨_, y, hy, hw⟩ := HGF.out s hs
    obtain ⟨_, m, hm, _, rfl⟩ := mem_namesIf hw
    exact ((hft y hy).2.2.2 m hm).name
  have HWL : Hid (∀ y ∈ L, (wantsOf y).length ≤ 20) := fun y hy => Nat.le_trans (namesIf_less _ _ _) (hfew y hy).n2
  obtain ⟨nL, hnL⟩ : ∃ n, L.length = n := ⟨_, rfl⟩
  obtain ⟨q, hq⟩ : ∃ n, R.length = n := ⟨_, rfl⟩
  have HIM : Hid (Calls Try.prog 28 #[.slice a nL c] w1 fun e w' => ∃ (sa : Option Addr) (sc : Nat), e = .returned (.slice sa q sc) ∧ Vals w' w'.heap.size sa (R.map Value.string) ∧ Below w1.heap.size w1 w') := by
    have := namesMissing_any w1 w1.heap.size a c nL L hnL.symm hO (Nat.le_refl _) (by omega) hft
    rw [hR] at this
    refine this.mono fun e w' h => ?_
    have := h.vals
    rwa [hq] at this
  have HSP : Hid (∀ W, Below w1.heap.size w1 W → Calls Try.prog 29 #[.slice a nL c] W (Named W R)) := fun W hB => by
    have := namesMissing'_any W w1.heap.size a c nL L hnL.symm (hO.below hB) hB.size (by omega) hft
    rwa [hR] at this
  have HFN : Hid (∀ (W : World) (s : ByteArray), Below w1.heap.size w1 W → s.size ≤ maxLen → Calls Try.prog 16 #[.slice a nL c, .string s] W (FoundA W (findA (L.map Oj.o) s))) := fun W s hB hs =>
    findName_any W w1.heap.size a c nL L hnL.symm (hO.below hB) hB.size (by omega) hft s hs
  have HNW : Hid (∀ (W : World) (y : Oj), y ∈ L → Below w1.heap.size w1 W → Calls Try.prog 30 #[.agg #[.slice y.a1 y.l.length y.c1, .slice y.a2 y.ms.length y.c2]] W fun e w' => ∃ (sa : Option Addr) (sc : Nat), e = .returned (.slice sa (wantsOf y).length sc) ∧ Vals w' w'.heap.size sa ((wantsOf y).map Value.string) ∧ Below W.heap.size W w') := fun W y hy hB =>
    (wantNamesWanted W w1.heap.size y.a1 y.a2 y.c1 y.c2 y.l y.ms ((hO.secs y hy).below hB) ((hO.syms y hy).below hB) hB.size (hft y hy).1 (hft y hy).2.1 (hft y hy).2.2.1 (hft y hy).2.2.2).mono fun e w' h => h.vals
  have HAT : Hid (∀ (j : Nat) (y : Oj), L[j]? = some y → ∃ b off, a = some ⟨b, off, none⟩ ∧ ∀ W, Below w1.heap.size w1 W → W.cell? ⟨b, off + j * 2, none⟩ = some (.slice y.a1 y.l.length y.c1) ∧ W.cell? ⟨b, off + j * 2 + 1, none⟩ = some (.slice y.a2 y.ms.length y.c2)) := fun j y hj => by
    have hjl := (List.getElem?_eq_some_iff.1 hj).1
    obtain ⟨b, off, e1, hb, h1, h2⟩ := hO.at_ hjl
    rw [(List.getElem?_eq_some_iff.1 hj).2] at h1 h2
    exact ⟨b, off, e1, fun W hB => ⟨(hB.cell (by show b < _; exact hb)).trans h1, (hB.cell (by show b < _; exact hb)).trans h2⟩⟩
  have HES : Hid (∀ (W : World) (B1 B2 : Nat) (x1 x2 : Option Addr) (d1 d2 : Nat), Vals W B1 x1 (R.map Value.string) → Vals W B2 x2 (R.map Value.string) → Calls Try.prog 14 #[.slice x1 q d1, .slice x2 q d2] W fun e w' => e = .returned (.bool true) ∧ Below W.heap.size W w') := fun W B1 B2 x1 x2 d1 d2 k1 k2 =>
    (sameTexts_yes W B1 B2 x1 x2 d1 d2 q R hq.symm k1 k2 (by omega)).mono fun e w' ⟨he, n, hn⟩ => ⟨he, by rw [hn]; exact below_drewN (Below.refl _ _) n⟩
  have HQ := hidden hq
  have HNL := hidden hnL
  have HB1 := hidden hb1
  rw [hnL]
  rw [hnL] at hL5
  rw [hq] at hR6
  unfold Named at HSP
  rw [hq] at HSP
  clear hft hfew hO hb1 hnL hq hR hd hbig
  go_wp2_with fail
  refine HIM.out.mono ?_
  clear HIM
  rintro e w3 ⟨xa, xc, rfl, hv3, hb3⟩
  have HC3 := hidden hb3
  have HV3 := hidden hv3
  have HS3 := hidden (HSP.out w3 hb3)
  clear hv3 hb3 HSP
  go_wp2_with fail
  refine HS3.out.mono ?_
  clear HS3
  rintro e w4 ⟨vb, vo, vc, rfl, _, _, hvb, hvcs, hb4⟩
  have HC4 := hidden (HC3.out.trans (hb4.mono HC3.out.size))
  have HV4 := hidden ((HV3.out.below hb4).more hb4.size)
  have HE4 := hidden (HES.out w4 w4.heap.size w4.heap.size xa (some ⟨vb, vo, none⟩) xc vc HV4.out (fun _ => ⟨vb, vo, rfl, hvb, hvcs⟩))
  clear hvb hvcs hb4 HC3 HV3 HES
  go_wp2_with fail
  refine HE4.out.mono ?_
  clear HE4
  rintro e w5 ⟨rfl, hb5⟩
  have HC5 := hidden (HC4.out.trans (hb5.mono HC4.out.size))
  have HV5 := hidden ((HV4.out.below hb5).more hb5.size)
  clear hb5 HC4 HV4
  go_wp2_with fail
  go_loopw [5] (fun i wr => ∃ k : Nat, i = .int .i64 k ∧ k ≤ q ∧ Below w5.heap.size w5 wr) (fun i _ => q - (intOf i).toNat)
  case atStart => exact ⟨0, rfl, Nat.zero_le _, Below.refl _ _⟩
  case round =>
    obtain ⟨k, rfl, hk, hb⟩ := hrel
    by_cases hlt : k < q
    · have hi : (k : Int) < (q : Int) := by omega
      have hkS : k < R.length := by rw [HQ.out]; exact hlt
      obtain ⟨xb, xo, rfl, hxb, hxc⟩ := HV5.out (by rw [List.length_map]; omega)
      obtain ⟨s, hs⟩ : ∃ s, R[k]? = some s := ⟨_, List.getElem?_eq_getElem hkS⟩
      have hsS := List.mem_of_getElem? hs
      obtain ⟨g1, hwt⟩ := HGF.out s hsS
      have HWT := hidden hwt
      have hsz := HSZ.out s hsS
      have HXV : Hid (∀ W, Below w5.heap.size w5 W → W.cell? ⟨xb, xo + k, none⟩ = some (.string s)) := fun W hW => (hW.cell (by show xb < _; exact hxb)).trans (hxc k _ (by rw [List.getElem?_map, hs]; rfl))
      have HF := hidden (HFN.out wr s (HC5.out.trans (hb.mono HC5.out.size)) hsz)
      obtain ⟨u, hu⟩ : ∃ u, findA (L.map Oj.o) s = u := ⟨_, rfl⟩
      rw [hu] at g1 HF
      obtain ⟨ui, ua, ug, us, uw⟩ := u
      simp only at g1
      subst g1
      have HB := hidden hb
      have HLT := hidden hlt
      have x0 := HXV.out wr hb
      clear hu hsz hwt hsS hs hkS hxb hxc hb hlt
      go_wp2_with fail
      refine HF.out.mono ?_
      clear HF x0
      rintro e w6 ⟨rfl, hb6⟩
      have HB6 := hidden ((HB.out.trans (hb6.mono HB.out.size)).alloc (HB.out.trans (hb6.mono HB.out.size)).size (.cells #[.int .i64 ui, .int .i64 ua] 32))
      clear HB hb6
      go_wp2_with fail
      go_loopw [8, 9] (fun b i wr => ∃ (j : Nat) (bb : Bool), i = .int .i64 j ∧ b = .bool bb ∧ j ≤ nL ∧ Hid (bb = wUp L s j) ∧ Below w5.heap.size w5 wr) (fun _ i _ => nL - (intOf i).toNat)
      case atStart => exact ⟨0, false, rfl, rfl, Nat.zero_le _, hidden rfl, HB6.out⟩
      case round =>
        clear HB6
        obtain ⟨j, bb, rfl, rfl, hj, HBB, hb⟩ := hrel
        by_cases hjl : j < nL
        · have hji : (j : Int) < (nL : Int) := by omega
          obtain ⟨y, hy⟩ : ∃ y, L[j]? = some y := ⟨_, List.getElem?_eq_getElem (by rw [HNL.out]; exact hjl)⟩
          obtain ⟨b, off, rfl, hat⟩ := HAT.out j y hy
          obtain ⟨c0, c1⟩ := hat wr (HC5.out.trans (hb.mono HC5.out.size))
          have hym := List.mem_of_getElem? hy
          have HN := hidden (HNW.out wr y hym (HC5.out.trans (hb.mono HC5.out.size)))
          have hS20 := HWL.out y hym
          have HUP : Hid (wUp L s (j + 1) = (wUp L s j || hasS (wantsOf y) s)) := wUp_succ hy
          obtain ⟨S, hS⟩ : ∃ S, wantsOf y = S := ⟨_, rfl⟩
          rw [hS] at HN HUP hS20
          obtain ⟨yl, ym, ya1, yc1, ya2, yc2⟩ := y
          simp only at c0 c1 HN
          have HB := hidden hb
          clear hS hym hy hat hb
          go_wp2_with fail
          refine HN.out.mono ?_
          clear HN c0 c1
          rintro e w7 ⟨sa, sc, rfl, hv7, hb7⟩
          obtain ⟨nS, hnS⟩ : ∃ n, S.length = n := ⟨_, rfl⟩
          have HNS := hidden hnS
          have HB7 := hidden (HB.out.trans (hb7.mono HB.out.size))
          have HV7 := hidden hv7
          rw [hnS] at hS20 ⊢
          clear hnS hv7 hb7 HB
          go_wp2_with fail
          go_loopw [8, 11] (fun b i wr => ∃ (t : Nat) (bb : Bool), i = .int .i64 t ∧ b = .bool bb ∧ t ≤ nS ∧ Hid (bb = (wUp L s j || hasS (S.take t) s)) ∧ Below w7.heap.size w7 wr) (fun _ i _ => nS - (intOf i).toNat)
          case atStart => exact ⟨0, bb, rfl, rfl, Nat.zero_le _, by show _ = _; rw [HBB.out]; simp [hasS], Below.refl _ _⟩
          case round =>
            clear HBB
            obtain ⟨t, bb, rfl, rfl, ht, HBB, hb⟩ := hrel
            have HB9 := hidden (HB7.out.trans (hb.mono HB7.out.size))
            have HB := hidden hb
            clear hb
            by_cases htl : t < nS
            · have hti : (t : Int) < (nS : Int) := by omega
              have htS : t < S.length := by rw [HNS.out]; exact htl
              obtain ⟨sb, so, rfl, hsb, hsc⟩ := HV7.out (by rw [List.length_map]; omega)
              obtain ⟨r, hr⟩ : ∃ r, S[t]? = some r := ⟨_, List.getElem?_eq_getElem htS⟩
              have z0 : wr.cell? ⟨sb, so + t, none⟩ = some (.string r) := (HB.out.cell (by show sb < _; exact hsb)).trans (hsc t _ (by rw [List.getElem?_map, hr]; rfl))
              have z1 := HXV.out wr HB9.out
              have HTS : Hid (hasS (S.take (t + 1)) s = (hasS (S.take t) s || decide (r = s))) := mem_take_succ hr
              clear hsb hsc hr htS
              rcases bb with _ | _
              · by_cases hrs : r = s
                · subst hrs
                  have HN2 : Hid (true = (wUp L r j || hasS (S.take (t + 1)) r)) := by show _ = _; rw [HTS.out]; simp
                  clear HBB HTS
                  go_wp2_with fail
                  go_quiet (fail)
                  go_wp2_with fail
                  go_roundw
                  case rel => exact ⟨t + 1, true, by go_num, rfl, htl, HN2, below_drewN HB.out _⟩
                  case measure => simp [intOf]; omega
                · have hne := str_ne hrs
                  have HN2 : Hid (false = (wUp L s j || hasS (S.take (t + 1)) s)) := by show _ = _; rw [HTS.out, ← Bool.or_assoc, ← HBB.out]; simp [hrs]
                  clear HBB HTS hrs
                  go_wp2_with fail
                  go_quiet (fail)
                  go_wp2_with fail
                  go_roundw
                  case rel => exact ⟨t + 1, false, by go_num, rfl, htl, HN2, below_drewN HB.out _⟩
                  case measure => simp [intOf]; omega
              · have HN2 : Hid (true = (wUp L s j || hasS (S.take (t + 1)) s)) := by show _ = _; rw [HTS.out, ← Bool.or_assoc, ← HBB.out]; simp
                clear HBB HTS
                go_wp2_with fail
                go_quiet (fail)
                go_wp2_with fail
                go_roundw
                case rel => exact ⟨t + 1, true, by go_num, rfl, htl, HN2, below_drewN HB.out _⟩
                case measure => simp [intOf]; omega
            · have hti : ¬ (t : Int) < (nS : Int) := by omega
              have HN2 : Hid (bb = wUp L s (j + 1)) := by
                show _ = _
                have := HBB.out
                rw [List.take_of_length_le (by rw [HNS.out]; omega)] at this
                rw [this, HUP.out]
              clear HBB HUP
              go_wp2_with fail
              go_roundw
              case rel => exact ⟨j + 1, bb, by go_num, rfl, hjl, HN2, HB9.out⟩
              case measure => simp [intOf]; omega
        · have hji : ¬ (j : Int) < (nL : Int) := by omega
          have hbb : bb = true := by rw [HBB.out]; exact wUp_all (by rw [HNL.out]; omega) HWT.out
          subst hbb
          have HB := hidden hb
          clear hb HBB HWT
          go_wp2_with fail
          go_roundw
          case rel => exact ⟨k + 1, by go_num, HLT.out, HB.out⟩
          case measure => have := HLT.out; simp [intOf]; omega
    · have hi : ¬ (k : Int) < (q : Int) := by omega
      have HF : Hid (Below w.heap.size w wr) := HB1.out.trans ((HC5.out.trans (hb.mono HC5.out.size)).mono HB1.out.size)
      clear hlt hb
      go_wp2_with (go_at_call 17; refine (alive_any _).mono ?_; rintro e _ ⟨rfl, rfl⟩)
      go_ret
      exact ⟨rfl, HF.out⟩

end Go.Proofs.Ytjakkiidedmifaa

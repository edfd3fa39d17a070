/-
  The walk of FnNamesTwice.
-/
import Derived.Test.YtjakkiidedmifaaDrawOT
import Derived.Test.YtjakkiidedmifaaLawL5
namespace Go.Proofs.Ytjakkiidedmifaa
open Go.RowKit

/-- The names that an object gives. -/
def givesOf (y : Oj) : List ByteArray := namesIf gives (y.l.map Sp.s) y.ms
/-- How many of the first objects give a name. -/
def cUp (L : List Oj) (s : ByteArray) (j : Nat) : Nat := ((L.take j).filter fun y => hasS (givesOf y) s).length
theorem cUp_succ {L : List Oj} {s : ByteArray} {j : Nat} {y : Oj} (h : L[j]? = some y) : cUp L s (j + 1) = cUp L s j + if hasS (givesOf y) s then 1 else 0 := by
  unfold cUp
  rw [List.take_add_one, h, List.filter_append, List.length_append]
  congr 1
  rcases hc : hasS (givesOf y) s with _ | _ <;> simp [hc]
theorem cUp_le (L : List Oj) (s : ByteArray) (j : Nat) : cUp L s j ≤ L.length := by
  unfold cUp
  exact Nat.le_trans (List.length_filter_le _ _) (by rw [List.length_take]; omega)
theorem strong_snoc (s : ByteArray) (P : List It) (x : It) : (useOf s (P ++ [x])).strong = (useOf s P).strong + if x.m.name = s ∧ x.m.loc ≠ -1 ∧ x.m.bind = 1 then 1 else 0 := by
  by_cases hc : x.m.name = s ∧ x.m.loc ≠ -1 ∧ x.m.bind = 1
  · rw [if_pos hc, useOf_snoc, if_pos hc.1]
    unfold Use.step
    rw [if_neg hc.2.1, if_pos hc.2.2]
    split <;> rfl
  · rw [if_neg hc, useOf_snoc]
    by_cases hn : x.m.name = s
    · rw [if_pos hn]
      unfold Use.step
      by_cases hl : x.m.loc = -1
      · rw [if_pos hl]; simp
      · have hb : ¬ x.m.bind = 1 := fun hb => hc ⟨hn, hl, hb⟩
        rw [if_neg hl, if_neg hb]
        split <;> simp
    · rw [if_neg hn]; simp
/-- Whether one of these symbols gives a name strongly. -/
def strongIn (s : ByteArray) (l : List Sm) : Bool := l.any fun m => decide (m.name = s ∧ m.loc ≠ -1 ∧ m.bind = 1)
theorem strong_one {Ls : List (List Sm)} {s : ByteArray} {i : Nat} {ms : List Sm} (h : Ls[i]? = some ms) (hp : ms.Pairwise (fun x y => clash x y = false)) : ∀ j, j ≤ ms.length → (useOf s (itemsAt Ls i j)).strong ≤ (useOf s (itemsUp Ls i)).strong + if strongIn s (ms.take j) then 1 else 0 := by
  intro j
  induction j with
  | zero => intro _; rw [itemsAt_zero]; simp [strongIn]
  | succ j ih =>
    intro hj
    have ih := ih (by omega)
    have hm : ms[j]? = some ms[j] := List.getElem?_eq_getElem (by omega)
    obtain ⟨m, hme⟩ : ∃ m, ms[j] = m := ⟨_, rfl⟩
    rw [hme] at hm
    rw [itemsAt_next h hm, strong_snoc]
    have ht : strongIn s (ms.take (j + 1)) = (strongIn s (ms.take j) || decide (m.name = s ∧ m.loc ≠ -1 ∧ m.bind = 1)) := by
      unfold strongIn
      rw [List.take_add_one, hm, List.any_append]
      simp
    rw [ht]
    by_cases hc : m.name = s ∧ m.loc ≠ -1 ∧ m.bind = 1
    · rw [if_pos hc]
      have hno : strongIn s (ms.take j) = false := by
        rcases hq : strongIn s (ms.take j) with _ | _
        · rfl
        · unfold strongIn at hq
          rw [List.any_eq_true] at hq
          obtain ⟨x, hx, hx2⟩ := hq
          have hx2 := of_decide_eq_true hx2
          obtain ⟨a, ha⟩ := List.getElem?_of_mem hx
          have hal := (List.getElem?_eq_some_iff.1 ha).1
          rw [List.length_take] at hal
          rw [List.getElem?_take, if_pos (by omega)] at ha
          have := List.pairwise_iff_getElem.1 hp a j (by omega) (by omega) (by omega)
          rw [(List.getElem?_eq_some_iff.1 ha).2, hme] at this
          unfold clash at this
          simp [hx2.1, hc.1, hx2.2.2, hc.2.2] at this
      rw [hno] at ih
      simp only [decide_eq_true hc, Bool.or_true, if_true]
      simp at ih
      omega
    · rw [if_neg hc, decide_eq_false hc, Bool.or_false]
      omega
theorem strong_cnt {L : List Oj} (hv : ∀ y ∈ L, objOk (y.l.map Sp.s) y.ms = true) (s : ByteArray) : ∀ n, n ≤ L.length → (useOf s (itemsUp (L.map Oj.ms) n)).strong ≤ cUp L s n := by
  intro n
  induction n with
  | zero => intro _; rw [itemsUp_zero, useOf_nil]; exact Int.natCast_nonneg _
  | succ n ih =>
    intro hn
    have ih := ih (by omega)
    obtain ⟨y, hy⟩ : ∃ y, L[n]? = some y := ⟨_, List.getElem?_eq_getElem (by omega)⟩
    have hym := List.mem_of_getElem? hy
    have hms : (L.map Oj.ms)[n]? = some y.ms := by rw [List.getElem?_map, hy]; rfl
    have h1 := strong_one (s := s) hms (okSyms (hv y hym)).2.1 y.ms.length (Nat.le_refl _)
    rw [itemsAt_all hms (Nat.le_refl _), List.take_length] at h1
    rw [cUp_succ hy]
    rcases hq : strongIn s y.ms with _ | _
    · rw [hq] at h1
      simp at h1
      split <;> omega
    · have hin : hasS (givesOf y) s = true := by
        unfold strongIn at hq
        rw [List.any_eq_true] at hq
        obtain ⟨x, hx, hx2⟩ := hq
        have hx2 := of_decide_eq_true hx2
        unfold hasS
        rw [List.any_eq_true]
        exact ⟨s, by rw [← hx2.1]; exact in_given (hv y hym) hx (by unfold gives; simp [hx2.2.1, hx2.2.2]), by simp⟩
      rw [hq] at h1
      rw [if_pos hin]
      simp at h1
      omega
/-- A name that is given twice is given by two objects. -/
theorem twice_told {L : List Oj} {s : ByteArray} (h : s ∈ pickA isTwice (L.map Oj.o)) : 2 ≤ cUp L s L.length := by
  unfold pickA at h
  split at h
  · rename_i hv
    obtain ⟨_, hq⟩ := List.mem_filter.1 h
    have h1 := of_decide_eq_true hq
    rw [itemsA_is rfl] at h1
    have := strong_cnt (fun y hy => ((valid_few hv).2 y hy).1) s L.length (Nat.le_refl _)
    omega
  · simp at h
theorem twice_name {L : List Oj} {s : ByteArray} (h : 0 < cUp L s L.length) : ∃ y ∈ L, s ∈ givesOf y := by
  unfold cUp at h
  obtain ⟨y, hy⟩ := List.exists_mem_of_length_pos h
  obtain ⟨h1, h2⟩ := List.mem_filter.1 hy
  unfold hasS at h2
  rw [List.any_eq_true] at h2
  obtain ⟨x, hx, hxs⟩ := h2
  exact ⟨y, List.mem_of_mem_take h1, by rw [← of_decide_eq_true hxs]; exact hx⟩
theorem one_none {L : List Oj} (h : L.length ≤ 1) : pickA isTwice (L.map Oj.o) = [] := by
  rcases hp : pickA isTwice (L.map Oj.o) with _ | ⟨s, r⟩
  · rfl
  · have h1 := twice_told (L := L) (s := s) (by rw [hp]; simp)
    have := cUp_le L s L.length
    omega
theorem Objs.take1 {w : World} {B : Nat} {a : Option Addr} {L : List Oj} (h : Objs w B a L) : Objs w B a (L.take 1) := by
  refine ⟨fun hn => ?_, fun y hy => h.secs y (List.mem_of_mem_take hy), fun y hy => h.syms y (List.mem_of_mem_take hy)⟩
  obtain ⟨b, off, ha, hb, hc⟩ := h.row (by rw [List.length_take] at hn; omega)
  refine ⟨b, off, ha, hb, fun i y hi => hc i y ?_⟩
  rw [List.getElem?_take] at hi
  split at hi
  · exact hi
  · cases hi
set_option maxRecDepth 100000 in
set_option maxHeartbeats 8000000 in
theorem law_NamesTwice (w : World) (a0 : Option Addr) (len cap : Nat) (h : Came w a0 len cap) :
    Calls Try.prog 6 #[.slice a0 len cap] w fun e w' => e = .returned (.bool true) ∧ Below w.heap.size w w' := by
  obtain ⟨l0, h, rfl, hcap, hmax⟩ := h
  by_cases hbig : 1048576 < l0.length
  · have hd : (1048576 : Int) < (l0.length : Int) := by omega
    go_enter Try.func6, Try.ntmps6
    go_wp2
    go_ret
    exact ⟨rfl, Below.refl _ _⟩
  have hd : ¬ (1048576 : Int) < (l0.length : Int) := by omega
  have HD := hidden (drawNamesTwice_cap w a0 cap l0 h hcap hmax)
  clear h
  go_enter Try.func6, Try.ntmps6
  go_wp2_with fail
  refine HD.out.mono ?_
  clear HD
  rintro e w1 ⟨a, c, L, rfl, ⟨hc1, hc2⟩, hL5, hfew, hO, hb1⟩
  have hft : ∀ y ∈ L, y.fits := fun y hy => (hfew y hy).fits
  obtain ⟨R, hR⟩ : ∃ R, pickA isTwice (L.map Oj.o) = R := ⟨_, rfl⟩
  have hR6 : R.length ≤ 1048576 := by rw [← hR]; exact pickA_few
  have HGF : Hid (∀ s ∈ R, 2 ≤ cUp L s L.length) := fun s hs => by
    rw [← hR] at hs
    exact twice_told hs
  have HWL : Hid (∀ y ∈ L, (givesOf y).length ≤ 20) := fun y hy => Nat.le_trans (namesIf_less _ _ _) (hfew y hy).n2
  obtain ⟨nL, hnL⟩ : ∃ n, L.length = n := ⟨_, rfl⟩
  obtain ⟨q, hq⟩ : ∃ n, R.length = n := ⟨_, rfl⟩
  have HIM : Hid (Calls Try.prog 25 #[.slice a nL c] w1 fun e w' => ∃ (sa : Option Addr) (sc : Nat), e = .returned (.slice sa q sc) ∧ Vals w' w'.heap.size sa (R.map Value.string) ∧ Below w1.heap.size w1 w') := by
    have := namesTwice_any w1 w1.heap.size a c nL L hnL.symm hO (Nat.le_refl _) (by omega) hft
    rw [hR] at this
    refine this.mono fun e w' h => ?_
    have := h.vals
    rwa [hq] at this
  have HSP : Hid (∀ W, Below w1.heap.size w1 W → Calls Try.prog 26 #[.slice a nL c] W (Named W R)) := fun W hB => by
    have := namesTwice'_any W w1.heap.size a c nL L hnL.symm (hO.below hB) hB.size (by omega) hft
    rwa [hR] at this
  have HT1 : Hid (∀ W, Below w1.heap.size w1 W → 0 < nL → Calls Try.prog 25 #[.slice a 1 c] W fun e w' => ∃ (sa : Option Addr) (sc : Nat), e = .returned (.slice sa 0 sc) ∧ Below W.heap.size W w') := fun W hB hp => by
    have h1 : 1 = (L.take 1).length := by rw [List.length_take]; omega
    have := namesTwice_any W w1.heap.size a c 1 (L.take 1) h1 (hO.below hB).take1 hB.size (by omega) (fun y hy => hft y (List.mem_of_mem_take hy))
    rw [one_none (by omega)] at this
    exact this.mono fun e w' ⟨sa, sc, he, _, hb⟩ => ⟨sa, sc, he, hb⟩
  have HNW : Hid (∀ (W : World) (y : Oj), y ∈ L → Below w1.heap.size w1 W → Calls Try.prog 13 #[.agg #[.slice y.a1 y.l.length y.c1, .slice y.a2 y.ms.length y.c2]] W fun e w' => ∃ (sa : Option Addr) (sc : Nat), e = .returned (.slice sa (givesOf y).length sc) ∧ Vals w' w'.heap.size sa ((givesOf y).map Value.string) ∧ Below W.heap.size W w') := fun W y hy hB =>
    (wantNamesGiven W w1.heap.size y.a1 y.a2 y.c1 y.c2 y.l y.ms ((hO.secs y hy).below hB) ((hO.syms y hy).below hB) hB.size (hft y hy).1 (hft y hy).2.1 (hft y hy).2.2.1 (hft y hy).2.2.2).mono fun e w' h => h.vals
  have HAT : Hid (∀ (j : Nat) (y : Oj), L[j]? = some y → ∃ b off, a = some ⟨b, off, none⟩ ∧ ∀ W, Below w1.heap.size w1 W → W.cell? ⟨b, off + j * 2, none⟩ = some (.slice y.a1 y.l.length y.c1) ∧ W.cell? ⟨b, off + j * 2 + 1, none⟩ = some (.slice y.a2 y.ms.length y.c2)) := fun j y hj => by
    have hjl := (List.getElem?_eq_some_iff.1 hj).1
    obtain ⟨b, off, e1, hb, h1, h2⟩ := hO.at_ hjl
    rw [(List.getElem?_eq_some_iff.1 hj).2] at h1 h2
    exact ⟨b, off, e1, fun W hB => ⟨(hB.cell (by show b < _; exact hb)).trans h1, (hB.cell (by show b < _; exact hb)).trans h2⟩⟩
  have HES : Hid (∀ (W : World) (B1 B2 : Nat) (x1 x2 : Option Addr) (d1 d2 : Nat), Vals W B1 x1 (R.map Value.string) → Vals W B2 x2 (R.map Value.string) → Calls Try.prog 14 #[.slice x1 q d1, .slice x2 q d2] W fun e w' => e = .returned (.bool true) ∧ Below W.heap.size W w') := fun W B1 B2 x1 x2 d1 d2 k1 k2 =>
    (sameTexts_yes W B1 B2 x1 x2 d1 d2 q R hq.symm k1 k2 (by omega)).mono fun e w' ⟨he, n, hn⟩ => ⟨he, by rw [hn]; exact below_drewN (Below.refl _ _) n⟩
  have HQ := hidden hq
  have HNL := hidden hnL
  have HB1 := hidden hb1
  rw [hnL]
  rw [hnL] at hL5 hc1
  rw [hq] at hR6
  unfold Named at HSP
  rw [hq] at HSP
  clear hft hfew hO hb1 hnL hq hR hd hbig
  go_wp2_with fail
  refine HIM.out.mono ?_
  clear HIM
  rintro e w3 ⟨xa, xc, rfl, hv3, hb3⟩
  have HC3 := hidden hb3
  have HV3 := hidden hv3
  have HS3 := hidden (HSP.out w3 hb3)
  clear hv3 hb3 HSP
  go_wp2_with fail
  refine HS3.out.mono ?_
  clear HS3
  rintro e w4 ⟨vb, vo, vc, rfl, _, _, hvb, hvcs, hb4⟩
  have HC4 := hidden (HC3.out.trans (hb4.mono HC3.out.size))
  have HV4 := hidden ((HV3.out.below hb4).more hb4.size)
  have HE4 := hidden (HES.out w4 w4.heap.size w4.heap.size xa (some ⟨vb, vo, none⟩) xc vc HV4.out (fun _ => ⟨vb, vo, rfl, hvb, hvcs⟩))
  clear hvb hvcs hb4 HC3 HV3 HES
  go_wp2_with fail
  refine HE4.out.mono ?_
  clear HE4
  rintro e w5 ⟨rfl, hb5⟩
  have HC5 := hidden (HC4.out.trans (hb5.mono HC4.out.size))
  have HV5 := hidden ((HV4.out.below hb5).more hb5.size)
  clear hb5 HC4 HV4
  go_wp2_with fail
  go_loopw [5] (fun i wr => ∃ k : Nat, i = .int .i64 k ∧ k ≤ q ∧ Below w5.heap.size w5 wr) (fun i _ => q - (intOf i).toNat)
  case atStart => exact ⟨0, rfl, Nat.zero_le _, Below.refl _ _⟩
  case round =>
    obtain ⟨k, rfl, hk, hb⟩ := hrel
    by_cases hlt : k < q
    · have hi : (k : Int) < (q : Int) := by omega
      have hkS : k < R.length := by rw [HQ.out]; exact hlt
      obtain ⟨xb, xo, rfl, hxb, hxc⟩ := HV5.out (by rw [List.length_map]; omega)
      obtain ⟨s, hs⟩ : ∃ s, R[k]? = some s := ⟨_, List.getElem?_eq_getElem hkS⟩
      have HWT := hidden (HGF.out s (List.mem_of_getElem? hs))
      have HXV : Hid (∀ W, Below w5.heap.size w5 W → W.cell? ⟨xb, xo + k, none⟩ = some (.string s)) := fun W hW => (hW.cell (by show xb < _; exact hxb)).trans (hxc k _ (by rw [List.getElem?_map, hs]; rfl))
      have HB6 := hidden hb
      have HLT := hidden hlt
      clear hs hkS hxb hxc hb hlt
      go_wp2_with fail
      go_loopw [6, 7] (fun b i wr => ∃ (j M : Nat), i = .int .i64 j ∧ b = .int .i64 M ∧ j ≤ nL ∧ M ≤ 20 * j ∧ Hid (cUp L s j ≤ M) ∧ Below w5.heap.size w5 wr) (fun _ i _ => nL - (intOf i).toNat)
      case atStart => exact ⟨0, 0, rfl, rfl, Nat.zero_le _, Nat.zero_le _, by show _ ≤ _; simp [cUp], HB6.out⟩
      case round =>
        clear HB6
        obtain ⟨j, M, rfl, rfl, hj, hM, HBB, hb⟩ := hrel
        by_cases hjl : j < nL
        · have hji : (j : Int) < (nL : Int) := by omega
          obtain ⟨y, hy⟩ : ∃ y, L[j]? = some y := ⟨_, List.getElem?_eq_getElem (by rw [HNL.out]; exact hjl)⟩
          obtain ⟨b, off, rfl, hat⟩ := HAT.out j y hy
          obtain ⟨c0, c1⟩ := hat wr (HC5.out.trans (hb.mono HC5.out.size))
          have hym := List.mem_of_getElem? hy
          have HN := hidden (HNW.out wr y hym (HC5.out.trans (hb.mono HC5.out.size)))
          have hS20 := HWL.out y hym
          have HUP : Hid (cUp L s (j + 1) = cUp L s j + if hasS (givesOf y) s then 1 else 0) := cUp_succ hy
          obtain ⟨S, hS⟩ : ∃ S, givesOf y = S := ⟨_, rfl⟩
          rw [hS] at HN HUP hS20
          obtain ⟨yl, ym, ya1, yc1, ya2, yc2⟩ := y
          simp only at c0 c1 HN
          have HB := hidden hb
          clear hS hym hy hat hb
          go_wp2_with fail
          refine HN.out.mono ?_
          clear HN c0 c1
          rintro e w7 ⟨sa, sc, rfl, hv7, hb7⟩
          obtain ⟨nS, hnS⟩ : ∃ n, S.length = n := ⟨_, rfl⟩
          have HNS := hidden hnS
          have HB7 := hidden (HB.out.trans (hb7.mono HB.out.size))
          have HV7 := hidden hv7
          rw [hnS] at hS20 ⊢
          clear hnS hv7 hb7 HB
          go_wp2_with fail
          go_loopw [6, 9] (fun b i wr => ∃ (t M : Nat), i = .int .i64 t ∧ b = .int .i64 M ∧ t ≤ nS ∧ M ≤ 20 * j + t ∧ Hid (cUp L s j + (if hasS (S.take t) s then 1 else 0) ≤ M) ∧ Below w7.heap.size w7 wr) (fun _ i _ => nS - (intOf i).toNat)
          case atStart => exact ⟨0, M, rfl, rfl, Nat.zero_le _, hM, by show _ ≤ _; have := HBB.out; simpa [hasS] using this, Below.refl _ _⟩
          case round =>
            clear HBB hM
            obtain ⟨t, M, rfl, rfl, ht, hM, HBB, hb⟩ := hrel
            have HB9 := hidden (HB7.out.trans (hb.mono HB7.out.size))
            have HB := hidden hb
            clear hb
            by_cases htl : t < nS
            · have hti : (t : Int) < (nS : Int) := by omega
              have htS : t < S.length := by rw [HNS.out]; exact htl
              obtain ⟨sb, so, rfl, hsb, hsc⟩ := HV7.out (by rw [List.length_map]; omega)
              obtain ⟨r, hr⟩ : ∃ r, S[t]? = some r := ⟨_, List.getElem?_eq_getElem htS⟩
              have z0 : wr.cell? ⟨sb, so + t, none⟩ = some (.string r) := (HB.out.cell (by show sb < _; exact hsb)).trans (hsc t _ (by rw [List.getElem?_map, hr]; rfl))
              have z1 := HXV.out wr HB9.out
              have HTS : Hid (hasS (S.take (t + 1)) s = (hasS (S.take t) s || decide (r = s))) := mem_take_succ hr
              clear hsb hsc hr htS
              by_cases hrs : r = s
              · subst hrs
                have HN2 : Hid (cUp L r j + (if hasS (S.take (t + 1)) r then 1 else 0) ≤ M + 1) := by
                  show _ ≤ _
                  have := HBB.out
                  split <;> split at this <;> omega
                clear HBB HTS
                go_wp2_with fail
                go_quiet (fail)
                go_wp2_with fail
                go_roundw
                case rel => exact ⟨t + 1, M + 1, by go_num, by go_num, htl, by omega, HN2, below_drewN HB.out _⟩
                case measure => simp [intOf]; omega
              · have hne := str_ne hrs
                have HN2 : Hid (cUp L s j + (if hasS (S.take (t + 1)) s then 1 else 0) ≤ M) := by
                  show _ ≤ _
                  rw [HTS.out, decide_eq_false hrs, Bool.or_false]
                  exact HBB.out
                clear HBB HTS hrs
                go_wp2_with fail
                go_quiet (fail)
                go_wp2_with fail
                go_roundw
                case rel => exact ⟨t + 1, M, by go_num, rfl, htl, by omega, HN2, below_drewN HB.out _⟩
                case measure => simp [intOf]; omega
            · have hti : ¬ (t : Int) < (nS : Int) := by omega
              have HN2 : Hid (cUp L s (j + 1) ≤ M) := by
                show _ ≤ _
                have := HBB.out
                rw [List.take_of_length_le (by rw [HNS.out]; omega)] at this
                rw [HUP.out]; exact this
              clear HBB HUP
              go_wp2_with fail
              go_roundw
              case rel => exact ⟨j + 1, M, by go_num, rfl, hjl, by omega, HN2, HB9.out⟩
              case measure => simp [intOf]; omega
        · have hji : ¬ (j : Int) < (nL : Int) := by omega
          have hM2 : ¬ (M : Int) < 2 := by
            have h1 := HBB.out
            have h2 := HWT.out
            have e : j = L.length := by rw [HNL.out]; omega
            rw [e] at h1
            omega
          have HB := hidden hb
          clear hb HBB HWT
          go_wp2_with fail
          go_roundw
          case rel => exact ⟨k + 1, by go_num, HLT.out, HB.out⟩
          case measure => have := HLT.out; simp [intOf]; omega
    · have hi : ¬ (k : Int) < (q : Int) := by omega
      have HF : Hid (Below w.heap.size w wr) := HB1.out.trans ((HC5.out.trans (hb.mono HC5.out.size)).mono HB1.out.size)
      have HC9 := hidden (HC5.out.trans (hb.mono HC5.out.size))
      clear hlt hb
      by_cases hz : nL = 0
      · have hz' : ((nL : Int) == 0) = true := by simp [hz]
        clear hz
        go_wp2_with (go_at_call 17; refine (alive_any _).mono ?_; rintro e _ ⟨rfl, rfl⟩)
        go_ret
        exact ⟨rfl, HF.out⟩
      · have hz' : ((nL : Int) == 0) = false := by simp [hz]
        obtain ⟨y, hy⟩ : ∃ y, L[0]? = some y := ⟨_, List.getElem?_eq_getElem (by rw [HNL.out]; omega)⟩
        obtain ⟨b, off, rfl, _⟩ := HAT.out 0 y hy
        have HT := hidden (HT1.out wr HC9.out (by omega))
        have hc3 : 1 ≤ c := by omega
        have hc4 : (1 : Int) ≤ (c : Int) := by omega
        clear hz hy HT1
        go_wp2_with fail
        refine HT.out.mono ?_
        clear HT
        rintro e w9 ⟨sa, sc, rfl, hb9⟩
        have HF9 := hidden (HF.out.trans (hb9.mono HF.out.size))
        clear hb9
        go_wp2_with (go_at_call 17; refine (alive_any _).mono ?_; rintro e _ ⟨rfl, rfl⟩)
        go_ret
        exact ⟨rfl, HF9.out⟩

end Go.Proofs.Ytjakkiidedmifaa

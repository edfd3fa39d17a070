/-
  The walk of FnNamesWanted, over what is wanted of the program.
-/
import Derived.Test.YtdbedkjnoppkmaaDrawOV
import Derived.Test.YtdbedkjnoppkmaaLawO2
import Derived.Test.YtdbedkjnoppkmaaSameT
import Derived.Test.YtdbedkjnoppkmaaSortP
import Derived.Test.YtdbedkjnoppkmaaLawO5P
namespace Go.Proofs.Ytdbedkjnoppkmaa
open Go.RowKit

theorem mem_namesIf {p : Sm → Bool} {ss : List Sx} {ms : List Sm} {s : ByteArray} (h : s ∈ namesIf p ss ms) : objOk ss ms = true ∧ ∃ m ∈ ms, p m = true ∧ m.name = s := by
  unfold namesIf at h
  split at h
  · rename_i ho
    refine ⟨ho, ?_⟩
    unfold namesOf at h
    rw [mem_fold_iff] at h
    rcases h with h | h
    · cases h
    · obtain ⟨m, hm, e⟩ := List.mem_map.1 h
      exact ⟨m, (List.mem_filter.1 hm).1, (List.mem_filter.1 hm).2, e⟩
  · cases h
theorem wants_gives {ss : List Sx} {ms : List Sm} {s t : ByteArray} (h1 : s ∈ namesIf wants ss ms) (h2 : t ∈ namesIf gives ss ms) : t ≠ s := by
  rintro rfl
  obtain ⟨ho, m, hm, hp, hn⟩ := mem_namesIf h1
  obtain ⟨-, m', hm', hp', hn'⟩ := mem_namesIf h2
  have hs : symsOk ss [] ms = true := by
    unfold objOk at ho
    simp only [Bool.and_eq_true] at ho
    exact ho.2.1
  obtain ⟨k1, -, k3⟩ := symsOk_told ss ms [] hs
  have hl : m.loc = -1 := by simpa [wants] using hp
  have hb : m.bind ≠ 0 := by
    have := k1 m hm
    unfold symOk at this
    rw [if_pos hl] at this
    simp only [Bool.and_eq_true, decide_eq_true_eq] at this
    exact this.2.2
  obtain ⟨hl', hb'⟩ : m'.loc ≠ -1 ∧ m'.bind ≠ 0 := by simpa [gives] using hp'
  obtain ⟨i, hi, ei⟩ := List.mem_iff_getElem.1 hm
  obtain ⟨j, hj, ej⟩ := List.mem_iff_getElem.1 hm'
  have c1 : clash m m' = true := by simp [clash, hn, hn', hb, hb']
  have c2 : clash m' m = true := by simp [clash, hn, hn', hb, hb']
  rw [List.pairwise_iff_getElem] at k3
  rcases Nat.lt_trichotomy i j with h | h | h
  · have := k3 i j hi hj h
    rw [ei, ej, c1] at this; cases this
  · subst h
    rw [ei] at ej
    exact hl' (ej ▸ hl)
  · have := k3 j i hj hi h
    rw [ei, ej, c2] at this; cases this
theorem namesIf_sorted (p : Sm → Bool) (ss : List Sx) (ms : List Sm) : SortedS (namesIf p ss ms) := by
  unfold namesIf
  split
  · exact sorted_fold _ [] List.Pairwise.nil
  · exact List.Pairwise.nil
theorem namesIf_less (p : Sm → Bool) (ss : List Sx) (ms : List Sm) : (namesIf p ss ms).length ≤ ms.length := by
  unfold namesIf
  split
  · have := namesOf_length p ms []
    unfold namesOf
    simpa using this
  · simp
/-- A row of names of its own, read. -/
theorem FreshS.vals {w w' : World} {S : List ByteArray} {e : Ending} (h : FreshS w S e w') : ∃ (a : Option Addr) (c : Nat), e = .returned (.slice a S.length c) ∧ Vals w' w'.heap.size a (S.map Value.string) ∧ Below w.heap.size w w' := by
  obtain ⟨a, c, he, hr, hb⟩ := h
  refine ⟨a, c, he, fun hn => ?_, hb⟩
  obtain ⟨g, cs, ha, _, hh, _, hc⟩ := hr (by simpa using hn)
  refine ⟨g, 0, ha, hh.lt, fun i u hu => ?_⟩
  rw [List.getElem?_map] at hu
  cases hs : S[i]? with
  | none => rw [hs] at hu; cases hu
  | some s =>
    rw [hs] at hu
    injection hu with hu
    rw [← hu, Nat.zero_add, hh.cell i]
    exact hc i s hs
set_option maxRecDepth 100000 in
set_option maxHeartbeats 2000000 in
theorem law_NamesWanted (hW : WantNamesWanted) (hG : WantNamesGiven) (w : World) (a0 : Option Addr) (len cap : Nat) (h : Came w a0 len cap) :
    Calls Try.prog 5 #[.slice a0 len cap] w fun e w' => e = .returned (.bool true) ∧ Below w.heap.size w w' := by
  obtain ⟨l0, h, rfl, hcap, hmax⟩ := h
  by_cases hbig : 1048576 < l0.length
  · have hd : (1048576 : Int) < (l0.length : Int) := by omega
    go_enter Try.func5, Try.ntmps5
    go_wp2
    go_ret
    exact ⟨rfl, Below.refl _ _⟩
  have hd : ¬ (1048576 : Int) < (l0.length : Int) := by omega
  have HD := hidden (drawNamesWanted_any w a0 cap l0 h hcap hmax)
  have HW := hidden hW
  have HG := hidden hG
  clear h hW hG
  go_enter Try.func5, Try.ntmps5
  go_wp2_with fail
  refine HD.out.mono ?_
  clear HD
  rintro e w1 ⟨ss, ms, a1, a2, c1, c2, rfl, hl1, hl2, hsm, hmm, hS, hM, -, hb1⟩
  have hfs : ∀ y ∈ ss, y.s.fits := fun y hy => (hsm y hy).fits'
  have hfm : ∀ x ∈ ms, x.fits := fun x hx => (hmm x hx).fits
  obtain ⟨S, hSn⟩ : ∃ S, namesIf wants (ss.map Sp.s) ms = S := ⟨_, rfl⟩
  obtain ⟨G, hGn⟩ : ∃ S, namesIf gives (ss.map Sp.s) ms = S := ⟨_, rfl⟩
  have HNE : Hid (∀ s ∈ S, ∀ t ∈ G, t ≠ s) := fun s hs t ht => by rw [← hSn] at hs; rw [← hGn] at ht; exact wants_gives hs ht
  have HSO : Hid (SortedS S) := by show SortedS S; rw [← hSn]; exact namesIf_sorted _ _ _
  have hS20 : S.length ≤ 20 := by rw [← hSn]; exact Nat.le_trans (namesIf_less _ _ _) hl2
  have hG20 : G.length ≤ 20 := by rw [← hGn]; exact Nat.le_trans (namesIf_less _ _ _) hl2
  obtain ⟨ns, hns⟩ : ∃ n, ss.length = n := ⟨_, rfl⟩
  obtain ⟨nm, hnm⟩ : ∃ n, ms.length = n := ⟨_, rfl⟩
  have HIM : Hid (∀ W, Below w1.heap.size w1 W → Calls Try.prog 18 #[.agg #[.slice a1 ns c1, .slice a2 nm c2]] W (FreshS W S)) := fun W hB => by
    have := HW.out W w1.heap.size a1 a2 c1 c2 ss ms (hS.below hB) (hM.below hB) hB.size (by omega) (by omega) hfs hfm
    rwa [hSn, hns, hnm] at this
  have HIG : Hid (∀ W, Below w1.heap.size w1 W → Calls Try.prog 21 #[.agg #[.slice a1 ns c1, .slice a2 nm c2]] W (FreshS W G)) := fun W hB => by
    have := HG.out W w1.heap.size a1 a2 c1 c2 ss ms (hS.below hB) (hM.below hB) hB.size (by omega) (by omega) hfs hfm
    rwa [hGn, hns, hnm] at this
  have HSP : Hid (∀ W, Below w1.heap.size w1 W → Calls Try.prog 20 #[.agg #[.slice a1 ns c1, .slice a2 nm c2]] W (Named W S)) := fun W hB => by
    have := namesWanted'_any W w1.heap.size a1 a2 c1 c2 ss.length ms.length ss ms rfl rfl (hS.below hB) (hM.below hB) hB.size (by omega) (by omega) (fun y hy => (hfs y hy).lens) (fun x hx => (hfm x hx).name)
    rwa [hSn, hns, hnm] at this
  obtain ⟨q, hq⟩ : ∃ q, S.length = q := ⟨_, rfl⟩
  obtain ⟨r, hr⟩ : ∃ r, G.length = r := ⟨_, rfl⟩
  have HES : Hid (∀ (W : World) (B1 B2 : Nat) (x1 x2 : Option Addr) (d1 d2 : Nat), Vals W B1 x1 (S.map Value.string) → Vals W B2 x2 (S.map Value.string) → Calls Try.prog 19 #[.slice x1 q d1, .slice x2 q d2] W fun e w' => e = .returned (.bool true) ∧ ∃ n, w' = W.drewN n) := fun W B1 B2 x1 x2 d1 d2 k1 k2 =>
    sameTexts_yes W B1 B2 x1 x2 d1 d2 q S hq.symm k1 k2 (by omega)
  have hB0 : Below w.heap.size w (w1.alloc (.cells #[.slice a1 ns c1, .slice a2 nm c2] 33)) := hb1.alloc hb1.size _
  have hC0 : Below w1.heap.size w1 (w1.alloc (.cells #[.slice a1 ns c1, .slice a2 nm c2] 33)) := (Below.refl _ _).alloc (Nat.le_refl _) _
  have hx0 : Has (w1.alloc (.cells #[.slice a1 ns c1, .slice a2 nm c2] 33)) w1.heap.size 33 #[.slice a1 ns c1, .slice a2 nm c2] := Has.new _ _ _
  have HQ := hidden hq
  have HR := hidden hr
  rw [hns, hnm]
  rw [hq] at hS20
  rw [hr] at hG20
  clear hS hM hns hnm hsm hmm hfs hfm HW HG hb1 hSn hGn hq hr
  go_wp2_with fail
  refine (HIM.out _ hC0).mono ?_
  clear HIM
  intro e w2 hfr
  obtain ⟨xa, xc, rfl, hv2, hb2⟩ := hfr.vals
  have hB2 := hB0.trans (hb2.mono hB0.size)
  have hC2 := hC0.trans (hb2.mono hC0.size)
  have hx2 := hx0.below hb2 hx0.lt
  have x0 : w2.cell? ⟨w1.heap.size, 0, none⟩ = some (.slice a1 ns c1) := hx2.cell 0
  have x1 : w2.cell? ⟨w1.heap.size, 1, none⟩ = some (.slice a2 nm c2) := hx2.cell 1
  have HX2 := hidden hx2
  have HV2 := hidden hv2
  clear hx0 hx2 hB0 hC0 hb2 hfr hv2
  rw [HQ.out]
  go_wp2_with fail
  refine (HSP.out w2 hC2).mono ?_
  clear HSP x0 x1
  rintro e w3 ⟨vb, vo, vc, rfl, hvc, hvm, hvb, hvcs, hb3⟩
  have hB3 := hB2.trans (hb3.mono hB2.size)
  have hC3 := hC2.trans (hb3.mono hC2.size)
  have hx3 := HX2.out.below hb3 HX2.out.lt
  have HV3 := hidden (HV2.out.below hb3)
  have HE3 := hidden (HES.out w3 w2.heap.size w3.heap.size xa (some ⟨vb, vo, none⟩) xc vc HV3.out (fun _ => ⟨vb, vo, rfl, hvb, hvcs⟩))
  have x0 : w3.cell? ⟨w1.heap.size, 0, none⟩ = some (.slice a1 ns c1) := hx3.cell 0
  have x1 : w3.cell? ⟨w1.heap.size, 1, none⟩ = some (.slice a2 nm c2) := hx3.cell 1
  have s23 := hb3.size
  clear HX2 HV2 hvc hvm hvb hvcs hb3 hB2 hC2 HES hx3
  rw [HQ.out]
  go_wp2_with fail
  refine HE3.out.mono ?_
  clear HE3
  rintro e _ ⟨rfl, n, rfl⟩
  have HI3 := hidden (HIG.out (w3.drewN n) (below_drewN hC3 n))
  have HV4 : Hid (Vals (w3.drewN n) w2.heap.size xa (S.map Value.string)) := HV3.out.drewN n
  have hB4 := below_drewN hB3 n
  clear HV3 HIG
  go_wp2_with fail
  refine HI3.out.mono ?_
  clear HI3
  intro e w5 hfr
  obtain ⟨ga, gc, rfl, hv5, hb5⟩ := hfr.vals
  have HV5 := hidden (HV4.out.below (hb5.mono (show w2.heap.size ≤ (w3.drewN n).heap.size from s23)))
  have HG5 := hidden hv5
  have HB5 := hidden (hB4.trans (hb5.mono hB4.size))
  clear hfr hv5 hb5 HV4 hB4 hB3 hC3 x0 x1 s23
  rw [HR.out]
  go_wp2_with fail
  go_loopw [6] (fun i wr => ∃ (k : Nat) (p : Nat), i = .int .i64 k ∧ k ≤ q ∧ wr = w5.drewN p) (fun i _ => q - (intOf i).toNat)
  case atStart => exact ⟨0, 0, rfl, Nat.zero_le _, rfl⟩
  case round =>
    obtain ⟨k, p, rfl, hk, rfl⟩ := hrel
    by_cases hlt : k < q
    · have hi : (k : Int) < (q : Int) := by omega
      have hkS : k < S.length := by rw [HQ.out]; exact hlt
      obtain ⟨b1, o1, rfl, _, e1⟩ := HV5.out.at_ (i := k) (by rw [List.length_map]; exact hkS)
      obtain ⟨s, hs⟩ : ∃ s, S[k] = s := ⟨_, rfl⟩
      have hsS : s ∈ S := by rw [← hs]; exact List.getElem_mem hkS
      have E1 : Hid (w5.cell? ⟨b1, o1 + k, none⟩ = some (.string s)) := by rw [List.getElem_map, hs] at e1; exact e1
      have HNS : Hid (∀ t ∈ G, t ≠ s) := HNE.out s hsS
      have HLT := hidden hlt
      clear e1 hsS
      go_wp2_with fail
      go_loopw [7] (fun i wr => ∃ (j : Nat) (p : Nat), i = .int .i64 j ∧ j ≤ r ∧ wr = w5.drewN p) (fun i _ => r - (intOf i).toNat)
      case atStart => exact ⟨0, p, rfl, Nat.zero_le _, rfl⟩
      case round =>
        obtain ⟨j, p, rfl, hj, rfl⟩ := hrel
        by_cases hjr : j < r
        · have hi2 : (j : Int) < (r : Int) := by omega
          have hjG : j < G.length := by rw [HR.out]; exact hjr
          obtain ⟨b2, o2, rfl, _, e2⟩ := HG5.out.at_ (i := j) (by rw [List.length_map]; exact hjG)
          obtain ⟨t, ht⟩ : ∃ t, G[j] = t := ⟨_, rfl⟩
          have e2' : w5.cell? ⟨b2, o2 + j, none⟩ = some (.string t) := by rw [List.getElem_map, ht] at e2; exact e2
          have hts := str_ne (HNS.out t (by rw [← ht]; exact List.getElem_mem hjG))
          have e1 := E1.out
          have HJ := hidden hjr
          clear e2 ht hjG hjr hkS hs
          go_wp2_with fail
          go_quiet (fail)
          go_wp2_with fail
          go_roundw
          case rel => exact ⟨j + 1, _, by go_num, HJ.out, rfl⟩
          case measure => have := HJ.out; simp [intOf]; omega
        · have hi2 : ¬ (j : Int) < (r : Int) := by omega
          rcases Nat.eq_zero_or_pos k with hk0 | hkp
          · subst hk0
            clear hjr hkS hs
            go_wp2_with fail
            go_quiet (fail)
            go_wp2_with fail
            go_roundw
            case rel => exact ⟨1, _, rfl, HLT.out, rfl⟩
            case measure => have := HLT.out; simp [intOf]; omega
          · obtain ⟨k', rfl⟩ : ∃ k', k = k' + 1 := ⟨k - 1, by omega⟩
            have hkS' : k' < S.length := by omega
            obtain ⟨b3, o3, eb, _, e3⟩ := HV5.out.at_ (i := k') (by rw [List.length_map]; exact hkS')
            injection eb with eb
            injection eb with eb1 eb2
            subst eb1
            subst eb2
            obtain ⟨s', hs'⟩ : ∃ s, S[k'] = s := ⟨_, rfl⟩
            have e3' : w5.cell? ⟨b1, o1 + k', none⟩ = some (.string s') := by rw [List.getElem_map, hs'] at e3; exact e3
            have hss : Op.bytesLess s'.toList s.toList = true := by
              have := List.pairwise_iff_getElem.1 HSO.out k' (k' + 1) hkS' hkS (by omega)
              rw [hs, hs'] at this
              exact this
            have hns : Op.bytesLess s.toList s'.toList = false := by
              rcases hb : Op.bytesLess s.toList s'.toList with _ | _
              · rfl
              · have := less_trans _ _ _ hss hb
                rw [less_irrefl] at this; cases this
            have hnq : (s.toList == s'.toList) = false := str_ne fun e => by rw [e, less_irrefl] at hss; cases hss
            clear hss
            have e1 := E1.out
            have hk0 : (0 : Int) < (k' : Int) + 1 := by omega
            have hkq : (k' : Int) < (q : Int) := by omega
            clear hjr hkS hs hs' e3 hkS'
            go_wp2_with fail
            go_quiet (fail)
            go_wp2_with fail
            refine ⟨⟨k' + 1 + 1, _, by go_num, HLT.out, rfl⟩, ?_⟩
            have := HLT.out
            simp [intOf]
            omega
    · have hi : ¬ (k : Int) < (q : Int) := by omega
      clear hlt
      go_wp2_with (go_at_call 13; refine (alive_any _).mono ?_; rintro e _ ⟨rfl, rfl⟩)
      go_ret
      exact ⟨rfl, below_drewN HB5.out _⟩

end Go.Proofs.Ytdbedkjnoppkmaa

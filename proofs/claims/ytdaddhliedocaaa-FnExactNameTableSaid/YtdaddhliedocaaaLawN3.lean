/-
  The walk of FnNameTable, over what is wanted of the program.
-/
import Derived.Test.YtdaddhliedocaaaLawN1
import Derived.Test.YtdaddhliedocaaaSame
import Derived.Test.YtdaddhliedocaaaTableS
import Derived.Test.YtdaddhliedocaaaDrawN
import Derived.Deep.QuietTactic
import Derived.BigQuiet
import Derived.Deep.OwnRows
namespace Go.Proofs.Ytdaddhliedocaaa
open Go.RowKit

theorem only_below {w w' : World} (h : Below w.heap.size w w') : w.grownBy w' none := ⟨h.os, h.tape, h.output, h.size, fun i hi _ => h.block i hi⟩
theorem mem_rev (l : List ByteArray) (x : ByteArray) : x ∈ l.reverse ↔ x ∈ l := List.mem_reverse
theorem nameTab_turned (ss : List ByteArray) : nameTab ss.reverse = nameTab ss := nameTab_members (fun x => mem_rev ss x) (by rw [List.length_reverse])
theorem turned_next {ss : List ByteArray} {j : Nat} {s : ByteArray} (h : ss[j]? = some s) : (ss.drop (j + 1)).reverse ++ [s] = (ss.drop j).reverse := by
  have hj : j < ss.length := by
    rcases Nat.lt_or_ge j ss.length with h1 | h1
    · exact h1
    · rw [List.getElem?_eq_none h1] at h; cases h
  rw [List.drop_eq_getElem_cons hj, List.reverse_cons]
  rw [List.getElem?_eq_getElem hj] at h
  injection h with h
  rw [h]
set_option maxRecDepth 100000 in
set_option maxHeartbeats 2000000 in
theorem law_NameTable (hT : WantNameTable) (hI : WantNameAt) (hP : WantPlaceOf) (w : World) (a0 : Option Addr) (len cap : Nat) (h : Came w a0 len cap) :
    Calls Try.prog 4 #[.slice a0 len cap] w fun e w' => e = .returned (.bool true) ∧ Below w.heap.size w w' := by
  obtain ⟨i0, hi, hz0, hz1, hz2⟩ := info_parts Try.info_str
  obtain ⟨l0, h, rfl, hcap, hmax⟩ := h
  by_cases hbig : 1048576 < l0.length
  · have hd : (1048576 : Int) < (l0.length : Int) := by omega
    go_enter Try.func4, Try.ntmps4
    go_wp2
    go_ret
    exact ⟨rfl, Below.refl _ _⟩
  have hd : ¬ (1048576 : Int) < (l0.length : Int) := by omega
  go_enter Try.func4, Try.ntmps4
  go_wp2_with fail
  refine (drawNameTable_any w a0 cap l0 h hcap hmax).mono ?_
  rintro e w1 ⟨v, ss, rfl, hown, hs9, hn41, hb⟩
  clear h
  have hown1 : w1.ownsRow w.heap.size 9 1 v (ss.map Value.string).length (ss.map Value.string) := by rw [List.length_map]; exact hown
  obtain ⟨a, c, rfl, hc, hv⟩ := vals_of_own hown1
  rw [List.length_map] at hc ⊢
  have hss : ∀ x ∈ ss, x.size ≤ maxLen := fun x hx => by have := hs9 x hx; unfold maxLen; omega
  clear hown hown1
  go_wp2_with fail
  refine (hT w1 w1.heap.size a c ss hv (Nat.le_refl _) (by omega) hss).mono ?_
  rintro e w2 ⟨a2, c2, rfl, hc2, hm2, hi2, hb2⟩
  have hv2 := hv.below hb2
  go_wp2_with fail
  refine (nameTable'_any w2 w1.heap.size a c ss hv2 hb2.size (by omega) hss).mono ?_
  rintro e w3 ⟨a3, c3, rfl, hc3, hm3, hi3, hb3⟩
  have hv3 := hv2.below (hb3.mono hb2.size)
  have hx3 := hi2.below hb3
  have hB3 := Nat.le_trans hb2.size hb3.size
  have hb13 : Below w.heap.size w w3 := (hb.trans (hb2.mono hb.size)).trans (hb3.mono (Nat.le_trans hb.size hb2.size))
  have hx23 := hb3.size
  clear hv hv2 hi2 hb2 hb3 hb
  go_wp2_with fail
  refine (sameBytes_yes w3 w2.heap.size w3.heap.size a2 a3 c2 c3 (nameTab ss) hx3 hi3 (by unfold maxLen at hm2; omega)).mono ?_
  rintro e _ ⟨rfl, m, rfl⟩
  clear hi3
  by_cases h0 : (nameTab ss).length = 0
  · rw [h0]
    have hfin := hidden (below_drewN hb13 m)
    clear hx3 hv3 hb13 hT hI hP
    go_wp2_with fail
    refine (alive_any _).mono ?_
    rintro e _ ⟨rfl, rfl⟩
    go_wp2_with fail
    go_ret
    exact ⟨rfl, hfin.out⟩
  · have hok : namesOk ss = true := by
      rcases hb : namesOk ss with _ | _
      · rw [nameTab_none hb] at h0; exact absurd rfl h0
      · rfl
    have HF : Hid (∀ (j : Nat) (s : ByteArray), ss[j]? = some s → ∃ q : Nat, firstAt (nameTab ss) s 0 (nameTab ss).length = (q : Int) ∧ (textAt (nameTab ss) q).map strOfNums = some s) := fun j s hj => nameTab_finds hok (List.mem_of_getElem? hj)
    have HR := hidden (nameTab_turned ss)
    have hhd := nameTab_head hok
    obtain ⟨l, hl⟩ : ∃ l, nameTab ss = l := ⟨_, rfl⟩
    rw [hl] at HF HR hhd h0 hx3 hc2 ⊢
    clear hl hok
    have hx0 : Hid (∀ W : World, Below w3.heap.size w3 W → ∃ b off, a2 = some ⟨b, off, none⟩ ∧ W.cell? ⟨b, off, none⟩ = some (.int .u8 0)) := fun W hW => by
      obtain ⟨b, off, ha, _, hcs⟩ := (hx3.below (hW.mono hx23)).2 (by omega)
      refine ⟨b, off, ha, ?_⟩
      have := hcs 0 (by omega)
      rw [Nat.add_zero] at this
      rw [this]
      rcases l with _ | ⟨y, r⟩
      · exact absurd rfl h0
      · simp at hhd ⊢; exact hhd
    have HX := hidden (fun (W : World) (hW : Below w3.heap.size w3 W) => hx3.below (hW.mono hx23))
    have HV := hidden (fun (W : World) (hW : Below w3.heap.size w3 W) => hv3.below (hW.mono hB3))
    obtain ⟨n, hL⟩ : ∃ n, n = ss.length := ⟨_, rfl⟩
    have HL := hidden hL
    have hn41' : n ≤ 41 := by omega
    have hcn : n ≤ c := by omega
    obtain ⟨k2, hk2⟩ : ∃ k, k = l.length := ⟨_, rfl⟩
    have HK := hidden hk2
    have h0' : ¬ k2 = 0 := by omega
    have hk0 : ((k2 : Int) == 0) = false := by simp; omega
    have hc2' : k2 ≤ c2 := by omega
    have HI := hidden hI
    have HP := hidden hP
    have HT := hidden hT
    have HS := hidden hss
    have HB := hidden hb13
    rw [← hL, ← hk2]
    clear hx3 hv3 hhd h0 hL hk2 hI hP hT hss hs9 hc hc2 hn41 hb13
    go_wp2_with fail
    go_loopw [5, 6] (fun v k wr => ∃ (j : Nat), k = .int .i64 ((j : Int) - 1) ∧ j ≤ n ∧ Below w3.heap.size w3 wr ∧
      wr.ownsRow w3.heap.size 9 1 v (ss.drop j).reverse.length ((ss.drop j).reverse.map Value.string))
      (fun _ k _ => (intOf k + 1).toNat)
    case atStart =>
      have hnil : (ss.drop n).reverse = [] := by rw [HL.out, List.drop_length]; rfl
      refine ⟨n, rfl, Nat.le_refl _, (below_drewN (Below.refl _ _) m).alloc (Nat.le_refl _) _, ?_⟩
      rw [hnil]
      exact World.ownsRow_lit (base := w3.heap.size) (e := 9) (size := 1) (w3.drewN m) #[] 0 (Nat.le_refl _) (by unfold maxLen; omega) rfl
    case round =>
      obtain ⟨j, rfl, hj, hbw, hown⟩ := hrel
      rcases j with _ | j
      · have hk : ((0 : Nat) : Int) - 1 = -1 := by omega
        rw [hk]
        rw [List.drop_zero] at hown
        obtain ⟨a5, c5, rfl, hc5, hv5⟩ := vals_of_own (vs := ss.reverse.map Value.string) (by rw [List.length_map]; exact hown)
        have hT5 := HT.out wr wr.heap.size a5 c5 ss.reverse hv5 (Nat.le_refl _) (by rw [List.length_reverse, ← HL.out]; omega) (fun x hx => HS.out x ((mem_rev ss x).1 hx))
        rw [HR.out, List.length_reverse, ← HL.out] at hT5
        rw [List.length_map, List.length_reverse, ← HL.out]
        have HT5 := hidden hT5
        obtain ⟨b, off, rfl, hc0⟩ := hx0.out wr hbw
        clear hT5 hown hv5 hc5 hk hc0
        go_wp2_with fail
        refine HT5.out.mono ?_
        rintro e w4 ⟨a6, c6, rfl, hc6, hm6, hi6, hb6⟩
        have hbw4 := hbw.trans (hb6.mono hbw.size)
        have hsb := sameBytes_yes w4 w4.heap.size w2.heap.size a6 (some ⟨b, off, none⟩) c6 c2 l hi6 (HX.out w4 hbw4) (by unfold maxLen at hm6; omega)
        rw [← HK.out] at hsb ⊢
        obtain ⟨b', off', ha', hcell⟩ := hx0.out w4 hbw4
        cases ha'
        have hfin := hidden (hbw4)
        have HSB := hidden hsb
        clear hsb hi6 hb6 hbw hbw4 HT5
        go_wp2_with fail
        refine HSB.out.mono ?_
        rintro e _ ⟨rfl, m2, rfl⟩
        have hcell2 : (w4.drewN m2).cell? ⟨b, off, none⟩ = some (.int .u8 0) := hcell
        have hk2p : 0 < k2 := by omega
        clear hcell HSB
        go_wp2_with fail
        go_ret
        exact ⟨rfl, below_drewN (HB.out.trans (hfin.out.mono HB.out.size)) _⟩
      · have hk : ((j + 1 : Nat) : Int) - 1 = (j : Int) := by omega
        rw [hk]
        have hjn : j < ss.length := by rw [← HL.out]; omega
        have hll : j < (ss.map Value.string).length := by simpa using hjn
        obtain ⟨b1, o1, rfl, hbB, e1⟩ := (HV.out wr hbw).at_ hll
        have hm : (ss.map Value.string)[j] = .string ss[j] := List.getElem_map ..
        have HRD := hidden (fun (W : World) (hW : Below w3.heap.size w3 W) => by
          obtain ⟨b2, o2, ha2, _, e2⟩ := (HV.out W hW).at_ hll
          cases ha2
          rw [hm] at e2
          exact e2 : ∀ W : World, Below w3.heap.size w3 W → W.cell? ⟨b1, o1 + j, none⟩ = some (.string ss[j]))
        rw [hm] at e1
        have HSJ : Hid (ss[j]? = some ss[j]) := List.getElem?_eq_getElem hjn
        have hsz := HS.out _ (List.getElem_mem hjn)
        obtain ⟨s, hs⟩ : ∃ s, ss[j] = s := ⟨_, rfl⟩
        rw [hs] at e1 HSJ hsz HRD
        have hsz' : s.size ≤ 9223372036854775807 := by unfold maxLen at hsz; omega
        have hnb : Hid (∀ q, _ = some q → w3.heap.size ≤ q) := fun q hq => (hown.lt q hq).1
        have HO := hidden hown
        have HW := hidden hbw
        have s2 := hbw.size
        have hln : (ss.drop (j + 1)).reverse.length ≤ 41 := by rw [List.length_reverse, List.length_drop, ← HL.out]; omega
        clear hk hjn hll hm hs hown hbw hbB
        go_wp2_with (at_builtin; refine wpList_append_own _ rfl _ _ 27 rfl w3.heap.size 9 i0 (.string ⟨#[]⟩) 1 16 Try.underlying27 hi hz0 hz1 hz2 rfl (by decide) _ _ _ rfl (HO.out.alloc _) ⟨wr.heap.size, 0, none⟩ 1 1 [.string s] rfl rfl ?c1 ?c2 ?c3 ?c4 ?c5 ?_)
        case c1 =>
          intro t u ht
          match t, ht with
          | 0, ht => simp at ht; subst ht; simp [Addr.add]
        case c2 => intro u hu; simp at hu; subst hu; rfl
        case c3 => unfold maxLen; omega
        case c4 => omega
        case c5 => simp; omega
        · intro v' w4 hown4 hgrow _
          have hown5 : w4.ownsRow w3.heap.size 9 1 v' (ss.drop j).reverse.length ((ss.drop j).reverse.map Value.string) := by
            rw [← turned_next HSJ.out]; simpa using hown4
          have hb4 : Below w3.heap.size w3 w4 := (HW.out.alloc HW.out.size _).grown hgrow ((HW.out.alloc HW.out.size _).size) (fun q hq => hnb.out q hq)
          obtain ⟨q, hq, hqt⟩ := HF.out j s HSJ.out
          obtain ⟨t, ht, hts⟩ : ∃ t, textAt l q = some t ∧ strOfNums t = s := by
            rcases ht : textAt l q with _ | t
            · rw [ht] at hqt; cases hqt
            · rw [ht] at hqt; injection hqt with hqt; exact ⟨t, rfl, hqt⟩
          obtain ⟨_, hql, _⟩ := textAt_ends ht
          have hlk : (l.length : Int) ≤ 9223372036854775807 := by have h1 := HK.out; unfold maxLen at hm2; omega
          have hP4 := HP.out w4 w2.heap.size a2 c2 l (HX.out w4 hb4) (Nat.le_trans hx23 hb4.size) (by rw [← HK.out]; exact hc2') (by unfold maxLen at hm2; omega) s hsz
          rw [hq, ← HK.out] at hP4
          have e4 := HRD.out w4 hb4
          have HI5 : Hid (∀ W : World, Below w3.heap.size w3 W → Calls Try.prog 20 #[.slice a2 k2 c2, .int .i64 (q : Int)] W fun e w' => e = .returned (.tuple #[.string s, .bool true]) ∧ Below W.heap.size W w') := fun W hW => by
            have := HI.out W w2.heap.size a2 c2 l (HX.out W hW) (Nat.le_trans hx23 hW.size) (by rw [← HK.out]; exact hc2') (by unfold maxLen at hm2; omega) (q : Int) (by omega) (by omega)
            rw [ht, textVal_some, hts, ← HK.out] at this
            exact this
          have HP4 := hidden hP4
          have hq1 : (q : Int) ≤ 9223372036854775807 := by omega
          have HO5 := hidden hown5
          have HB4 := hidden hb4
          have hbq := beq_str s
          clear hown4 hgrow HO hnb hq hqt ht hts hql hlk hP4 hown5 hb4 e1 HW
          go_wp2_with fail
          refine HP4.out.mono ?_
          rintro e w5 ⟨rfl, hb5⟩
          have hbw5 := HB4.out.trans (hb5.mono HB4.out.size)
          go_wp2_with fail
          refine (HI5.out w5 hbw5).mono ?_
          rintro e w6 ⟨rfl, hb6⟩
          have hbw6 := hbw5.trans (hb6.mono hbw5.size)
          have e6 := HRD.out w6 hbw6
          have ho5 := HO5.out.kept (only_below hb5) (by rcases Classical.em (v'.ownBlock = none) with h | h; exact .inl h; exact .inr h)
          have ho6 := ho5.kept (only_below hb6) (by rcases Classical.em (v'.ownBlock = none) with h | h; exact .inl h; exact .inr h)
          clear HP4 HI5 HO5 HB4 hb5 hb6 ho5 e4 hbw5
          go_wp2_with fail
          go_roundw
          case rel => exact ⟨j, rfl, by omega, hbw6, ho6⟩
          case measure => simp [intOf]

end Go.Proofs.Ytdaddhliedocaaa

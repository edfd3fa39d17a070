/-
  The walk of FnNamesGiven.
-/
import Derived.Test.YtjakkiidedmifaaDrawOG
import Derived.Test.YtjakkiidedmifaaLnkF
import Derived.Test.YtjakkiidedmifaaNamesJ
import Derived.Test.YtjakkiidedmifaaLawO5
import Derived.Deep.RegionWith
namespace Go.Proofs.Ytjakkiidedmifaa
open Go.RowKit

/-- Which symbol is found. -/
theorem use_at (s : ByteArray) : ∀ P : List It, bindsOk P → (useOf s P).given = true → ∃ x ∈ P, (useOf s P).inn = (x.i : Int) ∧ (useOf s P).at_ = (x.j : Int) ∧ x.m.name = s ∧ x.m.loc ≠ -1 ∧ x.m.bind ≠ 0 ∧ (x.m.bind = 1 ↔ 0 < (useOf s P).strong) :=
  snoc_ind (fun _ h => by rw [useOf_nil] at h; cases h) fun P x ih hb hg => by
    have hbP : bindsOk P := fun y hy => hb y (List.mem_append.2 (.inl hy))
    have hx := hb x (List.mem_append.2 (.inr (by simp)))
    have ho := (use_same s P hbP).2.2.2.2
    have ih := ih hbP
    have old : (useOf s P).given = true → (∃ y ∈ P ++ [x], (useOf s P).inn = (y.i : Int) ∧ (useOf s P).at_ = (y.j : Int) ∧ y.m.name = s ∧ y.m.loc ≠ -1 ∧ y.m.bind ≠ 0 ∧ (y.m.bind = 1 ↔ 0 < (useOf s P).strong)) := fun h => by
      obtain ⟨y, hy, q⟩ := ih h
      exact ⟨y, List.mem_append.2 (.inl hy), q⟩
    rw [useOf_snoc] at hg ⊢
    split at hg
    · rename_i hn
      rw [if_pos hn]
      unfold Use.step at hg ⊢
      by_cases hl : x.m.loc = -1
      · rw [if_pos hl] at hg ⊢
        exact old hg
      · rw [if_neg hl] at hg ⊢
        by_cases hb1 : x.m.bind = 1
        · rw [if_pos hb1] at hg ⊢
          by_cases h0 : (useOf s P).strong = 0
          · rw [if_pos h0] at hg ⊢
            exact ⟨x, by simp, rfl, rfl, hn, hl, by omega, by simp only [hb1, true_iff]; omega⟩
          · rw [if_neg h0] at hg ⊢
            have hp : 0 < (useOf s P).strong := by omega
            obtain ⟨y, hy, q1, q2, q3, q4, q5, q6⟩ := old (ho.1 hp)
            exact ⟨y, hy, q1, q2, q3, q4, q5, by rw [q6]; simp only; omega⟩
        · rw [if_neg hb1] at hg ⊢
          by_cases h2 : x.m.bind = 2 ∧ (useOf s P).given = false
          · rw [if_pos h2] at hg ⊢
            have hz : (useOf s P).strong = 0 := by
              rcases Nat.eq_zero_or_pos (useOf s P).strong.toNat with q | q
              · omega
              · have := ho.1 (by omega)
                rw [h2.2] at this; cases this
            exact ⟨x, by simp, rfl, rfl, hn, hl, by omega, by simp only [hz]; constructor <;> intro q <;> omega⟩
          · rw [if_neg h2] at hg ⊢
            exact old hg
    · rename_i hn
      rw [if_neg hn]
      exact old hg
/-- A name that a valid object gives is found in it. -/
theorem given_found {ss : List Sx} {ms : List Sm} {s : ByteArray} (h : s ∈ namesIf gives ss ms) : (findA [(ss, ms)] s).given = true ∧ (findA [(ss, ms)] s).inn = 0 ∧ ∃ j m, (findA [(ss, ms)] s).at_ = ((j : Nat) : Int) ∧ ms[j]? = some m ∧ m.name = s := by
  obtain ⟨hok, m, hm, hg, rfl⟩ := mem_namesIf h
  have hv : validA [(ss, ms)] = true := by unfold validA; simp [hok]
  obtain ⟨i, hi⟩ := List.getElem?_of_mem hm
  have hP : (⟨0, i, m⟩ : It) ∈ itemsA [(ss, ms)] := mem_itemsA.2 ⟨(ss, ms), rfl, hi⟩
  have hgv : (useOf m.name (itemsA [(ss, ms)])).given = true := by
    rw [given_by _ _ (binds_of hv)]
    unfold gives at hg
    rw [Bool.and_eq_true, decide_eq_true_eq, decide_eq_true_eq] at hg
    exact ⟨_, hP, rfl, hg.1, hg.2⟩
  unfold findA
  rw [if_pos hv]
  obtain ⟨x, hx, q1, q2, q3, _⟩ := use_at _ _ (binds_of hv) hgv
  obtain ⟨o, ho, hmj⟩ := mem_itemsA.1 hx
  have hi0 : x.i = 0 := by
    rcases Nat.eq_zero_or_pos x.i with q | q
    · exact q
    · rw [List.getElem?_eq_none (by simp; omega)] at ho; cases ho
  rw [hi0] at ho q1
  simp at ho
  subst ho
  exact ⟨hgv, q1, x.j, x.m, q2, hmj, q3⟩
/-- Around one name's look-up. -/
structure JF (W0 : World) (o1 o2 : Value) (u : Use) (k : Nat) (f : Bool) (Z : World) (vals : Nat → Value) : Prop where
  bel : Below W0.heap.size W0 Z
  sl : k = 1 → ∃ b, vals 0 = .slice (some ⟨b, 0, none⟩) 1 1 ∧ Has Z b 26 #[o1, o2]
  res : 2 ≤ k → vals 1 = .tuple #[.agg #[.int .i64 u.inn, .int .i64 u.at_], .bool u.given]
  late : 2 < k → f = true
  fr : f = true → ∃ h, vals 3 = .pointer (some ⟨h, 0, none⟩) ∧ W0.heap.size ≤ h ∧ Has Z h 32 (if k = 3 then #[.int .i64 u.inn, .int .i64 u.at_] else #[.int .i64 0, .int .i64 0])
section
variable {W0 Z Z' : World} {o1 o2 : Value} {u : Use} {k : Nat} {f : Bool} {vals : Nat → Value}
theorem JF.c0 (h : JF W0 o1 o2 u 0 f Z vals) : JF W0 o1 o2 u 1 f (Z.alloc (.cells #[o1, o2] 26)) (upd vals 0 (.slice (some ⟨Z.heap.size, 0, none⟩) 1 1)) :=
  ⟨h.bel.alloc h.bel.size _, fun _ => ⟨_, rfl, Has.new _ _ _⟩, (fun e => absurd e (by decide)), (fun e => absurd e (by decide)), fun e => by
    obtain ⟨g, q1, q2, q3⟩ := h.fr e
    exact ⟨g, q1, q2, q3.alloc _⟩⟩
theorem JF.c1 (h : JF W0 o1 o2 u 1 f Z vals) (hb : Below Z.heap.size Z Z') : JF W0 o1 o2 u 2 f Z' (upd vals 1 (.tuple #[.agg #[.int .i64 u.inn, .int .i64 u.at_], .bool u.given])) :=
  ⟨h.bel.trans (hb.mono h.bel.size), (fun e => by cases e), fun _ => rfl, (fun e => absurd e (by decide)), fun e => by
    obtain ⟨g, q1, q2, q3⟩ := h.fr e
    exact ⟨g, q1, q2, q3.below hb q3.lt⟩⟩
theorem JF.c2 (h : JF W0 o1 o2 u 2 true Z vals) {g : Nat} (hg : vals 3 = .pointer (some ⟨g, 0, none⟩)) (x : Value) : JF W0 o1 o2 u 3 true ((Z.setCell ⟨g, 0, none⟩ (.int .i64 u.inn)).setCell ⟨g, 1, none⟩ (.int .i64 u.at_)) (upd vals 2 x) := by
  obtain ⟨g', q1, q2, q3⟩ := h.fr rfl
  rw [hg] at q1
  injection q1 with q1
  injection q1 with q1
  injection q1 with q1
  subst q1
  exact ⟨(h.bel.setCell (p := ⟨g, 0, none⟩) q2 _).setCell (p := ⟨g, 1, none⟩) q2 _, (fun e => by cases e), fun _ => h.res (by decide), fun _ => rfl, fun _ => ⟨g, hg, q2, (q3.put 0 _).put 1 _⟩⟩
theorem JF.free (h : JF W0 o1 o2 u k false Z vals) (hk : k ≤ 2) : JF W0 o1 o2 u k true (Z.alloc (.cells #[.int .i64 0, .int .i64 0] 32)) (upd vals 3 (.pointer (some ⟨Z.heap.size, 0, none⟩))) :=
  ⟨h.bel.alloc h.bel.size _, fun e => by
    obtain ⟨b, q1, q2⟩ := h.sl e
    exact ⟨b, q1, q2.alloc _⟩, h.res, fun _ => rfl, fun _ => ⟨_, rfl, h.bel.size, by rw [if_neg (by omega)]; exact Has.new _ _ _⟩⟩
end
set_option maxRecDepth 100000 in
set_option maxHeartbeats 8000000 in
theorem law_NamesGiven (w : World) (a0 : Option Addr) (len cap : Nat) (h : Came w a0 len cap) :
    Calls Try.prog 3 #[.slice a0 len cap] w fun e w' => e = .returned (.bool true) ∧ Below w.heap.size w w' := by
  obtain ⟨l0, h, rfl, hcap, hmax⟩ := h
  by_cases hbig : 1048576 < l0.length
  · have hd : (1048576 : Int) < (l0.length : Int) := by omega
    go_enter Try.func3, Try.ntmps3
    go_wp2
    go_ret
    exact ⟨rfl, Below.refl _ _⟩
  have hd : ¬ (1048576 : Int) < (l0.length : Int) := by omega
  have HD := hidden (drawNamesGiven_any w a0 cap l0 h hcap hmax)
  clear h
  go_enter Try.func3, Try.ntmps3
  go_wp2_with fail
  refine HD.out.mono ?_
  clear HD
  rintro e w1 ⟨ss, ms, a1, a2, c1, c2, rfl, hl1, hl2, hsm, hmm, hS, hM, -, hb1⟩
  have hfs : ∀ y ∈ ss, y.s.fits := fun y hy => (hsm y hy).fits'
  have hfm : ∀ x ∈ ms, x.fits := fun x hx => (hmm x hx).fits
  obtain ⟨S, hSn⟩ : ∃ S, namesIf gives (ss.map Sp.s) ms = S := ⟨_, rfl⟩
  have HSO : Hid (SortedS S) := by show SortedS S; rw [← hSn]; exact namesIf_sorted _ _ _
  have hS20 : S.length ≤ 20 := by rw [← hSn]; exact Nat.le_trans (namesIf_less _ _ _) hl2
  obtain ⟨ns, hns⟩ : ∃ n, ss.length = n := ⟨_, rfl⟩
  obtain ⟨nm, hnm⟩ : ∃ n, ms.length = n := ⟨_, rfl⟩
  have HGF : Hid (∀ s ∈ S, (findA [(ss.map Sp.s, ms)] s).given = true ∧ (findA [(ss.map Sp.s, ms)] s).inn = 0 ∧ ∃ j m, (findA [(ss.map Sp.s, ms)] s).at_ = ((j : Nat) : Int) ∧ ms[j]? = some m ∧ m.name = s) := fun s hs => by
    rw [← hSn] at hs
    exact given_found hs
  have HSZ : Hid (∀ s ∈ S, s.size ≤ maxLen) := fun s hs => by
    rw [← hSn] at hs
    obtain ⟨_, m, hm, _, rfl⟩ := mem_namesIf hs
    exact (hfm m hm).name
  have HSY : Hid (∀ W, Below w1.heap.size w1 W → Syms W W.heap.size a2 ms) := fun W hB => (hM.below hB).more hB.size
  have HIM : Hid (∀ W, Below w1.heap.size w1 W → Calls Try.prog 13 #[.agg #[.slice a1 ns c1, .slice a2 nm c2]] W fun e w' => ∃ (sa : Option Addr) (sc : Nat), e = .returned (.slice sa S.length sc) ∧ Vals w' w'.heap.size sa (S.map Value.string) ∧ Below W.heap.size W w') := fun W hB => by
    have := wantNamesGiven W w1.heap.size a1 a2 c1 c2 ss ms (hS.below hB) (hM.below hB) hB.size (by omega) (by omega) hfs hfm
    rw [hSn, hns, hnm] at this
    exact this.mono fun e w' h => h.vals
  have HSP : Hid (∀ W, Below w1.heap.size w1 W → Calls Try.prog 15 #[.agg #[.slice a1 ns c1, .slice a2 nm c2]] W (Named W S)) := fun W hB => by
    have := namesGiven'_any W w1.heap.size a1 a2 c1 c2 ss.length ms.length ss ms rfl rfl (hS.below hB) (hM.below hB) hB.size (by omega) (by omega) (fun y hy => (hfs y hy).lens) (fun x hx => (hfm x hx).name)
    rwa [hSn, hns, hnm] at this
  have HFN : Hid (∀ (W : World) (b : Nat) (s : ByteArray), Below w1.heap.size w1 W → Has W b 26 #[.slice a1 ns c1, .slice a2 nm c2] → s.size ≤ maxLen → Calls Try.prog 16 #[.slice (some ⟨b, 0, none⟩) 1 1, .string s] W (FoundA W (findA [(ss.map Sp.s, ms)] s))) := fun W b s hB hH hs => by
    refine findName_any W W.heap.size (some ⟨b, 0, none⟩) 1 1 [⟨ss, ms, a1, c1, a2, c2⟩] rfl ⟨fun _ => ⟨b, 0, rfl, hH.lt, fun i y hi => ?_⟩, fun y hy => ?_, fun y hy => ?_⟩ (Nat.le_refl _) (by omega) (fun y hy => ?_) s hs
    · match i, hi with
      | 0, hi =>
        simp at hi
        subst hi
        exact ⟨by rw [← hns] at hH; exact hH.cell 0, by rw [← hnm] at hH; exact hH.cell 1⟩
    · simp only [List.mem_singleton] at hy; subst hy; exact (hS.below hB).more hB.size
    · simp only [List.mem_singleton] at hy; subst hy; exact (hM.below hB).more hB.size
    · simp only [List.mem_singleton] at hy; subst hy; exact ⟨by show ss.length ≤ _; omega, by show ms.length ≤ _; omega, hfs, hfm⟩
  obtain ⟨q, hq⟩ : ∃ q, S.length = q := ⟨_, rfl⟩
  have HES : Hid (∀ (W : World) (B1 B2 : Nat) (x1 x2 : Option Addr) (d1 d2 : Nat), Vals W B1 x1 (S.map Value.string) → Vals W B2 x2 (S.map Value.string) → Calls Try.prog 14 #[.slice x1 q d1, .slice x2 q d2] W fun e w' => e = .returned (.bool true) ∧ Below W.heap.size W w') := fun W B1 B2 x1 x2 d1 d2 k1 k2 =>
    (sameTexts_yes W B1 B2 x1 x2 d1 d2 q S hq.symm k1 k2 (by omega)).mono fun e w' ⟨he, n, hn⟩ => ⟨he, by rw [hn]; exact below_drewN (Below.refl _ _) n⟩
  have hB0 : Below w.heap.size w (w1.alloc (.cells #[.slice a1 ns c1, .slice a2 nm c2] 26)) := hb1.alloc hb1.size _
  have hC0 : Below w1.heap.size w1 (w1.alloc (.cells #[.slice a1 ns c1, .slice a2 nm c2] 26)) := (Below.refl _ _).alloc (Nat.le_refl _) _
  have hx0 : Has (w1.alloc (.cells #[.slice a1 ns c1, .slice a2 nm c2] 26)) w1.heap.size 26 #[.slice a1 ns c1, .slice a2 nm c2] := Has.new _ _ _
  have HQ := hidden hq
  have HNM := hidden hnm
  rw [hns, hnm]
  rw [hq] at hS20 HIM
  unfold Named at HSP
  rw [hq] at HSP
  have hnm20 : nm ≤ 20 := by omega
  have HB1 := hidden hb1
  obtain ⟨W2, hW2⟩ : ∃ q, w1.alloc (.cells #[.slice a1 ns c1, .slice a2 nm c2] 26) = q := ⟨_, rfl⟩
  obtain ⟨qo, hqo⟩ : ∃ q, w1.heap.size = q := ⟨_, rfl⟩
  rw [hW2] at hB0 hC0 hx0
  rw [hqo] at hx0
  have HW2 := hidden hW2
  have HQO := hidden hqo
  have HI2 := hidden (HIM.out W2 hC0)
  have HX2 := hidden hx0
  have HC2 := hidden hC0
  have x0 : W2.cell? ⟨qo, 0, none⟩ = some (.slice a1 ns c1) := hx0.cell 0
  have x1 : W2.cell? ⟨qo, 1, none⟩ = some (.slice a2 nm c2) := hx0.cell 1
  clear hS hM hns hnm hsm hmm hfs hfm hb1 hSn hq hx0 hB0 hC0 hW2 hqo HIM hd
  go_upto_region 4 with fail
  rw [HW2.out, HQO.out]
  clear HW2
  go_wp2_with fail
  refine HI2.out.mono ?_
  clear HI2 x0 x1
  rintro e w3 ⟨xa, xc, rfl, hv3, hb3⟩
  have HX3 := hidden (HX2.out.below hb3 HX2.out.lt)
  have HC3 := hidden (HC2.out.trans (hb3.mono HC2.out.size))
  have HV3 := hidden hv3
  have HS3 := hidden (HSP.out w3 HC3.out)
  have x0 : w3.cell? ⟨qo, 0, none⟩ = some (.slice a1 ns c1) := HX3.out.cell 0
  have x1 : w3.cell? ⟨qo, 1, none⟩ = some (.slice a2 nm c2) := HX3.out.cell 1
  clear hv3 hb3 HX2 HC2 HSP
  go_wp2_with fail
  refine HS3.out.mono ?_
  clear HS3 x0 x1
  rintro e w4 ⟨vb, vo, vc, rfl, _, _, hvb, hvcs, hb4⟩
  have HX4 := hidden (HX3.out.below hb4 HX3.out.lt)
  have HC4 := hidden (HC3.out.trans (hb4.mono HC3.out.size))
  have HV4 := hidden ((HV3.out.below hb4).more hb4.size)
  have HE4 := hidden (HES.out w4 w4.heap.size w4.heap.size xa (some ⟨vb, vo, none⟩) xc vc HV4.out (fun _ => ⟨vb, vo, rfl, hvb, hvcs⟩))
  clear hvb hvcs hb4 HX3 HC3 HV3 HES
  go_wp2_with fail
  refine HE4.out.mono ?_
  clear HE4
  rintro e w5 ⟨rfl, hb5⟩
  have HX5 := hidden (HX4.out.below hb5 HX4.out.lt)
  have HC5 := hidden (HC4.out.trans (hb5.mono HC4.out.size))
  have HV5 := hidden ((HV4.out.below hb5).more hb5.size)
  clear hb5 HX4 HC4 HV4
  go_wp2_with fail
  go_loopw [5] (fun i wr => ∃ k : Nat, i = .int .i64 k ∧ k ≤ q ∧ Below w5.heap.size w5 wr) (fun i _ => q - (intOf i).toNat)
  case atStart => exact ⟨0, rfl, Nat.zero_le _, Below.refl _ _⟩
  case round =>
    obtain ⟨k, rfl, hk, hb⟩ := hrel
    by_cases hlt : k < q
    · have hi : (k : Int) < (q : Int) := by omega
      have hkS : k < S.length := by rw [HQ.out]; exact hlt
      obtain ⟨xb, xo, rfl, hxb, hxc⟩ := HV5.out (by rw [List.length_map]; omega)
      obtain ⟨s, hs⟩ : ∃ s, S[k]? = some s := ⟨_, List.getElem?_eq_getElem hkS⟩
      have hsS := List.mem_of_getElem? hs
      obtain ⟨g1, g2, j, m, g3, g4, g5⟩ := HGF.out s hsS
      have hsz := HSZ.out s hsS
      obtain ⟨u, hu⟩ : ∃ u, findA [(ss.map Sp.s, ms)] s = u := ⟨_, rfl⟩
      rw [hu] at g1 g2 g3
      obtain ⟨ui, ua, ug, us, uw⟩ := u
      simp only at g1 g2 g3
      subst g1
      subst g2
      subst g3
      have HXV : Hid (∀ W, Below w5.heap.size w5 W → W.cell? ⟨xb, xo + k, none⟩ = some (.string s)) := fun W hW => (hW.cell (by show xb < _; exact hxb)).trans (hxc k _ (by rw [List.getElem?_map, hs]; rfl))
      have HXW : Hid (∀ k' s', S[k']? = some s' → ∀ W, Below w5.heap.size w5 W → W.cell? ⟨xb, xo + k', none⟩ = some (.string s')) := fun k' s' h' W hW => (hW.cell (by show xb < _; exact hxb)).trans (hxc k' _ (by rw [List.getElem?_map, h']; rfl))
      have HFS : Hid (∀ (W : World) (b : Nat), Below w5.heap.size w5 W → Has W b 26 #[.slice a1 ns c1, .slice a2 nm c2] → Calls Try.prog 16 #[.slice (some ⟨b, 0, none⟩) 1 1, .string s] W (FoundA W ⟨0, (j : Int), true, us, uw⟩)) := fun W b hW hH => by
        have := HFN.out W b s (HC5.out.trans (hW.mono HC5.out.size)) hH hsz
        rwa [hu] at this
      have HOB : Hid (∀ W, Below w5.heap.size w5 W → W.cell? ⟨qo, 0, none⟩ = some (.slice a1 ns c1) ∧ W.cell? ⟨qo, 1, none⟩ = some (.slice a2 nm c2)) := fun W hW => by
        have := HX5.out.below hW HX5.out.lt
        exact ⟨this.cell 0, this.cell 1⟩
      have hjl : j < nm := by rw [← HNM.out]; exact (List.getElem?_eq_some_iff.1 g4).1
      have HNJ : Hid (∀ W, Below w5.heap.size w5 W → ∃ b o, a2 = some ⟨b, o, none⟩ ∧ W.cell? ⟨b, o + j * 4, none⟩ = some (.string s)) := fun W hW => by
        have hjm := (List.getElem?_eq_some_iff.1 g4).1
        obtain ⟨b, o, e1, _, p0, _⟩ := (HSY.out W (HC5.out.trans (hW.mono HC5.out.size))).at_ hjm
        rw [(List.getElem?_eq_some_iff.1 g4).2, g5] at p0
        exact ⟨b, o, e1, p0⟩
      have HLT := hidden hlt
      have HB := hidden hb
      have HKS := hidden hs
      clear hkS hsS hs hu hsz g4 g5 hxb hxc hb hlt
      go_upto_region 10 with fail
      refine wp_region_free (m := 3) (js := [.quiet (.agg #[.slice a1 ns c1, .slice a2 nm c2]) 0 3, .chain 0 false, .quiet (.slice (some ⟨xb, xo, none⟩) q xc) 0 3, .quiet (.int .i64 (k : Int)) 0 3, .quiet (.pointer (some ⟨xb, xo + k, none⟩)) 0 3, .quiet (.string s) 0 3, .chain 1 false, .quiet (.tuple #[.agg #[.int .i64 0, .int .i64 (j : Int)], .bool true]) 2 3, .quiet (.agg #[.int .i64 0, .int .i64 (j : Int)]) 0 3, .quiet (.bool true) 0 3, .free 3, .chain 2 true, .quiet (.bool true) 0 3]) (by kernel_rfl) (JF wr (.slice a1 ns c1) (.slice a2 nm c2) ⟨0, (j : Int), true, us, uw⟩) (by kernel_rfl) (by kernel_rfl) ⟨fun _ => undef, ⟨(Below.refl _ _).drew, (fun e => by cases e), (fun e => absurd e (by decide)), (fun e => absurd e (by decide)), (fun e => by cases e)⟩⟩ (fun vals => ?_) ?_
      · show SeqX _ _ _ _ _ _ _
        refine ⟨fun kk hlo hhi ff W hW => ?_, ?_⟩
        · obtain ⟨q0, q1⟩ := HOB.out W (HB.out.trans (hW.bel.mono HB.out.size))
          unfold Oper.wp
          simp [go_sem, q0, q1]
          try exact ⟨_, rfl, rfl⟩
        simp only [Act.put, JobX.val, List.setIfInBounds_toArray, List.set_cons_succ, List.set_cons_zero]
        refine ⟨fun ff W hwt hW => ?_, ?_⟩
        · have hN := hW.c0
          unfold Oper.wp
          simp [go_sem]
          first | exact hN | exact ⟨_, rfl, hN⟩
        simp only [Act.put, JobX.val, List.setIfInBounds_toArray, List.set_cons_succ, List.set_cons_zero]
        refine ⟨fun kk hlo hhi ff W hW => ?_, ?_⟩
        · unfold Oper.wp
          simp [go_sem]
          try exact ⟨_, rfl, rfl⟩
        simp only [Act.put, JobX.val, List.setIfInBounds_toArray, List.set_cons_succ, List.set_cons_zero]
        refine ⟨fun kk hlo hhi ff W hW => ?_, ?_⟩
        · unfold Oper.wp
          simp [go_sem]
          try exact ⟨_, rfl, rfl⟩
        simp only [Act.put, JobX.val, List.setIfInBounds_toArray, List.set_cons_succ, List.set_cons_zero]
        refine ⟨fun kk hlo hhi ff W hW => ?_, ?_⟩
        · unfold Oper.wp
          simp [go_sem, hi]
          try exact ⟨_, rfl, rfl⟩
        simp only [Act.put, JobX.val, List.setIfInBounds_toArray, List.set_cons_succ, List.set_cons_zero]
        refine ⟨fun kk hlo hhi ff W hW => ?_, ?_⟩
        · have q0 := HXV.out W (HB.out.trans (hW.bel.mono HB.out.size))
          unfold Oper.wp
          simp [go_sem, q0]
          try exact ⟨_, rfl, rfl⟩
        simp only [Act.put, JobX.val, List.setIfInBounds_toArray, List.set_cons_succ, List.set_cons_zero]
        refine ⟨fun ff W hwt hW => ?_, ?_⟩
        · obtain ⟨b, hv, hH⟩ := hW.sl rfl
          have hc := HFS.out W b (HB.out.trans (hW.bel.mono HB.out.size)) hH
          rw [hv]
          unfold Oper.wp
          simp [go_sem]
          refine hc.mono ?_
          rintro e w' ⟨rfl, hbz⟩
          have hN := hW.c1 hbz
          first | exact hN | exact ⟨_, rfl, hN⟩
        simp only [Act.put, JobX.val, List.setIfInBounds_toArray, List.set_cons_succ, List.set_cons_zero]
        refine ⟨fun kk hlo hhi ff W hW => ?_, ?_⟩
        · have hv := hW.res (by omega)
          rw [hv]
          unfold Oper.wp
          simp [go_sem]
          try exact ⟨_, rfl, rfl⟩
        simp only [Act.put, JobX.val, List.setIfInBounds_toArray, List.set_cons_succ, List.set_cons_zero]
        refine ⟨fun kk hlo hhi ff W hW => ?_, ?_⟩
        · unfold Oper.wp
          simp [go_sem]
          try exact ⟨_, rfl, rfl⟩
        simp only [Act.put, JobX.val, List.setIfInBounds_toArray, List.set_cons_succ, List.set_cons_zero]
        refine ⟨fun kk hlo hhi ff W hW => ?_, ?_⟩
        · unfold Oper.wp
          simp [go_sem]
          try exact ⟨_, rfl, rfl⟩
        simp only [Act.put, JobX.val, List.setIfInBounds_toArray, List.set_cons_succ, List.set_cons_zero]
        refine ⟨fun kk W hW => ?_, ?_⟩
        · by_cases hk2 : kk ≤ 2
          · have hN := hW.free hk2
            unfold Oper.wp
            simp [go_sem]
            first | exact hN | exact ⟨_, rfl, hN⟩
          · exact absurd (hW.late (by omega)) (by simp)
        simp only [Act.put, JobX.val, List.setIfInBounds_toArray, List.set_cons_succ, List.set_cons_zero]
        refine ⟨fun ff W hwt hW => ?_, ?_⟩
        · have hft := hwt rfl
          subst hft
          obtain ⟨g, hv, hgl, hG⟩ := hW.fr rfl
          have hG' : Has W g 32 #[.int .i64 0, .int .i64 0] := hG
          have q0 : W.cell? ⟨g, 0, none⟩ = some (.int .i64 0) := hG'.cell 0
          have q1 : W.cell? ⟨g, 1, none⟩ = some (.int .i64 0) := hG'.cell 1
          have f0 : W.frozen? ⟨g, 0, none⟩ = false := hG'.free 0
          have f1 : W.frozen? ⟨g, 1, none⟩ = false := hG'.free 1
          have hN := fun x => hW.c2 hv x
          rw [hv]
          unfold Oper.wp
          simp [go_sem, q0, q1, f0, f1]
          first | exact hN _ | exact ⟨undef, hN _⟩ | exact ⟨_, rfl, hN _⟩
        simp only [Act.put]
        refine ⟨fun kk hlo hhi ff W hW => ?_, ?_⟩
        · unfold Oper.wp
          simp [go_sem]
          try exact ⟨_, rfl, rfl⟩
        exact trivial
      · intro ff W9 vals hff hJ
        have hft := hff rfl
        subst hft
        obtain ⟨g, hv, hgl, hG⟩ := hJ.fr rfl
        have hG' : Has W9 g 32 #[.int .i64 0, .int .i64 (j : Int)] := hG
        have HB9 := hidden (HB.out.trans (hJ.bel.mono HB.out.size))
        have q0 : W9.cell? ⟨g, 0, none⟩ = some (.int .i64 0) := hG'.cell 0
        have q1 : W9.cell? ⟨g, 1, none⟩ = some (.int .i64 (j : Int)) := hG'.cell 1
        obtain ⟨o0, o1⟩ := HOB.out W9 HB9.out
        obtain ⟨sb, so, rfl, sn⟩ := HNJ.out W9 HB9.out
        have xk := HXV.out W9 HB9.out
        have hji : (j : Int) < (nm : Int) := by omega
        have hj0 : decide ((j : Int) < 0) = false := by simp
        have hj1 : decide ((nm : Int) ≤ (j : Int)) = false := by simp; omega
        have hj2 : decide (nm ≤ j) = false := by simp; omega
        have hj3 : (nm ≤ j) = False := by simp; omega
        have hsq : (s.toList != s.toList) = false := by simp
        simp only [putAll, List.map_cons, List.map_nil, JobX.val, Act.put, List.setIfInBounds_toArray, List.set_cons_succ, List.set_cons_zero]
        rw [hv]
        rcases Nat.eq_zero_or_pos k with hk0 | hkp
        · have hk1 : (0 < k) = False := by simp; omega
          have hk2 : ¬ (0 : Int) < (k : Int) := by omega
          clear hk0
          clear hJ hG hG' hgl hv hff HFS HNJ HXV HXW HOB HB
          go_wp2_with fail
          go_quiet (fail)
          go_wp2_with fail
          go_roundw
          case rel => exact ⟨k + 1, by go_num, HLT.out, below_drewN HB9.out _⟩
          case measure => have := HLT.out; simp [intOf]; omega
        · obtain ⟨k', rfl⟩ : ∃ k', k = k' + 1 := ⟨k - 1, by omega⟩
          have hkS : k' + 1 < S.length := by rw [HQ.out]; exact HLT.out
          have hkS' : k' < S.length := by omega
          obtain ⟨s', hs'⟩ : ∃ s', S[k'] = s' := ⟨_, rfl⟩
          have xk' := HXW.out k' s' (by rw [List.getElem?_eq_getElem hkS', hs']) W9 HB9.out
          have hss : Op.bytesLess s'.toList s.toList = true := by
            have := List.pairwise_iff_getElem.1 HSO.out k' (k' + 1) hkS' hkS (by omega)
            rw [hs', (List.getElem?_eq_some_iff.1 HKS.out).2] at this
            exact this
          have hns : Op.bytesLess s.toList s'.toList = false := by
            rcases hb : Op.bytesLess s.toList s'.toList with _ | _
            · rfl
            · have := less_trans _ _ _ hss hb
              rw [less_irrefl] at this; cases this
          have hnq : (s.toList == s'.toList) = false := str_ne fun e => by rw [e, less_irrefl] at hss; cases hss
          have hk0 : (0 : Int) < (k' : Int) + 1 := by omega
          have hkq : (k' : Int) < (q : Int) := by have := HLT.out; omega
          have hi : (k' : Int) + 1 < (q : Int) := by have := HLT.out; omega
          clear hJ hG hG' hgl hv hff HFS HNJ HXV HXW HOB HB hss hkS hkS' hs'
          go_wp2_with fail
          go_quiet (fail)
          go_wp2_with fail
          refine ⟨⟨k' + 1 + 1, by go_num, HLT.out, below_drewN HB9.out _⟩, ?_⟩
          have := HLT.out
          simp [intOf]
          omega
    · have hi : ¬ (k : Int) < (q : Int) := by omega
      have HF : Hid (Below w.heap.size w wr) := HB1.out.trans ((HC5.out.trans (hb.mono HC5.out.size)).mono HB1.out.size)
      clear hlt hb
      go_wp2_with (go_at_call 17; refine (alive_any _).mono ?_; rintro e _ ⟨rfl, rfl⟩)
      go_ret
      exact ⟨rfl, HF.out⟩

end Go.Proofs.Ytjakkiidedmifaa

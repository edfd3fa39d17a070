/-
  The walk of FnHideNames.
-/
import Derived.Test.YtlkhfgfficehcaaDrawK
import Derived.Test.YtlkhfgfficehcaaHid
import Derived.Test.YtlkhfgfficehcaaAnsK
import Derived.Test.YtlkhfgfficehcaaNamesJ
import Derived.Test.YtlkhfgfficehcaaLawO5
import Derived.Deep.RegionWith
namespace Go.Proofs.Ytlkhfgfficehcaa
open Go.RowKit

theorem hideM_name (K : List ByteArray) (m : Sm) : (hideM K m).name = m.name := by unfold hideM; split <;> rfl
theorem hideM_loc (K : List ByteArray) (m : Sm) : (hideM K m).loc = m.loc := by unfold hideM; split <;> rfl
theorem hideM_value (K : List ByteArray) (m : Sm) : (hideM K m).value = m.value := by unfold hideM; split <;> rfl
theorem hideM_bind (K : List ByteArray) (m : Sm) : (hideM K m).bind = m.bind ∨ ((hideM K m).bind = 0 ∧ stayB K m = false) := by
  unfold hideM
  cases h : stayB K m
  · exact .inr ⟨rfl, rfl⟩
  · exact .inl rfl
theorem hideM_fits {K : List ByteArray} {m : Sm} (h : m.fits) : (hideM K m).fits := by
  refine ⟨by rw [hideM_name]; exact h.name, ?_, by rw [hideM_loc]; exact h.loc, by rw [hideM_value]; exact h.value⟩
  rcases hideM_bind K m with e | ⟨e, _⟩
  · rw [e]; exact h.bind
  · rw [e]; constructor <;> decide
theorem stayB_loc {K : List ByteArray} {m : Sm} (h : stayB K m = false) : m.loc ≠ -1 := by
  unfold stayB at h
  simp only [Bool.or_eq_false_iff, decide_eq_false_iff_not] at h
  exact h.1
theorem symOk_hide {K : List ByteArray} {ss : List Sx} {m : Sm} (h : symOk m ss = true) : symOk (hideM K m) ss = true := by
  unfold symOk at h ⊢
  rw [hideM_name, hideM_loc, hideM_value]
  rcases hideM_bind K m with e | ⟨e, hs⟩
  · rw [e]; exact h
  · have hl := stayB_loc hs
    rw [e]
    rw [if_neg hl] at h ⊢
    simp only [Bool.and_eq_true, decide_eq_true_eq] at h ⊢
    exact ⟨⟨h.1.1, by omega, by omega⟩, h.2⟩
theorem clash_hide {K : List ByteArray} {x y : Sm} (h : clash x y = false) : clash (hideM K x) (hideM K y) = false := by
  unfold clash at h ⊢
  rw [hideM_name, hideM_name]
  rcases hideM_bind K x with ex | ⟨ex, _⟩
  · rcases hideM_bind K y with ey | ⟨ey, _⟩
    · rw [ex, ey]; exact h
    · rw [ey]; simp
  · rw [ex]; simp
theorem symsOk_hide (K : List ByteArray) (ss : List Sx) : ∀ (ms d : List Sm), symsOk ss d ms = true → symsOk ss (d.map (hideM K)) (ms.map (hideM K)) = true
  | [], _, _ => rfl
  | m :: r, d, h => by
    unfold symsOk at h
    simp only [Bool.and_eq_true, List.all_eq_true, Bool.not_eq_true'] at h
    have ih := symsOk_hide K ss r (d ++ [m]) h.2.2
    rw [List.map_cons]
    unfold symsOk
    simp only [Bool.and_eq_true, List.all_eq_true, Bool.not_eq_true']
    refine ⟨symOk_hide h.1, fun x hx => ?_, ?_⟩
    · obtain ⟨x', hx', rfl⟩ := List.mem_map.1 hx
      exact clash_hide (h.2.1 x' hx')
    · rw [List.map_append] at ih; exact ih
theorem objOk_hide {K : List ByteArray} {ss : List Sx} {ms : List Sm} (h : objOk ss ms = true) : objOk ss (ms.map (hideM K)) = true := by
  unfold objOk at h ⊢
  rw [List.length_map]
  simp only [Bool.and_eq_true] at h ⊢
  exact ⟨h.1, symsOk_hide K ss ms [] h.2.1, h.2.2⟩
/-- Only names of the list are given then. -/
theorem hide_given {K : List ByteArray} {ss : List Sx} {ms : List Sm} {s : ByteArray} (h : s ∈ namesIf gives ss (ms.map (hideM K))) : s ∈ K := by
  obtain ⟨-, m', hm', hp, hn⟩ := mem_namesIf h
  obtain ⟨m, hm, rfl⟩ := List.mem_map.1 hm'
  obtain ⟨hl, hb⟩ : (hideM K m).loc ≠ -1 ∧ (hideM K m).bind ≠ 0 := by simpa [gives] using hp
  rw [hideM_loc] at hl
  rw [hideM_name] at hn
  have hs : stayB K m = true := by
    cases hs : stayB K m with
    | true => rfl
    | false =>
      have e : (hideM K m).bind = 0 := by unfold hideM; rw [hs]; rfl
      exact absurd e hb
  unfold stayB at hs
  rw [decide_eq_false hl, Bool.false_or, List.any_eq_true] at hs
  obtain ⟨x, hx, hxe⟩ := hs
  rw [← hn, ← of_decide_eq_true hxe]; exact hx
/-- With all given names nothing changes. -/
theorem hide_same {ss : List Sx} {ms : List Sm} (h : objOk ss ms = true) : ms.map (hideM (namesIf gives ss ms)) = ms := by
  conv => rhs; rw [← List.map_id ms]
  apply List.map_congr_left
  intro m hm
  show hideM _ m = m
  unfold hideM
  cases hs : stayB (namesIf gives ss ms) m with
  | true => rfl
  | false =>
    have hl := stayB_loc hs
    have hb : m.bind = 0 := by
      rcases Decidable.em (m.bind = 0) with e | e
      · exact e
      · exfalso
        have hg : gives m = true := by simp [gives, hl, e]
        have hmem : m.name ∈ namesIf gives ss ms := by
          unfold namesIf
          rw [if_pos h]
          unfold namesOf
          rw [mem_fold_iff]
          exact .inr (List.mem_map.2 ⟨m, List.mem_filter.2 ⟨hm, hg⟩, rfl⟩)
        unfold stayB at hs
        simp only [Bool.or_eq_false_iff] at hs
        have h2 := hs.2
        rw [List.any_eq_false] at h2
        exact h2 m.name hmem (by simp)
    obtain ⟨a, b, c, d⟩ := m
    dsimp only at hb
    rw [hb]; rfl
set_option maxRecDepth 100000 in
set_option maxHeartbeats 8000000 in
theorem law_HideNames (w : World) (a0 : Option Addr) (len cap : Nat) (h : Came w a0 len cap) :
    Calls Try.prog 3 #[.slice a0 len cap] w fun e w' => e = .returned (.bool true) ∧ Below w.heap.size w w' := by
  obtain ⟨l0, h, rfl, hcap, hmax⟩ := h
  by_cases hbig : 1048576 < l0.length
  · have hd : (1048576 : Int) < (l0.length : Int) := by omega
    go_enter Try.func3, Try.ntmps3
    go_wp2
    go_ret
    exact ⟨rfl, Below.refl _ _⟩
  have hd : ¬ (1048576 : Int) < (l0.length : Int) := by omega
  have HD := hidden (drawHideNames_any w a0 cap l0 h hcap hmax)
  clear h
  go_enter Try.func3, Try.ntmps3
  go_wp2_with fail
  refine HD.out.mono ?_
  clear HD
  rintro e w1 ⟨ss, ms, K, a1, a2, ka, c1, c2, kc, rfl, hl1, hl2, hsm, hmm, hS, hM, hK, hK7, hb1⟩
  have hfs : ∀ y ∈ ss, y.s.fits := fun y hy => (hsm y hy).fits'
  have hfm : ∀ x ∈ ms, x.fits := fun x hx => (hmm x hx).fits
  have hnm : ∀ y ∈ ss, y.s.name.size ≤ 1048576 := fun y hy => Nat.le_trans (hsm y hy).name (by decide)
  obtain ⟨A, hA⟩ : ∃ A, hideA K (ss.map Sp.s) ms = A := ⟨_, rfl⟩
  obtain ⟨ok, hok⟩ : ∃ q, objOk (ss.map Sp.s) ms = q := ⟨_, rfl⟩
  have HFA : Hid (A = if ok then (ss.map Sp.s, ms.map (hideM K)) else ([], [])) := by show _ = _; rw [← hA, ← hok]; rfl
  have HGV : Hid (ok = true → (∀ s ∈ namesIf gives A.1 A.2, s ∈ K) ∧ objOk A.1 A.2 = true ∧ hideA (namesIf gives (ss.map Sp.s) ms) (ss.map Sp.s) ms = (ss.map Sp.s, ms)) := fun e => by
    rw [e] at hok
    have hAe : A = (ss.map Sp.s, ms.map (hideM K)) := by rw [← hA]; unfold hideA; rw [if_pos hok]
    rw [hAe]
    refine ⟨fun s hs => hide_given hs, objOk_hide hok, ?_⟩
    unfold hideA
    rw [if_pos hok, hide_same hok]
  have hAs : ∀ s ∈ A.1, s.fits := by
    rw [← hA]
    unfold hideA
    split
    · intro s hs
      obtain ⟨y, hy, rfl⟩ := List.mem_map.1 hs
      exact hfs y hy
    · intro s hs; cases hs
  have hAm : ∀ x ∈ A.2, x.fits := by
    rw [← hA]
    unfold hideA
    split
    · intro x hx
      obtain ⟨y, hy, rfl⟩ := List.mem_map.1 hx
      exact hideM_fits (hfm y hy)
    · intro x hx; cases hx
  obtain ⟨N, hN⟩ : ∃ q, A.1.length = q := ⟨_, rfl⟩
  obtain ⟨M, hMl⟩ : ∃ q, A.2.length = q := ⟨_, rfl⟩
  have hN8 : N ≤ 8 := by rw [← hN, ← hA]; unfold hideA; split <;> simp; exact hl1
  have hM20 : M ≤ 20 := by rw [← hMl, ← hA]; unfold hideA; split <;> simp; exact hl2
  obtain ⟨ns, hns⟩ : ∃ n, ss.length = n := ⟨_, rfl⟩
  obtain ⟨nm, hnm2⟩ : ∃ n, ms.length = n := ⟨_, rfl⟩
  obtain ⟨nk, hnk⟩ : ∃ n, K.length = n := ⟨_, rfl⟩
  have HIM : Hid (∀ W, Below w1.heap.size w1 W → Calls Try.prog 8 #[.agg #[.slice a1 ns c1, .slice a2 nm c2], .slice ka nk kc] W (AnsN W A N M)) := fun W hB => by
    have := hideNames_any W w1.heap.size a1 a2 c1 c2 ns nm ss ms hns.symm hnm2.symm (hS.below hB) (hM.below hB) hB.size (by omega) (by omega) hfs hfm hnm K ka nk kc (hK.below hB) hnk (by omega)
    rw [hA] at this
    exact this.mono fun e w' h => h.parts hN hMl
  have HIG : Hid (∀ (W : World) (S : List ByteArray) (ga : Option Addr) (gc : Nat), Below w1.heap.size w1 W → Vals W W.heap.size ga (S.map Value.string) → S.length ≤ 1048576 → Calls Try.prog 8 #[.agg #[.slice a1 ns c1, .slice a2 nm c2], .slice ga S.length gc] W (AnsO W (hideA S (ss.map Sp.s) ms))) := fun W S ga gc hB hv hs =>
    hideNames_any W W.heap.size a1 a2 c1 c2 ns nm ss ms hns.symm hnm2.symm ((hS.below hB).more hB.size) ((hM.below hB).more hB.size) (Nat.le_refl _) (by omega) (by omega) hfs hfm hnm S ga S.length gc hv rfl hs
  have HSP : Hid (∀ W, Below w1.heap.size w1 W → Calls Try.prog 10 #[.agg #[.slice a1 ns c1, .slice a2 nm c2], .slice ka nk kc] W (AnsN W A N M)) := fun W hB => by
    have := hideNames'_any W w1.heap.size a1 a2 c1 c2 ns nm ss ms hns.symm hnm2.symm (hS.below hB) (hM.below hB) hB.size (by omega) (by omega) (fun y hy => (hfs y hy).lens) (fun x hx => (hfm x hx).name) hnm K ka nk kc (hK.below hB) hnk (by omega)
    rw [hA] at this
    exact this.mono fun e w' h => h.parts hN hMl
  have HOV : Hid (∀ W, Below w1.heap.size w1 W → Calls Try.prog 11 #[.agg #[.slice a1 ns c1, .slice a2 nm c2]] W fun e w' => e = .returned (.bool ok) ∧ Below W.heap.size W w') := fun W hB => by
    have := objectValid'_any W w1.heap.size a1 a2 c1 c2 ns nm ss ms hns.symm hnm2.symm (hS.below hB) (hM.below hB) hB.size (by omega) (by omega) (fun y hy => (hfs y hy).lens) (fun x hx => (hfm x hx).name)
    rwa [hok] at this
  have HGO : Hid (∀ W, Below w1.heap.size w1 W → Calls Try.prog 13 #[.agg #[.slice a1 ns c1, .slice a2 nm c2]] W (FreshS W (namesIf gives (ss.map Sp.s) ms))) := fun W hB => by
    have := wantNamesGiven W w1.heap.size a1 a2 c1 c2 ss ms (hS.below hB) (hM.below hB) hB.size (by omega) (by omega) hfs hfm
    rwa [hns, hnm2] at this
  have HGX : Hid (∀ (W : World) (L : List Sp) (p1 p2 : Option Addr) (d1 d2 lo : Nat), L.map Sp.s = A.1 → OwnR W lo p1 p2 N M d1 d2 L A.2 → Calls Try.prog 13 #[.agg #[.slice p1 N d1, .slice p2 M d2]] W (FreshS W (namesIf gives A.1 A.2)) ∧
      Calls Try.prog 14 #[.agg #[.slice p1 N d1, .slice p2 M d2]] W fun e w' => e = .returned (.bool (objOk A.1 A.2)) ∧ Below W.heap.size W w') := fun W L p1 p2 d1 d2 lo hL hO => by
    have hLf : ∀ y ∈ L, y.s.fits := fun y hy => hAs y.s (by rw [← hL]; exact List.mem_map_of_mem hy)
    have g1 := wantNamesGiven W W.heap.size p1 p2 d1 d2 L A.2 hO.sects hO.syms' (Nat.le_refl _) (by rw [hO.len]; omega) (by rw [hO.lem]; omega) hLf hAm
    have g2 := objectValid_any W W.heap.size p1 p2 d1 d2 N M L A.2 hO.len.symm hO.lem.symm hO.sects hO.syms' (Nat.le_refl _) (by omega) (by omega) hLf hAm
    rw [hL, hO.len, hO.lem] at g1
    rw [hL] at g2
    exact ⟨g1, g2⟩
  have HSM : Hid (∀ (W : World) (L L' : List Sp) (p1 p2 v1 v2 : Option Addr) (d1 d2 z1 z2 lo lo' : Nat), L.map Sp.s = A.1 → L'.map Sp.s = A.1 → OwnR W lo p1 p2 N M d1 d2 L A.2 → OwnR W lo' v1 v2 N M z1 z2 L' A.2 → Calls Try.prog 9 #[.agg #[.slice p1 N d1, .slice p2 M d2], .agg #[.slice v1 N z1, .slice v2 M z2]] W fun e w' => e = .returned (.bool true) ∧ Below W.heap.size W w') := fun W L L' p1 p2 v1 v2 d1 d2 z1 z2 lo lo' hL hL' hO hO' =>
    sameObject_yes W W.heap.size p1 v1 p2 v2 d1 z1 d2 z2 N M L L' A.2 (hL.trans hL'.symm) hO.len.symm hO.lem.symm hO.sects hO'.sects hO.syms' hO'.syms' (Nat.le_refl _) (by omega) (by omega) (fun y hy => (hAs y.s (by rw [← hL]; exact List.mem_map_of_mem hy)).lens)
  have HSO : Hid (∀ (W : World) (L : List Sp) (p1 p2 : Option Addr) (d1 d2 lo : Nat), Below w1.heap.size w1 W → L.map Sp.s = ss.map Sp.s → OwnR W lo p1 p2 ns nm d1 d2 L ms → Calls Try.prog 9 #[.agg #[.slice p1 ns d1, .slice p2 nm d2], .agg #[.slice a1 ns c1, .slice a2 nm c2]] W fun e w' => e = .returned (.bool true) ∧ Below W.heap.size W w') := fun W L p1 p2 d1 d2 lo hB hL hO =>
    sameObject_yes W W.heap.size p1 a1 p2 a2 d1 c1 d2 c2 ns nm L ss ms hL hO.len.symm hO.lem.symm hO.sects ((hS.below hB).more hB.size) hO.syms' ((hM.below hB).more hB.size) (Nat.le_refl _) (by omega) (by omega) (fun y hy => by
      have hm : y.s ∈ ss.map Sp.s := by rw [← hL]; exact List.mem_map_of_mem hy
      obtain ⟨z, hz, e⟩ := List.mem_map.1 hm
      rw [← e]; exact (hfs z hz).lens)
  have HKV : Hid (∀ W, Below w1.heap.size w1 W → Vals W W.heap.size ka (K.map Value.string)) := fun W hB => (hK.below hB).more hB.size
  have HB1 := hidden hb1
  have HNK := hidden hnk
  have HNS := hidden hns
  have HNMM := hidden hnm2
  have HGL : Hid ((namesIf gives A.1 A.2).length ≤ 20) := Nat.le_trans (namesIf_less _ _ _) (by rw [hMl]; exact hM20)
  have HGM : Hid ((namesIf gives (ss.map Sp.s) ms).length ≤ 20) := Nat.le_trans (namesIf_less _ _ _) hl2
  have HN := hidden hN
  have HML := hidden hMl
  rw [hns, hnm2, hnk]
  have hk7 : nk ≤ 7 := by omega
  clear hl1 hl2 hsm hmm hS hM hK hK7 hb1 hfs hfm hnm hA hok hAs hAm hN hMl hns hnm2 hnk
  have hbO : Below w1.heap.size w1 (w1.alloc (.cells #[.slice a1 ns c1, .slice a2 nm c2] 26)) := (Below.refl _ _).alloc (Nat.le_refl _) _
  have hO : Has (w1.alloc (.cells #[.slice a1 ns c1, .slice a2 nm c2] 26)) w1.heap.size 26 #[.slice a1 ns c1, .slice a2 nm c2] := Has.new _ _ _
  have hs2 : (w1.alloc (.cells #[.slice a1 ns c1, .slice a2 nm c2] 26)).heap.size = w1.heap.size + 1 := by simp
  obtain ⟨W2, hW2⟩ : ∃ q, w1.alloc (.cells #[.slice a1 ns c1, .slice a2 nm c2] 26) = q := ⟨_, rfl⟩
  obtain ⟨qo, hqo⟩ : ∃ q, w1.heap.size = q := ⟨_, rfl⟩
  rw [hW2] at hbO hO hs2
  rw [hqo] at hO hs2
  have HBO := hidden hbO
  have HO := hidden hO
  have HW2 := hidden hW2
  have HQO := hidden hqo
  have HS2 := hidden hs2
  have HI2 := hidden (HIM.out W2 hbO)
  have x0 : W2.cell? ⟨qo, 0, none⟩ = some (.slice a1 ns c1) := hO.cell 0
  have x1 : W2.cell? ⟨qo, 1, none⟩ = some (.slice a2 nm c2) := hO.cell 1
  clear hbO hO hW2 hqo hs2 HIM hd
  go_upto_region 4 with fail
  rw [HW2.out, HQO.out]
  clear HW2
  -- the program's answer
  go_wp2_with fail
  refine HI2.out.mono ?_
  clear HI2 x0 x1
  rintro e w3 ⟨L, p1, p2, d1, d2, rfl, hL, hOw, hb3⟩
  have hBa := HBO.out.trans (hb3.mono HBO.out.size)
  have hOa := HO.out.below hb3 HO.out.lt
  have hbX : Below w3.heap.size w3 (w3.alloc (.cells #[.slice p1 N d1, .slice p2 M d2] 26)) := (Below.refl _ _).alloc (Nat.le_refl _) _
  have hX : Has (w3.alloc (.cells #[.slice p1 N d1, .slice p2 M d2] 26)) w3.heap.size 26 #[.slice p1 N d1, .slice p2 M d2] := Has.new _ _ _
  obtain ⟨W3, hW3⟩ : ∃ q, w3.alloc (.cells #[.slice p1 N d1, .slice p2 M d2] 26) = q := ⟨_, rfl⟩
  obtain ⟨qx, hqx⟩ : ∃ q, w3.heap.size = q := ⟨_, rfl⟩
  have hB3 := hBa.trans (hbX.mono hBa.size)
  have hO3 := hOa.below hbX hOa.lt
  have hR3 := hOw.below hbX
  rw [hW3] at hX hB3 hO3 hR3
  rw [hqx] at hX
  have HL := hidden hL
  have HB3 := hidden hB3
  have HO3 := hidden hO3
  have HR3 := hidden hR3
  have HX3 := hidden hX
  have HW3 := hidden hW3
  have HQX := hidden hqx
  have x0 : W3.cell? ⟨qo, 0, none⟩ = some (.slice a1 ns c1) := hO3.cell 0
  have x1 : W3.cell? ⟨qo, 1, none⟩ = some (.slice a2 nm c2) := hO3.cell 1
  have y0 : W3.cell? ⟨qx, 0, none⟩ = some (.slice p1 N d1) := hX.cell 0
  have y1 : W3.cell? ⟨qx, 1, none⟩ = some (.slice p2 M d2) := hX.cell 1
  have HS3 := hidden (HSP.out W3.drew hB3.drew)
  have HR3d := hidden (hR3.below (Below.refl _ _).drew)
  clear hL hOw hb3 hBa hOa hbX hX hW3 hqx hB3 hO3 hR3 HBO HO HSP
  go_upto_region 5 with fail
  rw [HW3.out, HQX.out]
  clear HW3
  -- the model's answer is the same
  go_cut [26] from 21 (fun v wx => v = .bool false ∧ Hid (Below W3.heap.size W3 wx))
  case first =>
    go_region_with (first
      | (go_at_call 10; refine HS3.out.mono ?_; rintro e w4 ⟨L', u1, u2, z1, z2, rfl, hL', hO', hb4⟩;
         have HB4 := hidden hb4; have HL4 := hidden hL'; have HO4 := hidden hO'; have hx4 : Has w4 qx 26 #[.slice p1 N d1, .slice p2 M d2] := Has.below (show Has W3.drew qx 26 #[.slice p1 N d1, .slice p2 M d2] from HX3.out) hb4 HX3.out.lt; clear hb4 hL' hO';
         have v0 := hx4.cell 0; have v1 := hx4.cell 1;
         simp only [List.getElem?_toArray, List.getElem?_cons_zero, List.getElem?_cons_succ] at v0 v1; clear hx4)
      | (go_at_call 9; refine (HSM.out w4 L L' p1 p2 u1 u2 d1 d2 z1 z2 _ _ HL.out HL4.out (HR3d.out.below HB4.out) HO4.out).mono ?_; rintro e w5 ⟨rfl, hb5⟩))
    all_goals
      have hB5 : Below W3.heap.size W3 w5 := ((Below.refl _ _).drew.trans HB4.out).trans (hb5.mono HB4.out.size)
      clear hb5
      go_wp2_with fail
      go_meet
      exact ⟨rfl, hB5⟩
  case rest =>
    obtain ⟨rfl, hbc⟩ := hcut
    have HBc := hidden (HB3.out.trans (hbc.out.mono HB3.out.size))
    have HOc := hidden (HO3.out.below hbc.out HO3.out.lt)
    have HXc := hidden (HX3.out.below hbc.out HX3.out.lt)
    have HRc := hidden (HR3.out.below hbc.out)
    have x0 : wc.cell? ⟨qo, 0, none⟩ = some (.slice a1 ns c1) := HOc.out.cell 0
    have x1 : wc.cell? ⟨qo, 1, none⟩ = some (.slice a2 nm c2) := HOc.out.cell 1
    have HVc := hidden (HOV.out wc HBc.out)
    clear hbc HB3 HO3 HX3 HR3 HS3 y0 y1 HSM HOV
    go_wp2_with fail
    refine HVc.out.mono ?_
    clear HVc x0 x1
    rintro e w5 ⟨rfl, hb5⟩
    have HB5 := hidden (HBc.out.trans (hb5.mono HBc.out.size))
    have HO5 := hidden (HOc.out.below hb5 HOc.out.lt)
    have HX5 := hidden (HXc.out.below hb5 HXc.out.lt)
    have HR5 := hidden (HRc.out.below hb5)
    have y0 : w5.cell? ⟨qx, 0, none⟩ = some (.slice p1 N d1) := HX5.out.cell 0
    have y1 : w5.cell? ⟨qx, 1, none⟩ = some (.slice p2 M d2) := HX5.out.cell 1
    clear hb5 HBc HOc HXc HRc
    cases ok with
    | false =>
      have hN0 : N = 0 := by rw [← HN.out, HFA.out]; rfl
      have hM0 : M = 0 := by rw [← HML.out, HFA.out]; rfl
      rw [hN0] at y0
      rw [hM0] at y1
      have hBe : Below w.heap.size w w5 := HB1.out.trans (HB5.out.mono HB1.out.size)
      clear HFA HGV HIG HGO HGX HSO HKV HGL HGM HR5 HO5 HB5 HX5 hN0 hM0
      go_wp2_with (go_at_call 12; refine (alive_any _).mono ?_; rintro e _ ⟨rfl, rfl⟩)
      go_ret
      exact ⟨rfl, hBe⟩
    | true =>
      obtain ⟨G, hG⟩ : ∃ q, namesIf gives A.1 A.2 = q := ⟨_, rfl⟩
      obtain ⟨r, hr⟩ : ∃ q, G.length = q := ⟨_, rfl⟩
      obtain ⟨hgk, hok2, hsm2⟩ := HGV.out rfl
      have HG5 := HGX.out w5 L p1 p2 d1 d2 _ HL.out HR5.out
      have HVX := hidden fun (W : World) (hB : Below w5.heap.size w5 W) => (HGX.out W L p1 p2 d1 d2 _ HL.out (HR5.out.below hB)).2
      rw [hok2] at HVX
      have HG5 := hidden HG5.1
      have HGO2 : Hid (∀ W, Below w1.heap.size w1 W → Calls Try.prog 13 #[.agg #[.slice a1 ns c1, .slice a2 nm c2]] W fun e w' => ∃ (sa : Option Addr) (sc : Nat), e = .returned (.slice sa (namesIf gives (ss.map Sp.s) ms).length sc) ∧ Vals w' w'.heap.size sa ((namesIf gives (ss.map Sp.s) ms).map Value.string) ∧ Below W.heap.size W w') := fun W hB => (HGO.out W hB).mono fun e w' h => h.vals
      have HIG2 : Hid (∀ (W : World) (ga : Option Addr) (gc : Nat), Below w1.heap.size w1 W → Vals W W.heap.size ga ((namesIf gives (ss.map Sp.s) ms).map Value.string) → Calls Try.prog 8 #[.agg #[.slice a1 ns c1, .slice a2 nm c2], .slice ga (namesIf gives (ss.map Sp.s) ms).length gc] W (AnsN W (ss.map Sp.s, ms) ns nm)) := fun W ga gc hB hv => by
        have := HIG.out W _ ga gc hB hv (Nat.le_trans HGM.out (by decide))
        rw [hsm2] at this
        exact this.mono fun e w' h => h.parts (by rw [List.length_map]; exact HNS.out) HNMM.out
      obtain ⟨S, hS⟩ : ∃ q, namesIf gives (ss.map Sp.s) ms = q := ⟨_, rfl⟩
      obtain ⟨sl, hsl⟩ : ∃ q, S.length = q := ⟨_, rfl⟩
      rw [hS, hsl] at HGO2 HIG2
      rw [hG] at hgk HG5
      have HGK := hidden hgk
      have HR := hidden hr
      have hr20 : r ≤ 20 := by rw [← hr, ← hG]; exact HGL.out
      clear hG hr hgk hok2 hsm2 hS hsl HFA HGV HIG HGO HGX HGL HGM HR5
      go_wp2_with fail
      refine HG5.out.mono ?_
      clear HG5 y0 y1
      rintro e w6 hfr
      obtain ⟨ga, gc, rfl, hv6, hb6⟩ := hfr.vals
      have HV6 := hidden hv6
      have HB6 := hidden (HB5.out.trans (hb6.mono HB5.out.size))
      have HO6 := hidden (HO5.out.below hb6 HO5.out.lt)
      have HX6 := hidden (HX5.out.below hb6 HX5.out.lt)
      have HV56 := hidden hb6
      have HK6 := hidden (HKV.out w6 HB6.out)
      rw [HR.out]
      clear hfr hv6 hb6 HB5 HO5 HX5 HKV
      go_wp2_with fail
      go_loopw [7] (fun i wr => ∃ (k : Nat) (p : Nat), i = .int .i64 k ∧ k ≤ r ∧ wr = w6.drewN p) (fun i _ => r - (intOf i).toNat)
      case atStart => exact ⟨0, 0, rfl, Nat.zero_le _, rfl⟩
      case round =>
        obtain ⟨k, p, rfl, hk, rfl⟩ := hrel
        by_cases hlt : k < r
        · have hi : (k : Int) < (r : Int) := by omega
          have hkG : k < G.length := by rw [HR.out]; exact hlt
          obtain ⟨gb, go, rfl, _, e1⟩ := HV6.out.at_ (i := k) (by rw [List.length_map]; exact hkG)
          obtain ⟨s, hs⟩ : ∃ s, G[k] = s := ⟨_, rfl⟩
          have HSK : Hid (K.any (fun x => decide (x = s)) = true) := by
            show _ = _
            rw [List.any_eq_true]
            exact ⟨s, HGK.out s (by rw [← hs]; exact List.getElem_mem hkG), by simp⟩
          have E1 : Hid (w6.cell? ⟨gb, go + k, none⟩ = some (.string s)) := by rw [List.getElem_map, hs] at e1; exact e1
          have HLT := hidden hlt
          clear e1 hs hkG hlt
          go_wp2_with fail
          go_loopw [8, 9] (fun fv i ws => ∃ j p : Nat, i = .int .i64 j ∧ fv = .bool ((K.take j).any fun x => decide (x = s)) ∧ j ≤ nk ∧ ws = w6.drewN p) (fun _ i _ => nk - (intOf i).toNat)
          case atStart => exact ⟨0, p, rfl, by simp, Nat.zero_le _, rfl⟩
          case round =>
            obtain ⟨j, p, rfl, rfl, hj, rfl⟩ := hrel
            by_cases hltj : j < nk
            · have hiltj : (j : Int) < (nk : Int) := by omega
              have hjK : j < K.length := by rw [HNK.out]; exact hltj
              obtain ⟨x, hx⟩ : ∃ x, K[j]? = some x := ⟨_, List.getElem?_eq_getElem hjK⟩
              obtain ⟨kb, ko, rfl, _, e2⟩ := HK6.out.at_ (i := j) (by rw [List.length_map]; exact hjK)
              have e2' : w6.cell? ⟨kb, ko + j, none⟩ = some (.string x) := by rw [List.getElem_map, List.getElem?_eq_some_iff.1 hx |>.2] at e2; exact e2
              have e1 := E1.out
              obtain ⟨fj, hfj⟩ : ∃ q, ((K.take j).any fun x => decide (x = s)) = q := ⟨_, rfl⟩
              have HFN : Hid (((K.take (j + 1)).any fun x => decide (x = s)) = (fj || decide (x = s))) := by
                show _ = _
                rw [take_next hx, List.any_append, ← hfj]; simp
              rw [hfj]
              clear hltj hx hjK hfj e2
              cases fj with
              | true =>
                have HFN' : Hid (((K.take (j + 1)).any fun x => decide (x = s)) = true) := by show _ = _; rw [HFN.out]; rfl
                clear HFN
                go_wp2_with fail
                go_quiet (fail)
                go_wp2_with fail
                go_roundw
                case rel => exact ⟨j + 1, _, by go_num, by rw [HFN'.out], by omega, rfl⟩
                case measure => simp [intOf]; omega
              | false =>
                have hd : (x.toList == s.toList) = decide (x = s) := by
                  by_cases e : x = s
                  · rw [e]; simp
                  · rw [str_ne e, decide_eq_false e]
                obtain ⟨t, ht⟩ : ∃ q, decide (x = s) = q := ⟨_, rfl⟩
                rw [ht] at hd
                have HFN' : Hid (((K.take (j + 1)).any fun x => decide (x = s)) = t) := by show _ = _; rw [HFN.out, ht]; rfl
                clear HFN ht
                go_wp2_with fail
                go_quiet (fail)
                go_wp2_with fail
                go_roundw
                case rel => exact ⟨j + 1, _, by go_num, by rw [HFN'.out], by omega, rfl⟩
                case measure => simp [intOf]; omega
            · have hiltj : ¬ (j : Int) < (nk : Int) := by omega
              have hfj : ((K.take j).any fun x => decide (x = s)) = true := by
                rw [List.take_of_length_le (by rw [HNK.out]; omega)]; exact HSK.out
              rw [hfj]
              clear hltj hfj
              go_wp2_with fail
              go_roundw
              case rel => exact ⟨k + 1, _, by go_num, HLT.out, rfl⟩
              case measure => have := HLT.out; simp [intOf]; omega
        · have hi : ¬ (k : Int) < (r : Int) := by omega
          clear hlt
          have hbd : Below w6.heap.size w6 (w6.drewN p).drew := (below_drewN (Below.refl _ _) p).drew
          have HVD := hidden (HVX.out (w6.drewN p).drew (HV56.out.trans (hbd.mono HV56.out.size)))
          have HBD := hidden (HB6.out.trans (hbd.mono HB6.out.size))
          have HOD : Hid (Has (w6.drewN p).drew qo 26 #[.slice a1 ns c1, .slice a2 nm c2]) := HO6.out.below hbd HO6.out.lt
          have e0 : w6.cell? ⟨qo, 0, none⟩ = some (.slice a1 ns c1) := HO6.out.cell 0
          have e1 : w6.cell? ⟨qo, 1, none⟩ = some (.slice a2 nm c2) := HO6.out.cell 1
          have f0 : w6.cell? ⟨qx, 0, none⟩ = some (.slice p1 N d1) := HX6.out.cell 0
          have f1 : w6.cell? ⟨qx, 1, none⟩ = some (.slice p2 M d2) := HX6.out.cell 1
          clear hbd HVX HV56 HB6 HO6 HX6 HV6 HK6 HGK
          go_wp2_with fail
          go_region_with (first
            | (go_at_call 14; refine HVD.out.mono ?_; rintro e w7 ⟨rfl, hb7⟩;
               have HB7 := hidden (HBD.out.trans (hb7.mono HBD.out.size)); have HO7 := hidden (HOD.out.below hb7 HOD.out.lt); have ho7 := HO7.out; clear hb7;
               have o0 := ho7.cell 0; have o1 := ho7.cell 1;
               simp only [List.getElem?_toArray, List.getElem?_cons_zero, List.getElem?_cons_succ] at o0 o1; clear ho7)
            | (go_at_call 13; refine (HGO2.out _ HB7.out).mono ?_; rintro e w8 ⟨sa, sc, rfl, hv8, hb8⟩;
               have HB8 := hidden (HB7.out.trans (hb8.mono HB7.out.size)); have HO8 := hidden (HO7.out.below hb8 HO7.out.lt); have ho8 := HO8.out; have HV8 := hidden hv8; clear hb8 hv8;
               have o0 := ho8.cell 0; have o1 := ho8.cell 1;
               simp only [List.getElem?_toArray, List.getElem?_cons_zero, List.getElem?_cons_succ] at o0 o1; clear ho8)
            | (go_at_call 8; refine (HIG2.out _ sa sc HB8.out HV8.out).mono ?_; rintro e w9 ⟨L', u1, u2, z1, z2, rfl, hL', hO', hb9⟩;
               have HB9 := hidden (HB8.out.trans (hb9.mono HB8.out.size)); have HO9 := hidden (HO8.out.below hb9 HO8.out.lt); have ho9 := HO9.out; have HL9 := hidden hL'; have HR9 := hidden hO'; clear hb9 hL' hO';
               have o0 := ho9.cell 0; have o1 := ho9.cell 1;
               simp only [List.getElem?_toArray, List.getElem?_cons_zero, List.getElem?_cons_succ] at o0 o1; clear ho9)
            | (go_at_call 9; refine (HSO.out w9 L' u1 u2 z1 z2 _ HB9.out HL9.out HR9.out).mono ?_; rintro e w10 ⟨rfl, hb10⟩))
          all_goals
            have hBe : Below w.heap.size w w10 := HB1.out.trans ((HB9.out.trans (hb10.mono HB9.out.size)).mono HB1.out.size)
            clear hb10
            go_wp2_with fail
            go_ret
            exact ⟨rfl, hBe⟩

end Go.Proofs.Ytlkhfgfficehcaa
